/-
  Walk: awake of layer 8.
-/
import Derived.Test.YthgkonjglappjabU9
set_option linter.unusedVariables false
set_option linter.unusedSimpArgs false
set_option maxRecDepth 100000
namespace Go.Proofs.Ythgkonjglappjab
open Go.RowKit

theorem urow_ab {w : World} {g : Nat} {a b : Int} {t : TypeId} (h : w.heap[g]? = some (.cells #[.int .u64 a, .int .u64 b] t (0, 0))) (ha : U64 a) (hb : U64 b) : URow w (some ⟨g, 0, none⟩) 2 2 [a, b] :=
  ⟨rfl, Nat.le_refl _, by unfold maxLen; omega, fun e => (by cases e), fun y hy => by simp at hy; rcases hy with rfl | rfl <;> assumption, .inr ⟨g, 0, rfl, (Array.getElem?_eq_some_iff.1 h).1, fun i hi => by
    have : i = 0 ∨ i = 1 := by simp at hi; omega
    rcases this with rfl | rfl
    · exact blk_cell h 0
    · exact blk_cell h 1⟩⟩
theorem alloc_ab {B : Nat} {v : Value} {F : Nat → Prop} {os : List Ob} {N : Int} (ho : OsOk os) (a b : Int) (ha : U64 a) (hb : U64 b) (w0 w : World) (h : PH B v N (wordsL os) F w) (hbl : Below B w0 w) (hB : B ≤ w.heap.size) :
    Calls Try.prog 12 #[v, .int .i64 1, .slice (some ⟨w.heap.size, 0, none⟩) 2 2] (w.alloc (.cells #[.int .u64 a, .int .u64 b] 32)) fun e w' => e = .returned (.tuple #[.int .u64 (allocM os N 1 [a, b]).1, .int .i64 (allocM os N 1 [a, b]).2]) ∧ ∃ F', PH B v N (wordsL (allocO os N 1 [a, b])) F' w' ∧ Below B w0 w' ∧ B ≤ w'.heap.size := by
  have hk : PH B v N (wordsL os) F (w.alloc (.cells #[.int .u64 a, .int .u64 b] 32)) := h.keep (fun b hb' => (Ba w _).block b (h.ge b hb').2)
  have hB2 : B ≤ (w.alloc (.cells #[.int .u64 a, .int .u64 b] 32)).heap.size := by rw [size_alloc]; omega
  refine (palloc_any ho 1 (by unfold Z64; omega) (some ⟨w.heap.size, 0, none⟩) 2 2 [a, b] _ hk (urow_ab (blk_new w _ _) ha hb) hB2 (fun a' ha' hf => ?_) (by omega)).mono ?_
  · cases ha'; have := (h.ge _ hf).2; simp at this
  rintro e w' ⟨rfl, hp⟩
  have hbl2 := PPost.below hk hp hB2
  obtain ⟨F', p1, p2, p3⟩ := hp
  exact ⟨rfl, F', p1, (hbl.trans ((Ba w _).mono hB)).trans hbl2, Nat.le_trans hB2 hbl2.size⟩
def o1 : List Ob := [⟨1, [2, 2]⟩]
def o2 : List Ob := [⟨1, [2, 2]⟩, ⟨1, [2, 2]⟩]
def o3 : List Ob := [⟨1, [2, 2]⟩, ⟨1, [2, 2]⟩, ⟨1, [18, 10]⟩]
def o4 : List Ob := [⟨1, [2, 2]⟩, ⟨1, [49, 2]⟩, ⟨1, [18, 10]⟩]
def o5 : List Ob := [⟨1, [25, 2]⟩, ⟨1, [18, 10]⟩]
theorem o_ok {os : List Ob} (h : os = [] ∨ os = o1 ∨ os = o2 ∨ os = o3 ∨ os = o4) : OsOk os := by
  have key : ∀ (l : List Ob), (l.all (fun x => decide (1 ≤ x.kind) && decide (x.kind ≤ 22) && x.f.all (fun z => decide (0 ≤ z) && decide (z < 18446744073709551616) && !isHd z))) = true → OsOk l := fun l hl => by
    rw [List.all_eq_true] at hl
    refine ⟨fun x hx => ?_, fun x hx z hz => ?_, fun x hx z hz => ?_⟩ <;> have := hl x hx <;> simp only [Bool.and_eq_true, decide_eq_true_eq, List.all_eq_true, Bool.not_eq_true'] at this
    · exact this.1
    · exact (this.2 z hz).1
    · exact (this.2 z hz).2
  rcases h with rfl | rfl | rfl | rfl | rfl <;> exact key _ (by decide)
theorem f4_1 : findM o4 25 = some 1 := by
  have e : (25 : Int) = wordR 2 (atO o4 1 : Nat) 0 := by decide
  rw [e]; exact find_ptr (by decide) (by decide)
theorem f4_2 : findM o4 49 = some 2 := by
  have e : (49 : Int) = wordR 2 (atO o4 2 : Nat) 0 := by decide
  rw [e]; exact find_ptr (by decide) (by decide)
theorem f_none {os : List Ob} {z : Int} (h : (ofR z).1 ≠ 2) : findM os z = none := by unfold findM; rw [if_neg h]
theorem lv4 : lvL o4 [25] = [false, true, true] := by
  have n2 : findM o4 2 = none := f_none (by decide)
  have n18 : findM o4 18 = none := f_none (by decide)
  have n10 : findM o4 10 = none := f_none (by decide)
  have l1 : Lv o4 [25] 1 := .root (List.mem_singleton.2 rfl) f4_1
  refine (lv_all (by decide) (fun i hi => ?_) (fun r hr i hi => ?_) (fun i hi z hz j hj => ?_)).symm
  · match i, hi with
    | 0, hi => cases hi
    | 1, _ => exact l1
    | 2, _ => exact .step l1 (z := 49) (by decide) f4_2
    | n + 3, hi => simp at hi
  · rw [List.mem_singleton.1 hr, f4_1] at hi; cases hi; rfl
  · match i, hi, hz with
    | 0, hi, _ => cases hi
    | 1, _, hz =>
      have hz' : z = 49 ∨ z = 2 := by simpa [o4] using hz
      rcases hz' with rfl | rfl
      · rw [f4_2] at hj; cases hj; rfl
      · rw [n2] at hj; cases hj
    | 2, _, hz =>
      have hz' : z = 18 ∨ z = 10 := by simpa [o4] using hz
      rcases hz' with rfl | rfl
      · rw [n18] at hj; cases hj
      · rw [n10] at hj; cases hj
    | n + 3, hi, _ => simp at hi
theorem coll4 : collO o4 (lvL o4 [25]) = o5 ∧ collR o4 (lvL o4 [25]) [25] = [1] := by
  rw [lv4]
  have m49 : movedM o4 [false, true, true] 49 = 25 := by unfold movedM; rw [f4_2]; decide
  have m25 : movedM o4 [false, true, true] 25 = 1 := by unfold movedM; rw [f4_1]; decide
  have mn : ∀ z, (ofR z).1 ≠ 2 → movedM o4 [false, true, true] z = z := fun z hz => by unfold movedM; rw [f_none hz]
  constructor
  · show [movOb o4 [false, true, true] ⟨1, [49, 2]⟩, movOb o4 [false, true, true] ⟨1, [18, 10]⟩] = o5
    unfold movOb
    simp only [List.map_cons, List.map_nil]
    rw [m49, mn 2 (by decide), mn 18 (by decide), mn 10 (by decide)]; rfl
  · show [movedM o4 [false, true, true] 25] = [1]
    rw [m25]
theorem set3 : setM o3 25 0 0 49 = (o4, 0) := by
  have hf : findM o3 25 = some 1 := by
    have e : (25 : Int) = wordR 2 (atO o3 1 : Nat) 0 := by decide
    rw [e]; exact find_ptr (by decide) (by decide)
  have hfi : fieldM o3 25 0 0 = (1, 0) := by unfold fieldM; rw [hf]; rfl
  unfold setM
  rw [hfi]
  rw [if_neg (by decide), if_neg (by decide)]
  rfl
theorem get5 : getM o5 1 0 0 = (25, 0) := by
  have hf : findM o5 1 = some 0 := by
    have e : (1 : Int) = wordR 2 (atO o5 0 : Nat) 0 := by decide
    rw [e]; exact find_ptr (by decide) (by decide)
  have hfi : fieldM o5 1 0 0 = (0, 0) := by unfold fieldM; rw [hf]; rfl
  unfold getM
  rw [hfi]; rfl
theorem ok5 : OsOk o5 := by
  have := coll_ok (o_ok (os := o4) (by simp)) (by decide) (lvL_length o4 [25])
  rw [coll4.1] at this; exact this
set_option maxHeartbeats 8000000 in
theorem gawake_any (w : World) : Calls Try.prog 7 #[] w fun e w' => e = .returned (.bool true) ∧ Below w.heap.size w w' := by
  have u2 : U64 2 := by unfold U64; omega
  have C0 := hid (pnew_any 20 (by unfold Z64; omega) w)
  have hx : ¬ ((20 : Int) < 1 ∨ (4194304 : Int) < 20) := by omega
  simp only [if_neg hx] at C0
  have D1 : Hid (∀ v F W, PH w.heap.size v 20 [] F W → Below w.heap.size w W → w.heap.size ≤ W.heap.size → _) := fun v F W h hb hB => by
    have := alloc_ab (N := 20) (o_ok (os := []) (by simp)) 2 2 u2 u2 w W h hb hB
    rw [show allocM [] 20 1 [2, 2] = (1, 0) by decide, show allocO [] 20 1 [2, 2] = o1 from rfl] at this
    exact this
  have D2 : Hid (∀ v F W, PH w.heap.size v 20 (wordsL o1) F W → Below w.heap.size w W → w.heap.size ≤ W.heap.size → _) := fun v F W h hb hB => by
    have := alloc_ab (N := 20) (o_ok (os := o1) (by simp)) 2 2 u2 u2 w W h hb hB
    rw [show allocM o1 20 1 [2, 2] = (25, 0) by decide, show allocO o1 20 1 [2, 2] = o2 from rfl] at this
    exact this
  have D3 : Hid (∀ v F W, PH w.heap.size v 20 (wordsL o2) F W → Below w.heap.size w W → w.heap.size ≤ W.heap.size → _) := fun v F W h hb hB => by
    have := alloc_ab (N := 20) (o_ok (os := o2) (by simp)) 18 10 (by unfold U64; omega) (by unfold U64; omega) w W h hb hB
    rw [show allocM o2 20 1 [18, 10] = (49, 0) by decide, show allocO o2 20 1 [18, 10] = o3 from rfl] at this
    exact this
  have D4 : Hid (∀ v F W, PH w.heap.size v 20 (wordsL o3) F W → w.heap.size ≤ W.heap.size → _) := fun v F W h hB => by
    have := pset_any (o_ok (os := o3) (by simp)) 25 0 0 49 (by unfold U64; omega) (by unfold Z64; omega) (by unfold Z64; omega) (by unfold U64; omega) W h hB
    rw [set3] at this
    exact this
  have D5 : Hid (∀ v F W, PH w.heap.size v 20 (wordsL o4) F W → w.heap.size ≤ W.heap.size → _) := fun v F W h hB => by
    have hk : PH w.heap.size v 20 (wordsL o4) F (W.alloc (.cells #[.int .u64 25] 32)) := h.keep (fun b hb' => (Ba W _).block b (h.ge b hb').2)
    have := pcollect_any (o_ok (os := o4) (by simp)) (some ⟨W.heap.size, 0, none⟩) 1 1 [25] (W.alloc (.cells #[.int .u64 25] 32)) hk (urow_one (blk_new W _ _) (by unfold U64; omega)) (by rw [size_alloc]; omega) (fun a ha hf => by cases ha; have := (h.ge _ hf).2; simp at this) (by omega)
    rw [coll4.1, coll4.2] at this
    exact this
  have D6 : Hid (∀ v F W, PH w.heap.size v 20 (wordsL o5) F W → _) := fun v F W h => by
    have := pget_any ok5 1 0 0 (by unfold U64; omega) (by unfold Z64; omega) (by unfold Z64; omega) W h
    rw [get5] at this
    exact this
  have D7 : Hid (∀ v F W, PH w.heap.size v 20 (wordsL o5) F W → Calls Try.prog 15 #[v] W fun e w' => e = .returned (.int .i64 6) ∧ Below W.heap.size W w') := fun v F W h => pused_any W h
  clear hx u2
  go_enter Try.func7, Try.ntmps7
  go_wp2_with (first
    | (go_at_call 11; (refine C0.out.mono ?_); rintro e W1 ⟨v, F, rfl, hp1, b1⟩; obtain ⟨gh, rfl⟩ := hp1.ptr; have HP1 := hid hp1; have HB1 := hid b1; clear hp1 b1))
  with_reducible refine (D1.out _ F W1 HP1.out HB1.out HB1.out.size).mono ?_
  rintro e W2 ⟨rfl, F2, hp2, hb2, hs2⟩
  have HP2 := hid hp2; have HB2 := hid hb2; have HS2 := hid hs2
  clear hp2 hb2 hs2
  go_wp2_with fail
  with_reducible refine (D2.out _ F2 W2 HP2.out HB2.out HS2.out).mono ?_
  rintro e W3 ⟨rfl, F3, hp3, hb3, hs3⟩
  have HP3 := hid hp3; have HB3 := hid hb3; have HS3 := hid hs3
  clear hp3 hb3 hs3
  go_wp2_with fail
  with_reducible refine (D3.out _ F3 W3 HP3.out HB3.out HS3.out).mono ?_
  rintro e W4 ⟨rfl, F4, hp4, hb4, hs4⟩
  have HP4 := hid hp4; have HB4 := hid hb4; have HS4 := hid hs4
  clear hp4 hb4 hs4
  go_wp2_with fail
  with_reducible refine (D4.out _ F4 W4 HP4.out HS4.out).mono ?_
  rintro e W5 ⟨rfl, hp5⟩
  have HB5 := hid (HB4.out.trans (PPost.below HP4.out hp5 HS4.out))
  obtain ⟨F5, q5, _, _⟩ := hp5
  have HP5 := hid q5
  clear q5
  go_wp2_with fail
  with_reducible refine (D5.out _ F5 W5 HP5.out HB5.out.size).mono ?_
  rintro e W6 ⟨ra, rc, rfl, hU, ha, F6, hp6, hf6, hn6, hm6⟩
  have HB6 : Hid (Below w.heap.size w W6) := (HB5.out.trans ((Ba W5 _).mono HB5.out.size)).trans (hm6.below (fun b hb => (HP5.out.ge b hb).1) (by rw [size_alloc]; have := HB5.out.size; omega))
  have HP6 := hid hp6
  obtain ⟨b6, og6, rfl, hl6, hc6⟩ := hU.some (by omega)
  have c6 : W6.cell? ⟨b6, og6, none⟩ = some (.int .u64 1) := hc6 0 (by omega)
  have hfit := hU.fits
  have hmo := hU.most
  unfold maxLen at hmo
  clear hU ha hp6 hf6 hn6 hm6 hc6
  go_wp2_with fail
  with_reducible refine (D6.out _ F6 W6 HP6.out).mono ?_
  rintro e W7 ⟨rfl, b7⟩
  have HP7 := hid (HP6.out.keep (fun b hb => b7.block b (HP6.out.ge b hb).2))
  have HB7 := hid (Bt HB6.out b7)
  have c7 := (b7.cell (p := ⟨b6, og6, none⟩) hl6).trans c6
  clear b7 c6
  go_wp2_with (go_at_call 15; (with_reducible refine (D7.out _ F6 W7 HP7.out).mono ?_); rintro e W8 ⟨rfl, b8⟩)
  go_ret
  exact ⟨rfl, Bt HB7.out b8⟩
end Go.Proofs.Ythgkonjglappjab
