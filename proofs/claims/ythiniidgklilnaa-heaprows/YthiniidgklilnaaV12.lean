/-
  Walks: awake, HeapPlays.
-/
import Derived.Test.YthiniidgklilnaaV10
set_option linter.unusedVariables false
set_option linter.unusedSimpArgs false
set_option maxRecDepth 100000
namespace Go.Proofs.Ythiniidgklilnaa
open Go.RowKit

theorem urow_two {w : World} {g : Nat} {t : TypeId} (h : w.heap[g]? = some (.cells #[.int .u64 2, .int .u64 2] t (0, 0))) : URow w (some ⟨g, 0, none⟩) 2 2 [2, 2] :=
  ⟨rfl, Nat.le_refl _, by unfold maxLen; omega, fun e => (by cases e), fun y hy => by simp at hy; rw [hy]; unfold U64; omega, .inr ⟨g, 0, rfl, (Array.getElem?_eq_some_iff.1 h).1, fun i hi => by
    have : i = 0 ∨ i = 1 := by simp at hi; omega
    rcases this with rfl | rfl
    · exact blk_cell h 0
    · exact blk_cell h 1⟩⟩
theorem os_nil : OsOk [] := ⟨fun x hx => (by cases hx), fun x hx => (by cases hx), fun x hx => (by cases hx)⟩
theorem PPost.below {B : Nat} {v : Value} {N : Int} {ws ws' : List Int} {F : Nat → Prop} {w w' : World} (h : PH B v N ws F w) (hp : PPost B v N F w ws' w') (hB : B ≤ w.heap.size) : Below B w w' := by
  obtain ⟨F', p1, p2, p3⟩ := hp
  exact p3.below (fun b hb => (h.ge b hb).1) hB
theorem awake_alloc {B : Nat} {v : Value} {F : Nat → Prop} {os : List Ob} (ho : OsOk os) (w0 w : World) (h : PH B v 4 (wordsL os) F w) (hb : Below B w0 w) (hB : B ≤ w.heap.size) :
    Calls Try.prog 19 #[v, .int .i64 1, .slice (some ⟨w.heap.size, 0, none⟩) 2 2] (w.alloc (.cells #[.int .u64 2, .int .u64 2] 34)) fun e w' => e = .returned (.tuple #[.int .u64 (allocM os 4 1 [2, 2]).1, .int .i64 (allocM os 4 1 [2, 2]).2]) ∧ ∃ F', PH B v 4 (wordsL (allocO os 4 1 [2, 2])) F' w' ∧ Below B w0 w' ∧ B ≤ w'.heap.size := by
  have hk : PH B v 4 (wordsL os) F (w.alloc (.cells #[.int .u64 2, .int .u64 2] 34)) := h.keep (fun b hb' => (Ba w _).block b (h.ge b hb').2)
  have hB2 : B ≤ (w.alloc (.cells #[.int .u64 2, .int .u64 2] 34)).heap.size := by rw [size_alloc]; omega
  refine (palloc_any ho 1 (by unfold Z64; omega) (some ⟨w.heap.size, 0, none⟩) 2 2 [2, 2] _ hk (urow_two (blk_new w _ _)) hB2 (fun a ha hf => ?_) (by omega)).mono ?_
  · cases ha; have := (h.ge _ hf).2; simp at this
  rintro e w' ⟨rfl, hp⟩
  have hbl := PPost.below hk hp hB2
  obtain ⟨F', p1, p2, p3⟩ := hp
  refine ⟨rfl, F', p1, ?_, Nat.le_trans hB2 hbl.size⟩
  exact (hb.trans ((Ba w _).mono hB)).trans hbl
set_option maxHeartbeats 8000000 in
theorem hawake_any (w : World) : Calls Try.prog 8 #[] w fun e w' => e = .returned (.bool true) ∧ Below w.heap.size w w' := by
  have o1 : allocM [] 4 1 [2, 2] = (1, 0) := by decide
  have o2 : allocO [] 4 1 [2, 2] = [⟨1, [2, 2]⟩] := by unfold allocO; rw [o1]; rfl
  have o3 : allocM [⟨1, [2, 2]⟩] 4 1 [2, 2] = (0, 3) := by decide
  have o4 : allocO [⟨1, [2, 2]⟩] 4 1 [2, 2] = [⟨1, [2, 2]⟩] := by unfold allocO; rw [o3]; rfl
  have hf : findM [⟨1, [2, 2]⟩] 1 = some 0 := by
    have : ofR 1 = (2, 0, 0) := by decide
    unfold findM; rw [this]
    simp only [if_true]
    rw [fnd]; rfl
  have o5 : getM [⟨1, [2, 2]⟩] 1 2 0 = (0, 70) := by unfold getM fieldM; rw [hf]; rfl
  have o6 : getM [⟨1, [2, 2]⟩] 1 0 2 = (0, 2) := by unfold getM fieldM; rw [hf]; rfl
  have ok1 : OsOk [⟨1, [2, 2]⟩] := by rw [← o2]; exact alloc_ok os_nil (fun z hz => by simp at hz; rw [hz]; unfold U64; omega)
  have C0 := hid (pnew_any 4 (by unfold Z64; omega) w)
  have hx : ¬ ((4 : Int) < 1 ∨ (4194304 : Int) < 4) := by omega
  simp only [if_neg hx] at C0
  have D1 : Hid (∀ v F W, PH w.heap.size v 4 [] F W → Below w.heap.size w W → _ → _) := fun v F W h hb hB => by
    have := awake_alloc os_nil w W h hb hB
    rw [o1, o2] at this
    exact this
  have D2 : Hid (∀ v F W, PH w.heap.size v 4 (wordsL [⟨1, [2, 2]⟩]) F W → Below w.heap.size w W → _ → _) := fun v F W h hb hB => by
    have := awake_alloc ok1 w W h hb hB
    rw [o3, o4] at this
    exact this
  have G1 : Hid (∀ v F W, PH w.heap.size v 4 (wordsL [⟨1, [2, 2]⟩]) F W → _) := fun v F W h => by
    have := pget_any ok1 1 2 0 (by unfold U64; omega) (by unfold Z64; omega) (by unfold Z64; omega) W h
    rw [o5] at this
    exact this
  have G2 : Hid (∀ v F W, PH w.heap.size v 4 (wordsL [⟨1, [2, 2]⟩]) F W → _) := fun v F W h => by
    have := pget_any ok1 1 0 2 (by unfold U64; omega) (by unfold Z64; omega) (by unfold Z64; omega) W h
    rw [o6] at this
    exact this
  have G3 : Hid (∀ v F W, PH w.heap.size v 4 (wordsL [⟨1, [2, 2]⟩]) F W → Calls Try.prog 17 #[v] W fun e w' => e = .returned (.int .i64 1) ∧ Below W.heap.size W w') := fun v F W h => by
    have := proom_any W h
    exact this
  clear hx o1 o2 o3 o4 hf o5 o6 ok1
  go_enter Try.func8, Try.ntmps8
  go_wp2_with (first
    | (go_at_call 5; (refine C0.out.mono ?_); rintro e W1 ⟨v, F, rfl, hp1, b1⟩; obtain ⟨gh, rfl⟩ := hp1.ptr; have HP1 := hid hp1; have HB1 := hid b1; clear hp1 b1))
  with_reducible refine (D1.out _ F W1 HP1.out HB1.out HB1.out.size).mono ?_
  rintro e W2 ⟨rfl, F2, hp2, hb2, hs2⟩
  have HP2 := hid hp2; have HB2 := hid hb2; have HS2 := hid hs2
  clear hp2 hb2 hs2
  go_wp2_with fail
  with_reducible refine (D2.out _ F2 W2 HP2.out HB2.out HS2.out).mono ?_
  rintro e W3 ⟨rfl, F3, hp3, hb3, hs3⟩
  have HP3 := hid hp3; have HB3 := hid hb3; have HS3 := hid hs3
  clear hp3 hb3 hs3
  go_wp2_with fail
  with_reducible refine (G1.out _ F3 W3 HP3.out).mono ?_
  rintro e W4 ⟨rfl, b4⟩
  have HP4 := hid (HP3.out.keep (fun b hb => b4.block b (HP3.out.ge b hb).2))
  have HB4 := hid (Bt HB3.out b4)
  clear b4
  go_wp2_with fail
  with_reducible refine (G2.out _ F3 W4 HP4.out).mono ?_
  rintro e W5 ⟨rfl, b5⟩
  have HP5 := hid (HP4.out.keep (fun b hb => b5.block b (HP4.out.ge b hb).2))
  have HB5 := hid (Bt HB4.out b5)
  clear b5
  go_wp2_with (go_at_call 17; (with_reducible refine (G3.out _ F3 W5 HP5.out).mono ?_); rintro e W6 ⟨rfl, b6⟩)
  go_ret
  exact ⟨rfl, Bt HB5.out b6⟩
theorem RH.weak {B B' g : Nat} {N : Int} {vL : Value} {ls : List (Ob × Sl)} {w : World} (h : RH B g N vL ls w) (hb : B' ≤ B) : RH B' g N vL ls w :=
  { h with own := own_weak h.own hb, rows := fun x hx => ⟨own_weak (h.rows x hx).1 hb, (h.rows x hx).2⟩, Bg := Nat.le_trans hb h.Bg }
end Go.Proofs.Ythiniidgklilnaa
