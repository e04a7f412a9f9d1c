/-
  Walks of the program's store, for Show: plain.
-/
import Derived.Test.YtadfihnffboelaaGreatDoorSL24
import Derived.Test.YtadfihnffboelaaGreatDoorSL9
set_option linter.unusedVariables false
set_option linter.unusedSimpArgs false
set_option maxRecDepth 100000
namespace Go.Proofs.YtadfihnffboelaaGreatDoor
open Go.RowKit

def condNd (f : List Int) : Nd := if condB f = true then ⟨13, nN (f.getD 0 0), ByteArray.empty, f.drop 1⟩ else voidN
theorem condB_is {f : List Int} (h : f.length = 3) : condB f = uptoB 2 (f.getD 0 0) := by
  unfold condB uptoB
  rw [decide_eq_true h, Bool.true_and]
set_option maxHeartbeats 8000000 in
theorem condn_any (ao : Option Addr) (n cap : Nat) (f : List Int) (w : World) (R : URow w ao n cap f) (hn : n ≤ 5000000) : Calls Tryz.prog 135 #[.slice ao n cap] w (KPost (condNd f) ao w) := by
  have hl := R.len
  have hft := R.fits
  have hmx := R.most
  unfold maxLen at hmx
  have HR := hid R
  have hz := NZ.new w
  have b0 := Ba w (.cells #[.int .i64 0, .int .i64 0, .string ⟨#[]⟩, .slice none 0 0] 68)
  have HZ := hid hz
  have HB := hid b0
  have CV : Hid (∀ W, Calls Tryz.prog 137 #[] W fun e w' => e = .returned (.agg #[.int .i64 11, .int .i64 0, .string ⟨#[]⟩, .slice none 0 0]) ∧ Below W.heap.size W w') := fun W => void_any W
  have HND : Hid (condNd f = if condB f = true then ⟨13, nN (f.getD 0 0), ByteArray.empty, f.drop 1⟩ else voidN) := rfl
  have fin : Hid (∀ W1, Below (w.alloc (.cells #[.int .i64 0, .int .i64 0, .string ⟨#[]⟩, .slice none 0 0] 68)).heap.size (w.alloc (.cells #[.int .i64 0, .int .i64 0, .string ⟨#[]⟩, .slice none 0 0] 68)) W1 → NZ w.heap.size W1 ∧ ((((W1.setCell ⟨w.heap.size, 0, none⟩ (.int .i64 11)).setCell ⟨w.heap.size, 1, none⟩ (.int .i64 0)).setCell ⟨w.heap.size, 2, none⟩ (.string ⟨#[]⟩)).setCell ⟨w.heap.size, 3, none⟩ (.slice none 0 0)).heap[w.heap.size]? = some (.cells #[.int .i64 11, .int .i64 0, .string ⟨#[]⟩, .slice none 0 0] 68 (0, 0)) ∧ Below w.heap.size w ((((W1.setCell ⟨w.heap.size, 0, none⟩ (.int .i64 11)).setCell ⟨w.heap.size, 1, none⟩ (.int .i64 0)).setCell ⟨w.heap.size, 2, none⟩ (.string ⟨#[]⟩)).setCell ⟨w.heap.size, 3, none⟩ (.slice none 0 0))) := fun W1 hb =>
    ⟨HZ.out.on hb, store4 (HZ.out.on hb), store4_below (Bt HB.out hb) (Nat.le_refl _)⟩
  by_cases h3 : n = 3
  · subst h3
    obtain ⟨b, o, rfl, hlb, hc⟩ := R.some (by omega)
    have c0 : (w.alloc (.cells #[.int .i64 0, .int .i64 0, .string ⟨#[]⟩, .slice none 0 0] 68)).cell? ⟨b, o, none⟩ = some (.int .u64 (f.getD 0 0)) := by
      have := hc 0 (by omega)
      rw [Nat.add_zero] at this
      rw [b0.cell (p := ⟨b, o, none⟩) hlb]; exact this
    have hx0 := R.bd _ (getD_in_f (l := f) (i := 0) (by omega))
    have C0 := hid (upto_any 2 (f.getD 0 0) hx0 (w.alloc (.cells #[.int .i64 0, .int .i64 0, .string ⟨#[]⟩, .slice none 0 0] 68)))
    rw [condB_is hl] at HND
    have HTL := hid (tail_row R (by omega))
    have htr := fun wx => tail_run (some ⟨b, o, none⟩) 3 cap (by omega) wx
    obtain ⟨ta, hta⟩ : ∃ a, a = tailA (some ⟨b, o, none⟩) cap := ⟨_, rfl⟩
    rw [← hta] at HTL htr
    obtain ⟨x0, hx0e⟩ : ∃ x, x = f.getD 0 0 := ⟨_, rfl⟩
    rw [← hx0e] at c0 C0 HND
    cases hb0 : uptoB 2 x0
    · have hv : Hid (condNd f = voidN) := by unfold Hid; rw [HND.out, hb0]; rfl
      rw [hb0] at C0
      rw [hv.out]
      clear hb0 HND hx0e hta R hc hz b0 htr
      go_enter Tryz.func135, Tryz.ntmps135
      go_wp2_with (first
        | (go_at_call 160; (with_reducible refine C0.out.mono ?_); rintro e W1 ⟨m, rfl, _, hw1⟩; rw [hw1]; clear hw1)
        | (go_at_call 137; (with_reducible refine (CV.out _).mono ?_); rintro e W1 ⟨rfl, b1⟩; obtain ⟨hz2, q1, q2⟩ := fin.out W1 b1; obtain ⟨c0, c1, c2, c3, f0, f1, f2, f3⟩ := hz2.c; have t0 := blk_cell q1 0; have t1 := blk_cell q1 1; have t2 := blk_cell q1 2; have t3 := blk_cell q1 3; have HQ2 := hid q2; clear b1 hz2 q1 q2))
      (try simp only [Exit.inBlock, Exit.then]); refine bodyPost_ret (by simp [results, Tryz.results135, go_sem, t0, t1, t2, t3]; rfl) rfl ?_
      exact KPost.void HQ2.out
    · have hv : Hid (condNd f = ⟨13, nN x0, ByteArray.empty, f.drop 1⟩) := by unfold Hid; rw [HND.out, hb0]; rfl
      rw [hb0] at C0
      rw [hv.out]
      have hy1 : 0 ≤ nN x0 ∧ nN x0 ≤ 2 := by
        unfold uptoB at hb0
        simp only [Bool.and_eq_true, decide_eq_true_eq] at hb0
        omega
      obtain ⟨y, hy⟩ : ∃ y, y = nN x0 := ⟨_, rfl⟩
      rw [← hy] at C0 hy1 ⊢
      obtain ⟨d0, d1, d2, d3, g0, g1, g2, g3⟩ := hz.c
      have hst := store4 (v1 := .int .i64 13) (v2 := .int .i64 y) (v3 := .string ⟨#[]⟩) (v4 := .slice none 0 0) hz
      have HST := hid hst
      have HBQ := hid (store4_below (v1 := .int .i64 13) (v2 := .int .i64 y) (v3 := .string ⟨#[]⟩) (v4 := .slice none 0 0) b0 (Nat.le_refl w.heap.size))
      clear hb0 HND hx0e hta R hc hz b0 hst hy
      go_enter Tryz.func135, Tryz.ntmps135
      go_wp2_with (go_at_call 160; (with_reducible refine C0.out.mono ?_); rintro e W1 ⟨m, rfl, hm, hw1⟩; rw [hw1, hm (by trivial)]; clear hw1 hm)
      go_region
      have hst := blk_new w #[.int .i64 13, .int .i64 y, .string ⟨#[]⟩, .slice none 0 0] 68
      have t0 := blk_cell hst 0
      have t1 := blk_cell hst 1
      have t2 := blk_cell hst 2
      have t3 := blk_cell hst 3
      have HB5 := hid (Bt (Ba w (.cells #[.int .i64 13, .int .i64 y, .string ⟨#[]⟩, .slice none 0 0] 68)) (below_drew _))
      clear hst d0 d1 d2 d3 g0 g1 g2 g3 htr c0
      go_wp2_with fail
      (try simp only [Exit.inBlock, Exit.then]); refine bodyPost_ret (by simp [results, Tryz.results135, go_sem, t0, t1, t2, t3]; rfl) rfl ?_
      exact ⟨ta, 2, cap - 1, rfl, HTL.out.1.on HB5.out, HTL.out.2, HB5.out⟩
  · have hv : condNd f = voidN := by
      rw [HND.out]
      unfold condB
      rw [decide_eq_false (show ¬ f.length = 3 by omega), Bool.false_and]; rfl
    rw [hv]
    have e2 : ((n : Int) != 3) = true := by simp; omega
    clear hz R hl h3 b0 hv HND
    go_enter Tryz.func135, Tryz.ntmps135
    go_wp2_with (go_at_call 137; (with_reducible refine (CV.out _).mono ?_); rintro e W1 ⟨rfl, b1⟩; obtain ⟨hz2, q1, q2⟩ := fin.out W1 b1; obtain ⟨c0, c1, c2, c3, f0, f1, f2, f3⟩ := hz2.c; have t0 := blk_cell q1 0; have t1 := blk_cell q1 1; have t2 := blk_cell q1 2; have t3 := blk_cell q1 3; have HQ2 := hid q2; clear b1 hz2 q1 q2)
    (try simp only [Exit.inBlock, Exit.then]); refine bodyPost_ret (by simp [results, Tryz.results135, go_sem, t0, t1, t2, t3]; rfl) rfl ?_
    exact KPost.void HQ2.out
/-- A shower in memory: its first two cells. -/
def SB (gs : Nat) (v vn : Value) (w : World) : Prop := w.cell? ⟨gs, 0, none⟩ = some v ∧ w.cell? ⟨gs, 1, none⟩ = some vn ∧ gs < w.heap.size
theorem SB.on {gs : Nat} {v vn : Value} {w w' : World} (h : SB gs v vn w) (hb : Below w.heap.size w w') : SB gs v vn w' :=
  ⟨(hb.cell (p := ⟨gs, 0, none⟩) h.2.2).trans h.1, (hb.cell (p := ⟨gs, 1, none⟩) h.2.2).trans h.2.1, Nat.lt_of_lt_of_le h.2.2 hb.size⟩
section
variable {B : Nat} {v vn : Value} {N : Int} {os : List Ob} {nm : List ByteArray} {F : Nat → Prop} {gs : Nat} {w : World}
theorem PN.names (h : PN B v vn N os nm F w) (n : Int) (hn : Z64 n) (hl : nm.length ≤ 1000000) : Calls Tryz.prog 25 #[vn, .int .i64 n] w fun e w' => e = .returned (.tuple #[.string (if 0 ≤ n ∧ n < nm.length then nm.getD n.toNat ByteArray.empty else ByteArray.empty), .bool (decide (0 ≤ n) && decide (n < nm.length))]) ∧ Below w.heap.size w w' := by
  obtain ⟨F1, F2, h1, h2, h3, h4⟩ := h.ok
  exact ptext_any n hn w h2 hl
theorem nK5_rng {x : Int} (h : nK x = 5) : 0 ≤ nN x ∧ nN x ≤ 1073741824 := by
  have hr := ofR_rt (x := x) (by rw [h]; decide)
  rw [h] at hr
  unfold rightB at hr
  simp at hr
  omega
def NamePost (nm : List ByteArray) (x : Int) (w : World) (e : Ending) (w' : World) : Prop := ∃ t, e = .returned (.tuple #[.string t, .bool (namB nm x)]) ∧ (namB nm x = true → t = symT nm x) ∧ Below w.heap.size w w'
set_option maxHeartbeats 4000000 in
theorem name_is (x : Int) (hx : U64 x) (w : World) (h : PN B v vn N os nm F w) (hs : SB gs v vn w) (hnm : nm.length ≤ 1000000) (hns : ∀ s ∈ nm, s.size ≤ 1000000) (hT : Tabs w) :
    Calls Tryz.prog 141 #[.pointer (some ⟨gs, 0, none⟩), .int .u64 x] w (NamePost nm x w) := by
  have C := hid (nameof_any x hx w)
  have e1 : isR 5 x = decide (nK x = 5) := rfl
  have e2 : hasR 5 x = if nK x = 5 then nN x else 0 := rfl
  rw [e1, e2] at C
  have HN : Hid (namB nm x = (decide (nK x = 5) && (decide (nN x < nm.length) && textB 15 (symT nm x)))) := rfl
  obtain ⟨gh, gp, rfl, rfl⟩ := h.ptrs
  have c1 := hs.2.1
  by_cases h5 : nK x = 5
  · have hr := nK5_rng h5
    have CT := hid (h.names (nN x) (by unfold Z64; omega) hnm)
    rw [if_pos h5, decide_eq_true h5] at C
    rw [decide_eq_true h5, Bool.true_and] at HN
    have HSY : Hid (symT nm x = nm.getD (nN x).toNat ByteArray.empty) := rfl
    obtain ⟨y, hy⟩ : ∃ y, y = nN x := ⟨_, rfl⟩
    rw [← hy] at C CT HN HSY hr
    clear h5 hy e1 e2 hx h hs
    by_cases hl : y < nm.length
    · rw [if_pos ⟨hr.1, hl⟩, decide_eq_true hr.1, decide_eq_true hl] at CT
      rw [decide_eq_true hl, Bool.true_and] at HN
      rw [← HSY.out] at CT
      have hts : (symT nm x).size ≤ 1000000 := by
        rw [HSY.out]
        refine hns _ ?_
        rw [List.getD_eq_getElem?_getD, List.getElem?_eq_getElem (by omega)]; exact List.getElem_mem _
      have CV : Hid (∀ W, Below w.heap.size w W → Calls Tryz.prog 166 #[.string (symT nm x)] W fun e w' => e = .returned (.bool (textB 15 (symT nm x))) ∧ Below W.heap.size W w') := fun W hb => by
        have := valid_any (symT nm x) W (by unfold maxLen; omega) (hT.below hb)
        rw [textB_v _ (.inr rfl)]; exact this
      obtain ⟨t, ht⟩ : ∃ t, t = symT nm x := ⟨_, rfl⟩
      rw [← ht] at CT CV HN hts
      have HTE := hid ht
      obtain ⟨bt, hbt⟩ : ∃ b, b = textB 15 t := ⟨_, rfl⟩
      rw [← hbt] at CV HN
      clear ht hbt hns hT
      go_enter Tryz.func141, Tryz.ntmps141
      go_wp2_with (first
        | (go_at_call 165; (with_reducible refine C.out.mono ?_); rintro e W1 ⟨rfl, hw1⟩; rw [hw1]; clear hw1)
        | (go_at_call 25; (with_reducible refine CT.out.mono ?_); rintro e W2 ⟨rfl, b2⟩; have HB2 := hid b2; have C3 := hid (CV.out W2 b2); clear b2)
        | (go_at_call 166; (with_reducible refine C3.out.mono ?_); rintro e W3 ⟨rfl, b3⟩; have HB3 := hid (Bt HB2.out b3); clear b3))
      go_ret2
      exact ⟨t, by rw [HN.out]; rfl, fun _ => HTE.out, HB3.out⟩
    · rw [if_neg (by omega), decide_eq_false hl, Bool.and_false] at CT
      rw [decide_eq_false hl, Bool.false_and] at HN
      clear hl hns hT
      go_enter Tryz.func141, Tryz.ntmps141
      go_wp2_with (first
        | (go_at_call 165; (with_reducible refine C.out.mono ?_); rintro e W1 ⟨rfl, hw1⟩; rw [hw1]; clear hw1)
        | (go_at_call 25; (with_reducible refine CT.out.mono ?_); rintro e W2 ⟨rfl, b2⟩; have HB2 := hid b2; clear b2))
      go_ret2
      exact ⟨_, by rw [HN.out]; rfl, fun h => (by rw [HN.out] at h; cases h), HB2.out⟩
  · rw [if_neg h5, decide_eq_false h5] at C
    rw [decide_eq_false h5, Bool.false_and] at HN
    clear h5 e1 e2 h hs
    go_enter Tryz.func141, Tryz.ntmps141
    go_wp2_with (go_at_call 165; (with_reducible refine C.out.mono ?_); rintro e W1 ⟨rfl, hw1⟩; rw [hw1]; clear hw1)
    go_ret2
    exact ⟨_, by rw [HN.out]; rfl, fun h => (by rw [HN.out] at h; cases h), Below.refl _ _⟩
end
end Go.Proofs.YtadfihnffboelaaGreatDoor

set_option linter.unusedVariables false
set_option linter.unusedSimpArgs false
set_option maxRecDepth 100000
namespace Go.Proofs.YtadfihnffboelaaGreatDoor
open Go.RowKit

section
variable {B : Nat} {v vn : Value} {N : Int} {os : List Ob} {nm : List ByteArray} {F : Nat → Prop} {gs : Nat} {w : World}
theorem PN.size (h : PN B v vn N os nm F w) (p : Int) (hp : U64 p) : Calls Tryz.prog 158 #[v, .int .u64 p] w fun e w' => e = .returned (.tuple #[.int .i64 (sizeM os p).1, .int .i64 (sizeM os p).2]) ∧ Below w.heap.size w w' := by
  obtain ⟨F1, F2, h1, h2, h3, h4⟩ := h.ok
  exact psize_any h.fine p hp w h1
theorem PN.kind (h : PN B v vn N os nm F w) (p : Int) (hp : U64 p) : Calls Tryz.prog 85 #[v, .int .u64 p] w fun e w' => e = .returned (.tuple #[.int .i64 (kindM os p).1, .int .i64 (kindM os p).2]) ∧ Below w.heap.size w w' := by
  obtain ⟨F1, F2, h1, h2, h3, h4⟩ := h.ok
  exact pkind_any h.fine p hp w h1
theorem PN.get (h : PN B v vn N os nm F w) (p kind i : Int) (hp : U64 p) (hk : Z64 kind) (hi : Z64 i) : Calls Tryz.prog 159 #[v, .int .u64 p, .int .i64 kind, .int .i64 i] w fun e w' => e = .returned (.tuple #[.int .u64 (getM os p kind i).1, .int .i64 (getM os p kind i).2]) ∧ Below w.heap.size w w' := by
  obtain ⟨F1, F2, h1, h2, h3, h4⟩ := h.ok
  exact pget_any h.fine p kind i hp hk hi w h1
theorem get_at {p : Int} {k : Nat} (hf : findM os p = some k) {i : Nat} (hi : i < (os.getD k default).f.length) : getM os p 0 (i : Nat) = ((os.getD k default).f.getD i 0, 0) := by
  have e : fieldM os p 0 (i : Nat) = ((k : Int), 0) := by
    unfold fieldM
    rw [hf]
    simp only
    rw [if_neg (by simp), if_neg (by omega)]
  unfold getM
  rw [e, if_pos rfl]
  simp
set_option maxHeartbeats 8000000 in
theorem fields_is (p : Int) (hp : U64 p) (w : World) (h : PN B v vn N os nm F w) (hs : SB gs v vn w) {k : Nat} (hf : findM os p = some k) :
    Calls Tryz.prog 130 #[.pointer (some ⟨gs, 0, none⟩), .int .u64 p] w fun e w' => ∃ ao cap, e = .returned (.slice ao (os.getD k default).f.length cap) ∧ URow w' ao (os.getD k default).f.length cap (os.getD k default).f ∧ (∀ a, ao = some a → w.heap.size ≤ a.block) ∧ Below w.heap.size w w' := by
  have hk := (findM_lt hf).1
  have hal := at_lt hk
  have hbd := h.bd.1
  have hx := getD_in_os hk
  have huf := h.fine.uf _ hx
  have hnh := h.fine.nh _ hx
  have C := hid (h.size p hp)
  have e1 : sizeM os p = (((os.getD k default).f.length : Int), 0) := by unfold sizeM; rw [hf]
  rw [e1] at C
  have HG : Hid (∀ (i : Nat) (W : World), i < (os.getD k default).f.length → Below w.heap.size w W → Calls Tryz.prog 159 #[v, .int .u64 p, .int .i64 0, .int .i64 (i : Nat)] W fun e w' => e = .returned (.tuple #[.int .u64 ((os.getD k default).f.getD i 0), .int .i64 0]) ∧ Below W.heap.size W w') := fun i W hi hb => by
    have := (h.on hb).get p 0 (i : Nat) hp (by unfold Z64; omega) (by unfold Z64; omega)
    rw [get_at hf hi] at this
    exact this
  have HSB : Hid (∀ W, Below w.heap.size w W → W.cell? ⟨gs, 0, none⟩ = some v) := fun W hb => (hs.on hb).1
  have hfl : (os.getD k default).f.length ≤ 4194304 := by omega
  obtain ⟨gh, gp, hv, _⟩ := h.ptrs
  obtain ⟨fl, hfle⟩ : ∃ f, f = (os.getD k default).f := ⟨_, rfl⟩
  rw [← hfle] at C HG huf hnh hfl ⊢
  have HU := hid huf
  have HH : Hid (∀ i, i < fl.length → ∀ W, Calls Tryz.prog 112 #[.int .u64 (fl.getD i 0)] W fun e w' => ∃ a b, e = .returned (.tuple #[.int .i64 a, .int .i64 b, .bool false]) ∧ w' = W) := fun i hi W => by
    have := headof_any (fl.getD i 0) (huf _ (getD_in_f hi)) W
    have e8 : isR 8 (fl.getD i 0) = false := hnh _ (getD_in_f hi)
    rw [e8] at this
    exact this.mono (fun e w' ⟨h1, h2⟩ => ⟨_, _, h1, h2⟩)
  obtain ⟨n, hn⟩ : ∃ n, n = fl.length := ⟨_, rfl⟩
  rw [← hn] at C HG hfl HH ⊢
  have HN := hid hn
  have c0 := HSB.out w (Below.refl _ _)
  subst hv
  clear h hs hf hk hal hbd hx huf hnh e1 hfle hn
  go_enter Tryz.func130, Tryz.ntmps130
  go_wp2_with (go_at_call 158; (with_reducible refine C.out.mono ?_); rintro e W1 ⟨rfl, b1⟩; have HB1 := hid b1; clear b1)
  clear c0
  go_loopw [5, 8, 9, 10, 11, 12, 13, 24] (fun v _ _ _ _ _ _ i wr => ∃ q : Nat, q ≤ n ∧ i = .int .i64 q ∧ Hid (wr.ownsRow w.heap.size 70 1 v q (uz (fl.take q)) ∧ Below w.heap.size w wr)) (fun _ _ _ _ _ _ _ i _ => n - (intOf i).toNat)
  case atStart => exact ⟨0, Nat.zero_le _, rfl, World.ownsRow_nil _ _ _ _, HB1.out⟩
  case round =>
    obtain ⟨q, hq, rfl, hI⟩ := hrel
    have HOQ := hid hI.out.1
    have HBQ := hid hI.out.2
    clear hI
    by_cases hlt : q < n
    · have c0 := HSB.out wr HBQ.out
      have C1 := hid (HG.out q wr hlt HBQ.out)
      have C2 := hid (HH.out q hlt)
      have HT : Hid (fl.take (q + 1) = fl.take q ++ [fl.getD q 0]) := by
        unfold Hid
        have : q < fl.length := by rw [← HN.out]; exact hlt
        rw [List.take_succ_eq_append_getElem this, List.getD_eq_getElem?_getD, List.getElem?_eq_getElem this]; rfl
      have hzu : Hid (U64 (fl.getD q 0)) := HU.out _ (getD_in_f (by rw [← HN.out]; exact hlt))
      obtain ⟨zx, hzx⟩ : ∃ z, z = fl.getD q 0 := ⟨_, rfl⟩
      rw [← hzx] at C1 C2 HT hzu
      have arm : Hid (∀ W, Below wr.heap.size wr W → (W.alloc (.cells #[.int .u64 zx] 70)).ownsRow w.heap.size 70 1 u5 q (uz (fl.take q)) ∧ URow (W.alloc (.cells #[.int .u64 zx] 70)) (some ⟨W.heap.size, 0, none⟩) 1 1 [zx] ∧ Below w.heap.size w (W.alloc (.cells #[.int .u64 zx] 70))) := fun W hb =>
        ⟨uown_on (uown_on HOQ.out hb) (Ba W _), urow_one (blk_new W #[.int .u64 zx] 70) hzu.out, Bt (Bt HBQ.out (hb)) (Ba W _)⟩
      clear hzx
      go_wp2_with (first
        | (go_at_call 159; (with_reducible refine C1.out.mono ?_); rintro e W3 ⟨rfl, b3⟩; obtain ⟨a1, a2, a3⟩ := arm.out W3 b3; have HO1 := hid a1; have HU1 := hid a2; have HBA := hid a3; have HSA := hid a3.size; clear b3 a1 a2 a3)
        | (go_at_call 112; (with_reducible refine (C2.out _).mono ?_); rintro e W4 ⟨x1, x2, rfl, hw4⟩; rw [hw4]; clear hw4)
        | (at_builtin; refine appU rfl _ _ 42 rfl w.heap.size 70 Tryz.underlying42 info_word _ q (fl.take q) rfl HO1.out (some ⟨W3.heap.size, 0, none⟩) 1 1 [zx] rfl HU1.out (by omega) HSA.out ?_; intro v2 w2 ho2 hg2))
      have HE : Hid (Below w.heap.size w w2) := HBA.out.grown hg2 HSA.out (fun b hb => (HO1.out.lt b hb).1)
      refine ⟨⟨q + 1, by omega, by go_num, ?_, HE.out⟩, by simp [intOf] <;> omega⟩
      rw [HT.out]; exact ho2
    · obtain rfl : n = q := by omega
      have hoq := HOQ.out
      rw [List.take_of_length_le (by rw [← HN.out]; exact Nat.le_refl _)] at hoq
      have hoq' := hoq
      rw [HN.out] at hoq'
      obtain ⟨ao, cap, hv, hu⟩ := urow_own hoq' HU.out
      rw [← HN.out] at hv hu
      subst hv
      have HUU := hid hu
      have HLT : Hid (∀ a, ao = some a → w.heap.size ≤ a.block) := fun a e => (hoq.lt a.block (by rw [e]; rfl)).1
      clear hoq hoq' hu
      go_wp2_with fail
      go_ret
      exact ⟨ao, cap, rfl, HUU.out, HLT.out, HBQ.out⟩
end
end Go.Proofs.YtadfihnffboelaaGreatDoor

set_option linter.unusedVariables false
set_option linter.unusedSimpArgs false
set_option maxRecDepth 100000
namespace Go.Proofs.YtadfihnffboelaaGreatDoor
open Go.RowKit

theorem digs_zero : ∀ f, digs f 0 = []
  | 0 => rfl
  | f + 1 => by simp [digs]
theorem dec_digs (v : Nat) : ∀ f, v ≤ f → 0 < v → (Lib.decDigits v).map UInt8.toNat = ((digs f v).map chr).reverse := by
  induction v using Nat.strongRecOn with
  | _ v ih =>
    intro f hf h0
    obtain ⟨g, rfl⟩ : ∃ g, f = g + 1 := ⟨f - 1, by omega⟩
    have e : digs (g + 1) v = (v % 10) :: digs g (v / 10) := by simp [digs]; omega
    have hc : chr (v % 10) = 48 + v % 10 := by unfold chr; rw [if_pos (by omega)]
    rw [e, List.map_cons, List.reverse_cons, hc]
    by_cases h : v < 10
    · rw [Lib.decDigits_one h]
      have : v / 10 = 0 := by omega
      rw [this, digs_zero]
      simp
      omega
    · rw [Lib.decDigits, dif_neg h, List.map_append, ih (v / 10) (by omega) g (by omega) (by omega)]
      congr 1
      simp
      omega
theorem itoa_text (n : Int) : (⟨(Lib.itoa n).toArray⟩ : ByteArray) = textOf (printL (decide (n < 0)) n.natAbs) := by
  have key : ∀ (A : List UInt8) (L : List Nat), A.map UInt8.toNat = L → A = L.map UInt8.ofNat := fun A L h => by
    rw [← h, List.map_map]
    have : (UInt8.ofNat ∘ UInt8.toNat) = id := by funext u; simp
    rw [this, List.map_id]
  have h1 : (Lib.itoa n).map UInt8.toNat = printL (decide (n < 0)) n.natAbs := by
    unfold Lib.itoa printL
    by_cases hn : n < 0
    · have hv : 0 < n.natAbs := by omega
      have hne : digs n.natAbs n.natAbs ≠ [] := (digs_ok _ _ (Nat.le_refl _)).2.2.2 (by omega)
      rw [if_pos hn, if_neg hne, List.map_cons, dec_digs n.natAbs n.natAbs (Nat.le_refl _) hv, decide_eq_true hn]
      rfl
    · rw [if_neg hn, decide_eq_false hn]
      have e : n.toNat = n.natAbs := by omega
      rw [e]
      by_cases hv : n.natAbs = 0
      · rw [hv, Lib.decDigits_one (by decide)]; rfl
      · have hne : digs n.natAbs n.natAbs ≠ [] := (digs_ok _ _ (Nat.le_refl _)).2.2.2 hv
        rw [if_neg hne, dec_digs n.natAbs n.natAbs (Nat.le_refl _) (by omega)]
        rfl
  unfold textOf
  rw [key _ _ h1]
theorem below_grow (w : World) (k : Nat) (os : Array Obj) : Below w.heap.size w (Sort.grow (w.drewN k) os) := by
  refine ⟨rfl, rfl, rfl, ?_, fun b hb => ?_⟩
  · simp [Sort.grow, World.drewN]
  · simp [Sort.grow, World.drewN]
    rw [Array.getElem?_append_left hb]
theorem format_any (n : Int) (hn : Z64 n) (w : World) (hT : TabsS w) : Calls Tryz.prog 139 #[.int .i64 n, .int .i64 10] w fun e w' => e = .returned (.string (textOf (printL (decide (n < 0)) n.natAbs))) ∧ Below w.heap.size w w' := by
  unfold Z64 at hn
  refine (Any.strconv_FormatInt_10 (P := Tryz.prog) Tryz.laysM173 n hn.1 hn.2 w hT.2).mono ?_
  rintro e w' ⟨rfl, k, os, rfl⟩
  rw [itoa_text]
  exact ⟨rfl, below_grow w k os⟩
/-- What the four words that stand for themselves are. -/
theorem word3 {x : Int} (hx : U64 x) (h : nK x = 3) : x = nN x * 8 + 2 ∧ 0 ≤ nN x ∧ nN x ≤ 5 := by
  unfold U64 at hx
  unfold nK nN at *
  unfold ofR at h ⊢
  split at h
  · rename_i hr
    rw [if_pos hr]
    unfold ofRaw at h hr ⊢
    split at h
    · cases h
    split at h
    · cases h
    split at h
    · rename_i h1 h2 h3
      rw [if_neg h1, if_neg h2, if_pos h3] at hr ⊢
      split at h
      · rename_i h4
        rw [if_pos h4]
        simp only
        omega
      · rename_i h4
        split at h <;> simp at h <;> omega
    · split at h <;> simp at h
  · cases h
theorem sym_nam (nm : List ByteArray) (x : Int) : symB nm x = (namB nm x && decide ((symT nm x).size ≠ 0)) := by
  unfold symB namB
  rw [textB_6, textB_v _ (.inr rfl)]
  cases decide (nK x = 5) <;> cases decide (nN x < nm.length) <;> simp [Bool.and_comm]
section
variable {B : Nat} {v vn : Value} {N : Int} {os : List Ob} {nm : List ByteArray} {F : Nat → Prop} {gs : Nat}
set_option maxHeartbeats 8000000 in
theorem plain_is (x : Int) (hx : U64 x) (w : World) (h : PN B v vn N os nm F w) (hs : SB gs v vn w) (hnm : nm.length ≤ 1000000) (hns : ∀ s ∈ nm, s.size ≤ 1000000) (hT : TabsS w) :
    Calls Tryz.prog 87 #[.pointer (some ⟨gs, 0, none⟩), .int .u64 x] w fun e w' => e = .returned (bareV (plainD nm x)) ∧ Below w.heap.size w w' := by
  have hz := NZ.new w
  have b0 := Ba w (.cells #[.int .i64 0, .int .i64 0, .string ⟨#[]⟩, .slice none 0 0] 68)
  obtain ⟨W0, hW0⟩ : ∃ W, W = w.alloc (.cells #[.int .i64 0, .int .i64 0, .string ⟨#[]⟩, .slice none 0 0] 68) := ⟨_, rfl⟩
  rw [← hW0] at hz b0
  have HZ := hid hz
  have HB := hid b0
  have CI := hid (int_any x hx W0)
  have CL := hid (letterw_any x hx W0)
  have CN := hid (name_is x hx W0 (h.on b0) (hs.on b0) hnm hns (hT.1.below b0))
  have CP : Hid (∀ W, Calls Tryz.prog 142 #[.int .u64 x] W fun e w' => e = .returned (.tuple #[.int .i64 (hasR 6 x), .bool (isR 6 x)]) ∧ w' = W) := fun W => primof_any x hx W
  have CV : Hid (∀ W, Calls Tryz.prog 137 #[] W fun e w' => e = .returned (.agg #[.int .i64 11, .int .i64 0, .string ⟨#[]⟩, .slice none 0 0]) ∧ Below W.heap.size W w') := fun W => void_any W
  have fin : Hid (∀ (k m : Int) (W : World) (t0 : ByteArray), Below W0.heap.size W0 W → NZ w.heap.size W ∧ ((((W.setCell ⟨w.heap.size, 0, none⟩ (.int .i64 k)).setCell ⟨w.heap.size, 1, none⟩ (.int .i64 m)).setCell ⟨w.heap.size, 2, none⟩ (.string t0)).setCell ⟨w.heap.size, 3, none⟩ (.slice none 0 0)).heap[w.heap.size]? = some (.cells #[.int .i64 k, .int .i64 m, .string t0, .slice none 0 0] 68 (0, 0)) ∧ Below w.heap.size w ((((W.setCell ⟨w.heap.size, 0, none⟩ (.int .i64 k)).setCell ⟨w.heap.size, 1, none⟩ (.int .i64 m)).setCell ⟨w.heap.size, 2, none⟩ (.string t0)).setCell ⟨w.heap.size, 3, none⟩ (.slice none 0 0))) := fun k m W t0 hb =>
    ⟨HZ.out.on hb, store4 (HZ.out.on hb), store4_below (Bt HB.out hb) (Nat.le_refl _)⟩
  have HPD : Hid (plainD nm x = if nK x = 1 then ⟨3, 0, textOf (printL (decide (nN x < 0)) (nN x).natAbs), []⟩
    else if nK x = 3 then (if nN x = 0 then ⟨1, 0, ByteArray.empty, []⟩ else if nN x = 1 ∨ nN x = 2 then ⟨2, nN x - 1, ByteArray.empty, []⟩ else if nN x = 3 then ⟨10, 0, ByteArray.empty, []⟩ else voidN)
    else if nK x = 4 then ⟨4, nN x, ByteArray.empty, []⟩
    else if symB nm x = true then ⟨6, 0, symT nm x, []⟩
    else if nK x = 6 then ⟨12, 0, ByteArray.empty, []⟩ else voidN) := rfl
  have i1 : isR 1 x = decide (nK x = 1) := rfl
  have i4 : isR 4 x = decide (nK x = 4) := rfl
  have i6 : isR 6 x = decide (nK x = 6) := rfl
  have h1' : hasR 1 x = if nK x = 1 then nN x else 0 := rfl
  have h4' : hasR 4 x = if nK x = 4 then nN x else 0 := rfl
  rw [i1, h1'] at CI
  rw [i4, h4'] at CL
  rw [i6] at CP
  have HW3 : Hid (nK x = 3 → x = nN x * 8 + 2 ∧ 0 ≤ nN x ∧ nN x ≤ 5) := word3 hx
  have HNE : Hid (nK x ≠ 3 → x ≠ 2 ∧ x ≠ 10 ∧ x ≠ 18 ∧ x ≠ 26) := fun h3 => by
    refine ⟨fun e => h3 ?_, fun e => h3 ?_, fun e => h3 ?_, fun e => h3 ?_⟩ <;> (rw [e]; unfold nK; decide)
  have HSN := hid (sym_nam nm x)
  have HFX : Hid (nK x = 1 → Z64 (nN x)) := fun h1 => by
    have := nK1_fix h1
    unfold fixB at this
    simp only [Bool.and_eq_true, decide_eq_true_eq] at this
    unfold Z64; omega
  have HTT := hid (hT.below b0)
  obtain ⟨hv0, hp0⟩ : ∃ y, y = hasR 6 x := ⟨_, rfl⟩
  rw [← hp0] at CP
  unfold NamePost at CN
  clear hz b0 h hs i1 i4 i6 h1' h4' hp0
  by_cases k1 : nK x = 1
  · rw [if_pos k1] at HPD
    rw [if_pos k1, decide_eq_true k1] at CI
    have CF := hid (format_any (nN x) (HFX.out k1) W0 HTT.out)
    obtain ⟨S, hS⟩ : ∃ S, S = textOf (printL (decide (nN x < 0)) (nN x).natAbs) := ⟨_, rfl⟩
    rw [← hS] at CF HPD
    obtain ⟨y, hy⟩ : ∃ y, y = nN x := ⟨_, rfl⟩
    rw [← hy] at CI CF
    rw [HPD.out]
    rw [hW0] at CI CF
    clear hS hy k1
    go_enter Tryz.func87, Tryz.ntmps87
    go_wp2_with (first
      | (go_at_call 138; (with_reducible refine CI.out.mono ?_); rintro e W1 ⟨rfl, hw1⟩; rw [hw1]; clear hw1)
      | (go_at_call 139; (with_reducible refine CF.out.mono ?_); rintro e W2 ⟨rfl, b2⟩; rw [← hW0] at b2; obtain ⟨hz2, q1, q2⟩ := fin.out 3 0 W2 S b2; obtain ⟨c0, c1, c2, c3, f0, f1, f2, f3⟩ := hz2.c; have t0 := blk_cell q1 0; have t1 := blk_cell q1 1; have t2 := blk_cell q1 2; have t3 := blk_cell q1 3; have HQ2 := hid q2; clear b2 hz2 q1 q2))
    (try simp only [Exit.inBlock, Exit.then]); refine bodyPost_ret (by simp [results, Tryz.results87, go_sem, t0, t1, t2, t3]; rfl) rfl ?_
    exact ⟨rfl, HQ2.out⟩
  rw [if_neg k1] at HPD
  rw [if_neg k1, decide_eq_false k1] at CI
  by_cases k4 : nK x = 4
  · rw [if_neg (by omega), if_pos k4] at HPD
    rw [if_pos k4, decide_eq_true k4] at CL
    obtain ⟨y, hy⟩ : ∃ y, y = nN x := ⟨_, rfl⟩
    rw [← hy] at CL HPD
    rw [HPD.out]
    have hst := blk_new w #[.int .i64 4, .int .i64 y, .string ⟨#[]⟩, .slice none 0 0] 68
    have t0 := blk_cell hst 0
    have t1 := blk_cell hst 1
    have t2 := blk_cell hst 2
    have t3 := blk_cell hst 3
    have HB5 := hid (Ba w (.cells #[.int .i64 4, .int .i64 y, .string ⟨#[]⟩, .slice none 0 0] 68))
    rw [hW0] at CI CL
    clear hst hy k1 k4
    go_enter Tryz.func87, Tryz.ntmps87
    go_wp2_with (first
      | (go_at_call 138; (with_reducible refine CI.out.mono ?_); rintro e W1 ⟨rfl, hw1⟩; rw [hw1]; clear hw1)
      | (go_at_call 140; (with_reducible refine CL.out.mono ?_); rintro e W1 ⟨rfl, hw1⟩; rw [hw1]; clear hw1))
    (try simp only [Exit.inBlock, Exit.then]); refine bodyPost_ret (by simp [results, Tryz.results87, go_sem, t0, t1, t2, t3]; rfl) rfl ?_
    exact ⟨rfl, HB5.out⟩
  rw [if_neg k4, decide_eq_false k4] at CL
  have hes : ∀ t : ByteArray, (t.toList == (⟨#[]⟩ : ByteArray).toList) = decide (t = ⟨#[]⟩) := fun t => str_eq t ⟨#[]⟩
  have hem : ∀ t : ByteArray, t.size = 0 → t = ⟨#[]⟩ := fun t h => by
    apply ByteArray.ext
    exact Array.eq_empty_of_size_eq_zero h
  by_cases hsy : symB nm x = true
  · have hnb : namB nm x = true ∧ (symT nm x).size ≠ 0 := by
      rw [HSN.out, Bool.and_eq_true, decide_eq_true_eq] at hsy; exact hsy
    have k5 : nK x = 5 := by
      have := hnb.1
      unfold namB at this
      rw [Bool.and_eq_true, decide_eq_true_eq] at this
      exact this.1
    rw [if_neg (by omega), if_neg k4, if_pos hsy] at HPD
    rw [hnb.1] at CN
    obtain ⟨S, hS⟩ : ∃ S, S = symT nm x := ⟨_, rfl⟩
    rw [← hS] at CN HPD hnb
    have hSe : (S.toList == (⟨#[]⟩ : ByteArray).toList) = false := by rw [hes]; exact decide_eq_false (fun e => hnb.2 (by rw [e]; rfl))
    have hSl : S.toList ≠ [] := fun e => by
      rw [Lib.toList_data] at e
      have h9 : S.data.size = 0 := by rw [← Array.length_toList, e]; rfl
      exact hnb.2 h9
    have hS1 : (S.toList == []) = false := by simpa using hSl
    have hS2 : S.toList.isEmpty = false := by simpa using hSl
    rw [HPD.out]
    rw [hW0] at CI CL CN
    clear hS hsy hnb k1 k4 k5 hes hem
    go_enter Tryz.func87, Tryz.ntmps87
    go_wp2_with (first
      | (go_at_call 138; (with_reducible refine CI.out.mono ?_); rintro e W1 ⟨rfl, hw1⟩; rw [hw1]; clear hw1)
      | (go_at_call 140; (with_reducible refine CL.out.mono ?_); rintro e W1 ⟨rfl, hw1⟩; rw [hw1]; clear hw1)
      | (go_at_call 141; (with_reducible refine CN.out.mono ?_); rintro e W3 ⟨t, rfl, ht, b3⟩; rw [← hW0] at b3; rw [ht (by trivial)]; obtain ⟨hz2, q1, q2⟩ := fin.out 6 0 W3 S b3; obtain ⟨c0, c1, c2, c3, f0, f1, f2, f3⟩ := hz2.c; have t0 := blk_cell q1 0; have t1 := blk_cell q1 1; have t2 := blk_cell q1 2; have t3 := blk_cell q1 3; have HQ2 := hid q2; clear hz2 q1 q2; clear ht; clear b3))
    (try simp only [Exit.inBlock, Exit.then]); refine bodyPost_ret (by simp [results, Tryz.results87, go_sem, t0, t1, t2, t3]; rfl) rfl ?_
    exact ⟨rfl, HQ2.out⟩
  have HNB : Hid (namB nm x = false ∨ (namB nm x = true ∧ symT nm x = ⟨#[]⟩)) := by
    unfold Hid
    cases hb : namB nm x
    · exact .inl rfl
    · refine .inr ⟨rfl, hem _ ?_⟩
      rw [HSN.out, hb, Bool.true_and, decide_eq_true_eq] at hsy
      omega
  have e2 : ∀ c : Int, x ≠ c → (x == c) = false := fun c h => by simpa using h
  rcases HNB.out with hnb | ⟨hnb, hemp⟩
  · rw [hnb] at CN
    by_cases k6 : nK x = 6
    · rw [if_neg (by omega), if_neg k4, if_neg hsy, if_pos k6] at HPD
      rw [decide_eq_true k6] at CP
      rw [HPD.out]
      rw [hW0] at CI CL CN
      clear k1 k4 k6 hes hem hsy hnb HNB e2
      go_enter Tryz.func87, Tryz.ntmps87
      go_wp2_with (first
        | (go_at_call 138; (with_reducible refine CI.out.mono ?_); rintro e W1 ⟨rfl, hw1⟩; rw [hw1]; clear hw1)
        | (go_at_call 140; (with_reducible refine CL.out.mono ?_); rintro e W1 ⟨rfl, hw1⟩; rw [hw1]; clear hw1)
        | (go_at_call 141; (with_reducible refine CN.out.mono ?_); rintro e W3 ⟨t, rfl, ht, b3⟩; rw [← hW0] at b3; have HB3 := hid b3; obtain ⟨hz2, q1, q2⟩ := fin.out 12 0 W3 ⟨#[]⟩ b3; obtain ⟨c0, c1, c2, c3, f0, f1, f2, f3⟩ := hz2.c; have t0 := blk_cell q1 0; have t1 := blk_cell q1 1; have t2 := blk_cell q1 2; have t3 := blk_cell q1 3; have HQ2 := hid q2; clear hz2 q1 q2; clear ht; clear b3)
        | (go_at_call 142; (with_reducible refine (CP.out _).mono ?_); rintro e W4 ⟨rfl, hw4⟩; rw [hw4]; clear hw4))
      (try simp only [Exit.inBlock, Exit.then]); refine bodyPost_ret (by simp [results, Tryz.results87, go_sem, t0, t1, t2, t3]; rfl) rfl ?_
      exact ⟨rfl, HQ2.out⟩
    rw [decide_eq_false k6] at CP
    by_cases k3 : nK x = 3
    · rw [if_pos k3] at HPD
      obtain ⟨hx8, hlo, hhi⟩ := HW3.out k3
      obtain ⟨y, hy⟩ : ∃ y, y = nN x := ⟨_, rfl⟩
      rw [← hy] at HPD hx8 hlo hhi
      clear hy k1 k4 k6 k3 hes hem hsy hnb HNB HNE HW3 HSN HFX
      by_cases h0 : y = 0
      · have hxe : x = 2 := by omega
        subst hxe
        subst h0
        have hpd : plainD nm 2 = ⟨1, 0, ByteArray.empty, []⟩ := HPD.out
        rw [hpd]
        rw [hW0] at CI CL CN
        clear hpd hx8 hlo hhi
        go_enter Tryz.func87, Tryz.ntmps87
        go_wp2_with (first
          | (go_at_call 138; (with_reducible refine CI.out.mono ?_); rintro e W1 ⟨rfl, hw1⟩; rw [hw1]; clear hw1)
          | (go_at_call 140; (with_reducible refine CL.out.mono ?_); rintro e W1 ⟨rfl, hw1⟩; rw [hw1]; clear hw1)
          | (go_at_call 141; (with_reducible refine CN.out.mono ?_); rintro e W3 ⟨t, rfl, ht, b3⟩; rw [← hW0] at b3; have HB3 := hid b3; obtain ⟨hz2, q1, q2⟩ := fin.out 1 0 W3 ⟨#[]⟩ b3; obtain ⟨c0, c1, c2, c3, f0, f1, f2, f3⟩ := hz2.c; have t0 := blk_cell q1 0; have t1 := blk_cell q1 1; have t2 := blk_cell q1 2; have t3 := blk_cell q1 3; have HQ2 := hid q2; clear hz2 q1 q2; clear ht; clear b3)
          | (go_at_call 142; (with_reducible refine (CP.out _).mono ?_); rintro e W4 ⟨rfl, hw4⟩; rw [hw4]; clear hw4))
        (try simp only [Exit.inBlock, Exit.then]); refine bodyPost_ret (by simp [results, Tryz.results87, go_sem, t0, t1, t2, t3]; rfl) rfl ?_
        exact ⟨rfl, HQ2.out⟩
      by_cases h1 : y = 1
      · have hxe : x = 10 := by omega
        subst hxe
        subst h1
        have hpd : plainD nm 10 = ⟨2, 0, ByteArray.empty, []⟩ := HPD.out
        rw [hpd]
        rw [hW0] at CI CL CN
        clear hpd hx8 hlo hhi
        go_enter Tryz.func87, Tryz.ntmps87
        go_wp2_with (first
          | (go_at_call 138; (with_reducible refine CI.out.mono ?_); rintro e W1 ⟨rfl, hw1⟩; rw [hw1]; clear hw1)
          | (go_at_call 140; (with_reducible refine CL.out.mono ?_); rintro e W1 ⟨rfl, hw1⟩; rw [hw1]; clear hw1)
          | (go_at_call 141; (with_reducible refine CN.out.mono ?_); rintro e W3 ⟨t, rfl, ht, b3⟩; rw [← hW0] at b3; have HB3 := hid b3; obtain ⟨hz2, q1, q2⟩ := fin.out 2 0 W3 ⟨#[]⟩ b3; obtain ⟨c0, c1, c2, c3, f0, f1, f2, f3⟩ := hz2.c; have t0 := blk_cell q1 0; have t1 := blk_cell q1 1; have t2 := blk_cell q1 2; have t3 := blk_cell q1 3; have HQ2 := hid q2; clear hz2 q1 q2; clear ht; clear b3)
          | (go_at_call 142; (with_reducible refine (CP.out _).mono ?_); rintro e W4 ⟨rfl, hw4⟩; rw [hw4]; clear hw4))
        (try simp only [Exit.inBlock, Exit.then]); refine bodyPost_ret (by simp [results, Tryz.results87, go_sem, t0, t1, t2, t3]; rfl) rfl ?_
        exact ⟨rfl, HQ2.out⟩
      by_cases h2 : y = 2
      · have hxe : x = 18 := by omega
        subst hxe
        subst h2
        have hpd : plainD nm 18 = ⟨2, 1, ByteArray.empty, []⟩ := HPD.out
        rw [hpd]
        rw [hW0] at CI CL CN
        clear hpd hx8 hlo hhi
        go_enter Tryz.func87, Tryz.ntmps87
        go_wp2_with (first
          | (go_at_call 138; (with_reducible refine CI.out.mono ?_); rintro e W1 ⟨rfl, hw1⟩; rw [hw1]; clear hw1)
          | (go_at_call 140; (with_reducible refine CL.out.mono ?_); rintro e W1 ⟨rfl, hw1⟩; rw [hw1]; clear hw1)
          | (go_at_call 141; (with_reducible refine CN.out.mono ?_); rintro e W3 ⟨t, rfl, ht, b3⟩; rw [← hW0] at b3; have HB3 := hid b3; obtain ⟨hz2, q1, q2⟩ := fin.out 2 1 W3 ⟨#[]⟩ b3; obtain ⟨c0, c1, c2, c3, f0, f1, f2, f3⟩ := hz2.c; have t0 := blk_cell q1 0; have t1 := blk_cell q1 1; have t2 := blk_cell q1 2; have t3 := blk_cell q1 3; have HQ2 := hid q2; clear hz2 q1 q2; clear ht; clear b3)
          | (go_at_call 142; (with_reducible refine (CP.out _).mono ?_); rintro e W4 ⟨rfl, hw4⟩; rw [hw4]; clear hw4))
        (try simp only [Exit.inBlock, Exit.then]); refine bodyPost_ret (by simp [results, Tryz.results87, go_sem, t0, t1, t2, t3]; rfl) rfl ?_
        exact ⟨rfl, HQ2.out⟩
      by_cases h3 : y = 3
      · have hxe : x = 26 := by omega
        subst hxe
        subst h3
        have hpd : plainD nm 26 = ⟨10, 0, ByteArray.empty, []⟩ := HPD.out
        rw [hpd]
        rw [hW0] at CI CL CN
        clear hpd hx8 hlo hhi
        go_enter Tryz.func87, Tryz.ntmps87
        go_wp2_with (first
          | (go_at_call 138; (with_reducible refine CI.out.mono ?_); rintro e W1 ⟨rfl, hw1⟩; rw [hw1]; clear hw1)
          | (go_at_call 140; (with_reducible refine CL.out.mono ?_); rintro e W1 ⟨rfl, hw1⟩; rw [hw1]; clear hw1)
          | (go_at_call 141; (with_reducible refine CN.out.mono ?_); rintro e W3 ⟨t, rfl, ht, b3⟩; rw [← hW0] at b3; have HB3 := hid b3; obtain ⟨hz2, q1, q2⟩ := fin.out 10 0 W3 ⟨#[]⟩ b3; obtain ⟨c0, c1, c2, c3, f0, f1, f2, f3⟩ := hz2.c; have t0 := blk_cell q1 0; have t1 := blk_cell q1 1; have t2 := blk_cell q1 2; have t3 := blk_cell q1 3; have HQ2 := hid q2; clear hz2 q1 q2; clear ht; clear b3)
          | (go_at_call 142; (with_reducible refine (CP.out _).mono ?_); rintro e W4 ⟨rfl, hw4⟩; rw [hw4]; clear hw4))
        (try simp only [Exit.inBlock, Exit.then]); refine bodyPost_ret (by simp [results, Tryz.results87, go_sem, t0, t1, t2, t3]; rfl) rfl ?_
        exact ⟨rfl, HQ2.out⟩
      have hpd : plainD nm x = voidN := by rw [HPD.out, if_neg h0, if_neg (by omega), if_neg h3]
      rw [hpd]
      have d1 := e2 2 (by omega)
      have d2 := e2 10 (by omega)
      have d3 := e2 18 (by omega)
      have d4 := e2 26 (by omega)
      rw [hW0] at CI CL CN
      clear hpd hx8 hlo hhi h0 h1 h2 h3 HPD e2
      go_enter Tryz.func87, Tryz.ntmps87
      go_wp2_with (first
        | (go_at_call 138; (with_reducible refine CI.out.mono ?_); rintro e W1 ⟨rfl, hw1⟩; rw [hw1]; clear hw1)
        | (go_at_call 140; (with_reducible refine CL.out.mono ?_); rintro e W1 ⟨rfl, hw1⟩; rw [hw1]; clear hw1)
        | (go_at_call 141; (with_reducible refine CN.out.mono ?_); rintro e W3 ⟨t, rfl, ht, b3⟩; rw [← hW0] at b3; have HB3 := hid b3; clear ht; clear b3)
        | (go_at_call 142; (with_reducible refine (CP.out _).mono ?_); rintro e W4 ⟨rfl, hw4⟩; rw [hw4]; clear hw4)
        | (go_at_call 137; (with_reducible refine (CV.out _).mono ?_); rintro e W5 ⟨rfl, b5⟩; have HB5 := hid (HB3.out.trans (b5.mono HB3.out.size)); obtain ⟨hz2, q1, q2⟩ := fin.out 11 0 W5 ⟨#[]⟩ HB5.out; obtain ⟨c0, c1, c2, c3, f0, f1, f2, f3⟩ := hz2.c; have t0 := blk_cell q1 0; have t1 := blk_cell q1 1; have t2 := blk_cell q1 2; have t3 := blk_cell q1 3; have HQ2 := hid q2; clear hz2 q1 q2; clear b5))
      (try simp only [Exit.inBlock, Exit.then]); refine bodyPost_ret (by simp [results, Tryz.results87, go_sem, t0, t1, t2, t3]; rfl) rfl ?_
      exact ⟨rfl, HQ2.out⟩
    · rw [if_neg k3, if_neg k4, if_neg hsy, if_neg k6] at HPD
      obtain ⟨n1, n2, n3, n4⟩ := HNE.out k3
      have d1 := e2 2 n1
      have d2 := e2 10 n2
      have d3 := e2 18 n3
      have d4 := e2 26 n4
      rw [HPD.out]
      rw [hW0] at CI CL CN
      clear k1 k4 k6 k3 hes hem hsy hnb HNB e2 n1 n2 n3 n4
      go_enter Tryz.func87, Tryz.ntmps87
      go_wp2_with (first
        | (go_at_call 138; (with_reducible refine CI.out.mono ?_); rintro e W1 ⟨rfl, hw1⟩; rw [hw1]; clear hw1)
        | (go_at_call 140; (with_reducible refine CL.out.mono ?_); rintro e W1 ⟨rfl, hw1⟩; rw [hw1]; clear hw1)
        | (go_at_call 141; (with_reducible refine CN.out.mono ?_); rintro e W3 ⟨t, rfl, ht, b3⟩; rw [← hW0] at b3; have HB3 := hid b3; clear ht; clear b3)
        | (go_at_call 142; (with_reducible refine (CP.out _).mono ?_); rintro e W4 ⟨rfl, hw4⟩; rw [hw4]; clear hw4)
        | (go_at_call 137; (with_reducible refine (CV.out _).mono ?_); rintro e W5 ⟨rfl, b5⟩; have HB5 := hid (HB3.out.trans (b5.mono HB3.out.size)); obtain ⟨hz2, q1, q2⟩ := fin.out 11 0 W5 ⟨#[]⟩ HB5.out; obtain ⟨c0, c1, c2, c3, f0, f1, f2, f3⟩ := hz2.c; have t0 := blk_cell q1 0; have t1 := blk_cell q1 1; have t2 := blk_cell q1 2; have t3 := blk_cell q1 3; have HQ2 := hid q2; clear hz2 q1 q2; clear b5))
      (try simp only [Exit.inBlock, Exit.then]); refine bodyPost_ret (by simp [results, Tryz.results87, go_sem, t0, t1, t2, t3]; rfl) rfl ?_
      exact ⟨rfl, HQ2.out⟩
  · have k5 : nK x = 5 := by
      unfold namB at hnb
      rw [Bool.and_eq_true, decide_eq_true_eq] at hnb
      exact hnb.1
    rw [if_neg (by omega), if_neg k4, if_neg hsy, if_neg (by omega)] at HPD
    rw [decide_eq_false (show ¬ nK x = 6 by omega)] at CP
    rw [hnb] at CN
    rw [hemp] at CN
    obtain ⟨n1, n2, n3, n4⟩ := HNE.out (by omega)
    have d1 := e2 2 n1
    have d2 := e2 10 n2
    have d3 := e2 18 n3
    have d4 := e2 26 n4
    rw [HPD.out]
    rw [hW0] at CI CL CN
    clear k1 k4 k5 hes hem hsy hnb hemp HNB e2 n1 n2 n3 n4
    go_enter Tryz.func87, Tryz.ntmps87
    go_wp2_with (first
      | (go_at_call 138; (with_reducible refine CI.out.mono ?_); rintro e W1 ⟨rfl, hw1⟩; rw [hw1]; clear hw1)
      | (go_at_call 140; (with_reducible refine CL.out.mono ?_); rintro e W1 ⟨rfl, hw1⟩; rw [hw1]; clear hw1)
      | (go_at_call 141; (with_reducible refine CN.out.mono ?_); rintro e W3 ⟨t, rfl, ht, b3⟩; rw [← hW0] at b3; rw [ht (by trivial)]; have HB3 := hid b3; clear ht; clear b3)
      | (go_at_call 142; (with_reducible refine (CP.out _).mono ?_); rintro e W4 ⟨rfl, hw4⟩; rw [hw4]; clear hw4)
      | (go_at_call 137; (with_reducible refine (CV.out _).mono ?_); rintro e W5 ⟨rfl, b5⟩; have HB5 := hid (HB3.out.trans (b5.mono HB3.out.size)); obtain ⟨hz2, q1, q2⟩ := fin.out 11 0 W5 ⟨#[]⟩ HB5.out; obtain ⟨c0, c1, c2, c3, f0, f1, f2, f3⟩ := hz2.c; have t0 := blk_cell q1 0; have t1 := blk_cell q1 1; have t2 := blk_cell q1 2; have t3 := blk_cell q1 3; have HQ2 := hid q2; clear hz2 q1 q2; clear b5))
    (try simp only [Exit.inBlock, Exit.then]); refine bodyPost_ret (by simp [results, Tryz.results87, go_sem, t0, t1, t2, t3]; rfl) rfl ?_
    exact ⟨rfl, HQ2.out⟩
end
end Go.Proofs.YtadfihnffboelaaGreatDoor
