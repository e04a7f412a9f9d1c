/-
  What operations of integers come to; walks of the program's Reckon.
-/
import Derived.Test.YtdekkieajffblaaGreatW52
import Derived.Test.YtdekkieajffblaaGreatW51
import Derived.Test.YtdekkieajffblaaGreatG0
import Derived.Test.YtdekkieajffblaaGreatW30
import Derived.Test.YtdekkieajffblaaGreatW21
import Derived.Test.YtdekkieajffblaaGreatW22
import Derived.Test.YtdekkieajffblaaGreatW24
import Derived.Test.YtdekkieajffblaaGreatW23
set_option linter.unusedVariables false
set_option linter.unusedSimpArgs false
namespace Go.Proofs.YtdekkieajffblaaGreat
open Go.RowKit

set_option maxHeartbeats 1000000 in
theorem divz_any (neg neg' : Bool) (ao ao' : Option Addr) (n cap cap' : Nat) (l : List Nat) (w : World) (R : Row .u32 B32 w ao n cap l) (R' : Row .u32 B32 w ao' 0 cap' []) (g : goodB neg l = true) (g' : goodB neg' [] = true) :
    Calls Tryz.prog 54 #[.agg #[.bool neg, .slice ao n cap], .agg #[.bool neg', .slice ao' 0 cap']] w fun e w' => e = .returned (.tuple #[.agg #[.bool false, .slice none 0 0], .agg #[.bool false, .slice none 0 0], .int .i64 11]) ∧ Below w.heap.size w w' := by
  have HR := hid R
  have HR' := hid R'
  have G := hid g
  have G' := hid g'
  have hmx' := R'.most
  unfold maxLen at hmx'
  clear R R' g g'
  go_enter Tryz.func54, Tryz.ntmps54
  go_wp2_with fail
  obtain ⟨x1, x2, x3, x4, hb0⟩ := four_boxes 40 w neg neg' false false ao ao' none none n cap 0 cap' 0 0 0 0 _ rfl
  generalize hW0 : ((((w.alloc (.cells #[.bool neg, .slice ao n cap] 40)).alloc (.cells #[.bool neg', .slice ao' 0 cap'] 40)).alloc (.cells #[.bool false, .slice none 0 0] 40)).alloc (.cells #[.bool false, .slice none 0 0] 40)) = W0 at *
  clear hW0
  refine (good_any neg ao n cap l W0 (HR.out.below hb0)).mono ?_
  rintro e w1 ⟨rfl, hb1⟩
  rw [G.out]
  obtain ⟨c20, c21⟩ := (x2.on hb1).c
  have X2 := hid (x2.on hb1)
  have X3 := hid (x3.on hb1)
  have X4 := hid (x4.on hb1)
  have HB1 := hid (Bt hb0 hb1)
  clear x1 x2 x3 x4 hb0 hb1
  go_wp2_with fail
  refine (good_any neg' ao' 0 cap' [] w1 (HR'.out.below HB1.out)).mono ?_
  rintro e w2 ⟨rfl, hb2⟩
  rw [G'.out]
  clear c20 c21
  obtain ⟨c20, c21⟩ := (X2.out.on hb2).c
  have Y3 := hid (X3.out.on hb2)
  have Y4 := hid (X4.out.on hb2)
  obtain ⟨f0, f1⟩ := Y3.out.f
  obtain ⟨f2, f3⟩ := Y4.out.f
  obtain ⟨z0, z1⟩ := Y3.out.c
  obtain ⟨z2, z3⟩ := Y4.out.c
  have HB2 := hid (Bt HB1.out hb2)
  clear hb2 X2 X3 X4 HB1
  go_wp2
  have q1 := (Y3.out.set2 false none 0 0).far2 (q := w.heap.size + 1 + 1 + 1) (by omega) (.bool false) (.slice none 0 0)
  have q2 := (Y4.out.far2 (q := w.heap.size + 1 + 1) (by omega) (.bool false) (.slice none 0 0)).set2 false none 0 0
  obtain ⟨y0, y1⟩ := q1.c
  obtain ⟨y2, y3⟩ := q2.c
  have bF := ((((HB2.out.setCell (p := ⟨w.heap.size + 1 + 1, 0, none⟩) (by simp; omega) (.bool false)).setCell (p := ⟨w.heap.size + 1 + 1, 1, none⟩) (by simp; omega) (.slice none 0 0)).setCell (p := ⟨w.heap.size + 1 + 1 + 1, 0, none⟩) (by simp; omega) (.bool false)).setCell (p := ⟨w.heap.size + 1 + 1 + 1, 1, none⟩) (by simp; omega) (.slice none 0 0))
  exact bodyPost_ret (v := .tuple #[.agg #[.bool false, .slice none 0 0], .agg #[.bool false, .slice none 0 0], .int .i64 11]) (by simp [results, Tryz.results54, go_sem, y0, y1, y2, y3]) rfl ⟨rfl, bF⟩

set_option maxHeartbeats 1000000 in
theorem rdivz_any (neg neg' : Bool) (ao ao' : Option Addr) (n cap cap' : Nat) (w : World) (hmx' : cap' ≤ maxLen) :
    Calls Tryz.prog 76 #[.agg #[.bool neg, .slice ao n cap], .agg #[.bool neg', .slice ao' 0 cap']] w fun e w' => e = .returned (.tuple #[.agg #[.bool false, .slice none 0 0], .agg #[.bool false, .slice none 0 0], .int .i64 11]) ∧ Below w.heap.size w w' := by
  unfold maxLen at hmx'
  go_enter Tryz.func76, Tryz.ntmps76
  go_wp2_with fail
  obtain ⟨x1, x2, x3, x4, hb0⟩ := four_boxes 40 w neg neg' false false ao ao' none none n cap 0 cap' 0 0 0 0 _ rfl
  generalize hW0 : ((((w.alloc (.cells #[.bool neg, .slice ao n cap] 40)).alloc (.cells #[.bool neg', .slice ao' 0 cap'] 40)).alloc (.cells #[.bool false, .slice none 0 0] 40)).alloc (.cells #[.bool false, .slice none 0 0] 40)) = W0 at *
  clear hW0
  obtain ⟨z0, z1⟩ := x3.c
  obtain ⟨z2, z3⟩ := x4.c
  exact bodyPost_ret (v := .tuple #[.agg #[.bool false, .slice none 0 0], .agg #[.bool false, .slice none 0 0], .int .i64 11]) (by simp [results, Tryz.results76, go_sem, z0, z1, z2, z3]) rfl ⟨rfl, hb0⟩

/-- What a division answers. -/
def DvPost (w : World) (a b : Int) (e : Ending) (w' : World) : Prop :=
  ∃ xq xr, e = .returned (.tuple #[xq, xr, .int .i64 (if b = 0 then 11 else 0)]) ∧ IsInt w' xq (if b = 0 then 0 else a.tdiv b) ∧ IsInt w' xr (if b = 0 then 0 else a.tmod b) ∧ Below w.heap.size w w'
theorem sgn_zero {s : Bool} {l : List Nat} (g : goodB s l = true) : sgn s (val B32 l) = 0 ↔ l = [] := by
  constructor
  · intro h
    apply Classical.byContradiction; intro hl
    have := (goodB_tr g).ne_zero (B := B32) (by decide) hl
    unfold sgn at h; split at h <;> omega
  · rintro rfl; unfold sgn; simp [val]
theorem div_post (x y : Value) (a b : Int) (w : World) (hx : IsInt w x a) (hy : IsInt w y b) : Calls Tryz.prog 54 #[x, y] w (DvPost w a b) := by
  by_cases hb : b = 0
  · obtain ⟨s, ao, n, cap, l, rfl, R, g, rfl⟩ := hx.open_
    obtain ⟨s', ao', n', cap', l', rfl, R', g', rfl⟩ := hy.open_
    have hl := (sgn_zero g').1 hb
    subst hl
    obtain rfl : n' = 0 := by have := R'.len; simpa using this.symm
    refine (divz_any s s' ao ao' n cap cap' l w R R' g g').mono ?_
    rintro e w' ⟨rfl, hbl⟩
    exact ⟨_, _, by rw [if_pos hb], by rw [if_pos hb]; exact zero_is w', by rw [if_pos hb]; exact zero_is w', hbl⟩
  · refine (div_is x y a b w hx hy hb long_any).mono ?_
    rintro e w' ⟨xq, xr, rfl, h1, h2, hbl⟩
    exact ⟨xq, xr, by rw [if_neg hb], by rw [if_neg hb]; exact h1, by rw [if_neg hb]; exact h2, hbl⟩
theorem rdiv_post (x y : Value) (a b : Int) (w : World) (hx : IsInt w x a) (hy : IsInt w y b) : Calls Tryz.prog 76 #[x, y] w (DvPost w a b) := by
  obtain ⟨s, ao, n, cap, l, rfl, R, g, rfl⟩ := hx.open_
  obtain ⟨s', ao', n', cap', l', rfl, R', g', rfl⟩ := hy.open_
  by_cases hb : sgn s' (val B32 l') = 0
  · have hl := (sgn_zero g').1 hb
    subst hl
    obtain rfl : n' = 0 := by have := R'.len; simpa using this.symm
    refine (rdivz_any s s' ao ao' n cap cap' w R'.most).mono ?_
    rintro e w' ⟨rfl, hbl⟩
    exact ⟨_, _, by rw [if_pos hb], by rw [if_pos hb]; exact zero_is w', by rw [if_pos hb]; exact zero_is w', hbl⟩
  · have hn : n' ≠ 0 := by
      rintro rfl
      exact hb ((sgn_zero g').2 (List.length_eq_zero_iff.1 R'.len))
    refine (rdiv_any s s' ao ao' n cap n' cap' l l' w R R' (by rw [← R.len]; exact goodB_len g) (by rw [← R'.len]; exact goodB_len g') hn (goodB_tr g')).mono ?_
    rintro e w' ⟨xq, xr, rfl, h1, h2, hbl⟩
    exact ⟨xq, xr, by rw [if_neg hb], by rw [if_neg hb]; exact h1, by rw [if_neg hb]; exact h2, hbl⟩

end Go.Proofs.YtdekkieajffblaaGreat

set_option linter.unusedVariables false
set_option linter.unusedSimpArgs false
namespace Go.Proofs.YtdekkieajffblaaGreat
open Go.RowKit

theorem AnsI.form {w : World} {x : Value} {en z : Int} (h : AnsI w x en z) : ∃ s ao n cap l, x = .agg #[.bool s, .slice ao n cap] ∧ Row .u32 B32 w ao n cap l ∧ (∀ w', Row .u32 B32 w' ao n cap l → AnsI w' x en z) := by
  rcases h with ⟨h1, h2, h3⟩ | ⟨h1, h2, rfl⟩
  · obtain ⟨s, ao, n, cap, l, rfl, R, g, rfl⟩ := h3.open_
    exact ⟨s, ao, n, cap, l, rfl, R, fun w' R' => .inl ⟨h1, h2, s, l, ⟨ao, n, cap, rfl, R'⟩, g, rfl⟩⟩
  · exact ⟨false, none, 0, 0, [], rfl, Row.nil _ _ _ _, fun w' _ => .inr ⟨h1, h2, rfl⟩⟩
theorem add_is (x y : Value) (a b : Int) (w : World) (hx : IsInt w x a) (hy : IsInt w y b) : Calls Tryz.prog 51 #[x, y] w (AddPost w (a + b)) := by
  obtain ⟨s, ao, n, cap, l, rfl, R, g, rfl⟩ := hx.open_
  obtain ⟨s', ao', n', cap', l', rfl, R', g', rfl⟩ := hy.open_
  exact add_any s s' ao ao' n cap n' cap' l l' w R R' g g'
set_option maxHeartbeats 4000000 in
theorem sub_any (neg neg' : Bool) (ao ao' : Option Addr) (n cap n' cap' : Nat) (l l' : List Nat) (w : World) (R : Row .u32 B32 w ao n cap l) (R' : Row .u32 B32 w ao' n' cap' l') (g1 : goodB neg l = true) (g2 : goodB neg' l' = true) :
    Calls Tryz.prog 52 #[.agg #[.bool neg, .slice ao n cap], .agg #[.bool neg', .slice ao' n' cap']] w (AddPost w (sgn neg (val B32 l) + - sgn neg' (val B32 l'))) := by
  have HR := hid R
  have HR' := hid R'
  have G1 := hid g1
  have G2 := hid g2
  have hn40 : n ≤ 40 := by rw [← R.len]; exact goodB_len g1
  have hn40' : n' ≤ 40 := by rw [← R'.len]; exact goodB_len g2
  clear R R' g1 g2
  go_enter Tryz.func52, Tryz.ntmps52
  go_wp2_with fail
  obtain ⟨x1, x2, x3, hb0⟩ := three_boxes 40 w neg neg' false ao ao' none n cap n' cap' 0 0 _ rfl
  generalize hW0 : (((w.alloc (.cells #[.bool neg, .slice ao n cap] 40)).alloc (.cells #[.bool neg', .slice ao' n' cap'] 40)).alloc (.cells #[.bool false, .slice none 0 0] 40)) = W0 at *
  clear hW0
  refine (good_any neg ao n cap l W0 (HR.out.below hb0)).mono ?_
  rintro e w1 ⟨rfl, hb1⟩
  rw [G1.out]
  obtain ⟨c20, c21⟩ := (x2.on hb1).c
  have X1 := hid (x1.on hb1)
  have X2 := hid (x2.on hb1)
  have X3 := hid (x3.on hb1)
  have HB1 := hid (Bt hb0 hb1)
  clear x1 x2 x3 hb0 hb1
  go_wp2_with fail
  refine (good_any neg' ao' n' cap' l' w1 (HR'.out.below HB1.out)).mono ?_
  rintro e w2 ⟨rfl, hb2⟩
  rw [G2.out]
  clear c20 c21
  have Y3 := hid (X3.out.on hb2)
  have HB2 := hid (Bt HB1.out hb2)
  have hS : w2.cell? ⟨w.heap.size, 0, none⟩ = some (.bool neg) ∧ w2.cell? ⟨w.heap.size, 1, none⟩ = some (.slice ao n cap) ∧ w2.cell? ⟨w.heap.size + 1, 0, none⟩ = some (.bool neg') ∧ w2.cell? ⟨w.heap.size + 1, 1, none⟩ = some (.slice ao' n' cap') := ⟨(X1.out.on hb2).c.1, (X1.out.on hb2).c.2, (X2.out.on hb2).c.1, (X2.out.on hb2).c.2⟩
  have RW := hid (HR.out.below HB2.out)
  have RW' := hid (HR'.out.below HB2.out)
  have HS := hid hS
  clear hb2 X1 X2 X3 HB1 HR HR' hS
  have IA : Hid (IsInt w2 (.agg #[.bool neg, .slice ao n cap]) (sgn neg (val B32 l))) := ⟨neg, l, ⟨ao, n, cap, rfl, RW.out⟩, G1.out, rfl⟩
  go_wp2
  go_region_held3 (fun wx => wx.cell? ⟨w.heap.size, 0, none⟩ = some (.bool neg) ∧ wx.cell? ⟨w.heap.size, 1, none⟩ = some (.slice ao n cap) ∧ wx.cell? ⟨w.heap.size + 1, 0, none⟩ = some (.bool neg') ∧ wx.cell? ⟨w.heap.size + 1, 1, none⟩ = some (.slice ao' n' cap'))
    (first | exact keep4 HS.out (Bd w2 1) | exact keep4 (by assumption) (by assumption) | exact keep4s (by assumption) (by omega) (by omega))
    (first
      | (go_at_call 80; refine (neg_any neg' ao' n' cap' l' _ ?_ G2.out).mono ?_; (exact RW'.out.below (Bd w2 1)); rintro e wa ⟨xb, rfl, ib, ba⟩; have IB := hid ib; clear ib)
      | (go_at_call 51; refine (add_is (.agg #[.bool neg, .slice ao n cap]) xb (sgn neg (val B32 l)) (- sgn neg' (val B32 l')) _ ?_ ?_).mono ?_; (exact (IA.out.below (Bd w2 1)).below ba); (exact IB.out); rintro e wb ⟨x, en, rfl, hA, bb⟩; obtain ⟨sx, ax, nx, cx, lx, rfl, Rx, hAx⟩ := hA.form; have Z3 := ((Y3.out.on (Bd w2 1)).on ba).on bb; obtain ⟨z30, z31⟩ := Z3.c; obtain ⟨f30, f31⟩ := Z3.f; have HZ := hid Z3; have HRx := hid Rx; have HAx := hid hAx; clear hA Rx hAx Z3))
  have hbW : Below w.heap.size w wb := Bt (Bt (Bt HB2.out (Bd w2 1)) ba) bb
  have z := HZ.out.set2 sx ax nx cx
  obtain ⟨y0, y1⟩ := z.c
  have rx := HAx.out _ (HRx.out.setBox2 HZ.out sx (.slice ax nx cx))
  have bF := (hbW.setCell (p := ⟨w.heap.size + 1 + 1, 0, none⟩) (by simp; omega) (.bool sx)).setCell (p := ⟨w.heap.size + 1 + 1, 1, none⟩) (by simp; omega) (.slice ax nx cx)
  rename_i hHeld
  clear hHeld
  go_wp2
  exact bodyPost_ret (v := .tuple #[.agg #[.bool sx, .slice ax nx cx], .int .i64 en]) (by simp [results, Tryz.results52, go_sem, y0, y1]) rfl ⟨_, _, rfl, rx, bF⟩

end Go.Proofs.YtdekkieajffblaaGreat

set_option linter.unusedVariables false
set_option linter.unusedSimpArgs false
namespace Go.Proofs.YtdekkieajffblaaGreat
open Go.RowKit

section
variable {P : Program} {ops : Array Oper} {Q : Exit → Act → World → Prop} {md : Region.Mode} {S : World → Prop} {σ : Type}
theorem wpAnyH_wf (L : σ → Array Bool) (m f : σ → Nat) (Inv : Act → σ → Act → World → Prop) {a0 : Act}
    (h : ∀ s a w, Inv a0 s a w → (∀ s', m s' < m s → ∀ a' w', Inv a0 s' a' w' → wpAnyH P md ops Q S (f s') (L s') a' w') → wpAnyH P md ops Q S (f s) (L s) a w) :
    ∀ n s a w, m s = n → Inv a0 s a w → wpAnyH P md ops Q S (f s) (L s) a w := by
  intro n
  induction n using Nat.strongRecOn with
  | ind n ih =>
    intro s a w hn hI
    exact h s a w hI (fun s' hs a' w' hI' => ih (m s') (by omega) s' a' w' rfl hI')
theorem wpAnyH_start (L : σ → Array Bool) (m f : σ → Nat) (Inv : Act → σ → Act → World → Prop) (s : σ) {a0 : Act} {w : World} (h0 : Inv a0 s a0 w)
    (h : ∀ s a w, Inv a0 s a w → (∀ s', m s' < m s → ∀ a' w', Inv a0 s' a' w' → wpAnyH P md ops Q S (f s') (L s') a' w') → wpAnyH P md ops Q S (f s) (L s) a w) :
    wpAnyH P md ops Q S (f s) (L s) a0 w := wpAnyH_wf L m f Inv h (m s) s a0 w rfl h0
end

/-- The call answered the integer z. -/
def OkPost (w : World) (z : Int) (e : Ending) (w' : World) : Prop := ∃ s ao n cap, e = .returned (.tuple #[.agg #[.bool s, .slice ao n cap], .int .i64 0]) ∧ IsInt w' (.agg #[.bool s, .slice ao n cap]) z ∧ Below w.heap.size w w'
theorem OkPost.of {w w' : World} {z : Int} {x : Value} {en : Int} (h : AnsI w' x en z) (hb : ¬ Big z.natAbs) (bel : Below w.heap.size w w') : OkPost w z (.returned (.tuple #[x, .int .i64 en])) w' := by
  rcases h with ⟨_, rfl, h3⟩ | ⟨h1, _⟩
  · have := h3
    obtain ⟨s, ao, n, cap, l, rfl, _⟩ := h3.open_
    exact ⟨s, ao, n, cap, rfl, this, bel⟩
  · exact absurd h1 hb
theorem sgn_mul (s s' : Bool) (v u : Nat) : sgn (s != s') (v * u) = sgn s v * sgn s' u := by
  cases s <;> cases s' <;> simp [sgn, Int.mul_neg, Int.neg_mul]
theorem add_ok (x y : Value) (a b : Int) (w : World) (hx : IsInt w x a) (hy : IsInt w y b) (hb : ¬ Big (a + b).natAbs) : Calls Tryz.prog 51 #[x, y] w (OkPost w (a + b)) :=
  (add_is x y a b w hx hy).mono fun e w' ⟨v, en, h1, h2, h3⟩ => h1 ▸ OkPost.of h2 hb h3
theorem sub_ok (x y : Value) (a b : Int) (w : World) (hx : IsInt w x a) (hy : IsInt w y b) (hb : ¬ Big (a + -b).natAbs) : Calls Tryz.prog 52 #[x, y] w (OkPost w (a + -b)) := by
  obtain ⟨s, ao, n, cap, l, rfl, R, g, rfl⟩ := hx.open_
  obtain ⟨s', ao', n', cap', l', rfl, R', g', rfl⟩ := hy.open_
  exact (sub_any s s' ao ao' n cap n' cap' l l' w R R' g g').mono fun e w' ⟨v, en, h1, h2, h3⟩ => h1 ▸ OkPost.of h2 hb h3
theorem mul_ok (x y : Value) (a b : Int) (w : World) (hx : IsInt w x a) (hy : IsInt w y b) (hb : ¬ Big (a * b).natAbs) : Calls Tryz.prog 53 #[x, y] w (OkPost w (a * b)) := by
  obtain ⟨s, ao, n, cap, l, rfl, R, g, rfl⟩ := hx.open_
  obtain ⟨s', ao', n', cap', l', rfl, R', g', rfl⟩ := hy.open_
  refine (mul_any s s' ao ao' n cap n' cap' l l' w R R' g g').mono fun e w' ⟨v, en, h1, h2, h3⟩ => ?_
  subst h1
  rw [← sgn_mul] at hb ⊢
  exact OkPost.of h2.toI hb h3

/-- What is small. -/
structure Small3 (A B C : Int) : Prop where
  ab : ¬ Big (A + B).natAbs
  ba : ¬ Big (B + A).natAbs
  abc : ¬ Big ((A + B) * C).natAbs
  ac : ¬ Big (A * C).natAbs
  bc : ¬ Big (B * C).natAbs
  s : ¬ Big (A * C + B * C).natAbs
  cb : ¬ Big (C * B).natAbs
  m : ¬ Big (A * B).natAbs
  p : ¬ Big (A * B * C).natAbs
  q : ¬ Big (A * (C * B)).natAbs
  d : ¬ Big (A + B + -B).natAbs
theorem small3 {A B C : Int} {x y z : Nat} (hA : A.natAbs < B32 ^ x) (hB : B.natAbs < B32 ^ y) (hC : C.natAbs < B32 ^ z) (h : x + y + z ≤ 38) : Small3 A B C := by
  have hX : 0 < B32 ^ x := Nat.pow_pos (by decide)
  have hY : 0 < B32 ^ y := Nat.pow_pos (by decide)
  have hZ : 0 < B32 ^ z := Nat.pow_pos (by decide)
  have hT : B32 ^ x * B32 ^ y * B32 ^ z ≤ B32 ^ 38 := by
    rw [← Nat.pow_add, ← Nat.pow_add]; exact Nat.pow_le_pow_right (by decide) h
  have hL : 2 * B32 ^ 38 < B32 ^ 40 := by
    rw [show (40 : Nat) = 38 + 2 from rfl, Nat.pow_add]
    have : 0 < B32 ^ 38 := Nat.pow_pos (by decide)
    have h2 : 2 < B32 ^ 2 := by decide
    rw [Nat.mul_comm (B32 ^ 38)]
    exact Nat.mul_lt_mul_of_pos_right h2 this
  generalize B32 ^ x = X at *
  generalize B32 ^ y = Y at *
  generalize B32 ^ z = Z at *
  generalize B32 ^ 38 = M at *
  have key : ∀ v : Nat, v ≤ 2 * M → ¬ Big v := by
    intro v hv hb
    unfold Big at hb
    omega
  generalize ha : A.natAbs = a at *
  generalize hb : B.natAbs = b at *
  generalize hc : C.natAbs = c at *
  have e1 : X + Y ≤ 2 * (X * Y) := by
    have h1 : X * 1 ≤ X * Y := Nat.mul_le_mul_left _ hY
    have h2 : 1 * Y ≤ X * Y := Nat.mul_le_mul_right _ hX
    omega
  have e2 : X * Y ≤ X * Y * Z := Nat.le_mul_of_pos_right _ hZ
  have e3 : a * c ≤ X * Z := Nat.mul_le_mul (by omega) (by omega)
  have e4 : b * c ≤ Y * Z := Nat.mul_le_mul (by omega) (by omega)
  have e5 : X * Z ≤ X * Y * Z := by
    rw [Nat.mul_right_comm]; exact Nat.le_mul_of_pos_right _ hY
  have e6 : Y * Z ≤ X * Y * Z := by
    rw [Nat.mul_assoc]; exact Nat.le_mul_of_pos_left _ hX
  have e7 : a * b ≤ X * Y := Nat.mul_le_mul (by omega) (by omega)
  have e8 : a * b * c ≤ X * Y * Z := Nat.mul_le_mul e7 (by omega)
  have sAB : (A + B).natAbs ≤ a + b := by rw [← ha, ← hb]; exact Int.natAbs_add_le _ _
  have eABC : (A + B).natAbs * c ≤ (a + b) * c := Nat.mul_le_mul_right _ sAB
  rw [Nat.add_mul] at eABC
  have sS : (A * C + B * C).natAbs ≤ a * c + b * c := by
    rw [← ha, ← hb, ← hc, ← Int.natAbs_mul, ← Int.natAbs_mul]; exact Int.natAbs_add_le _ _
  refine ⟨?_, ?_, ?_, ?_, ?_, ?_, ?_, ?_, ?_, ?_, ?_⟩ <;> apply key
  · omega
  · rw [Int.add_comm]; omega
  · rw [Int.natAbs_mul, hc]; omega
  · rw [Int.natAbs_mul, ha, hc]; omega
  · rw [Int.natAbs_mul, hb, hc]; omega
  · omega
  · rw [Int.natAbs_mul, hb, hc, Nat.mul_comm]; omega
  · rw [Int.natAbs_mul, ha, hb]; omega
  · rw [Int.natAbs_mul, Int.natAbs_mul, ha, hb, hc]; omega
  · rw [Int.natAbs_mul, Int.natAbs_mul, ha, hb, hc, Nat.mul_comm c b, ← Nat.mul_assoc]; omega
  · rw [Int.add_neg_cancel_right, ha]; omega

end Go.Proofs.YtdekkieajffblaaGreat

set_option linter.unusedVariables false
set_option linter.unusedSimpArgs false
set_option maxRecDepth 100000
namespace Go.Proofs.YtdekkieajffblaaGreat
open Go.RowKit

/-- Has an integer more limbs than there may be? -/
def tooB (z : Int) : Bool := decide (B32 ^ 40 ≤ z.natAbs)
theorem tooB_iff (z : Int) : tooB z = true ↔ Big z.natAbs := by unfold tooB Big; exact decide_eq_true_iff
def bigZ (z : Int) : Int × Int := if tooB z = true then (0, 10) else (z, 0)
/-- The rest that is nought or has b's sign. -/
def modZ (a b : Int) : Int := if a.tmod b ≠ 0 ∧ decide (a.tmod b < 0) ≠ decide (b < 0) then a.tmod b + b else a.tmod b
def reckM (op a b : Int) : Int × Int :=
  if op = 1 then bigZ (a + b) else if op = 2 then bigZ (a + -b) else if op = 3 then bigZ (a * b)
  else if op = 4 then (if b = 0 then (0, 11) else (a.tdiv b, 0)) else if op = 5 then (if b = 0 then (0, 11) else (a.tmod b, 0))
  else if op = 6 then (if b = 0 then (0, 11) else (modZ a b, 0)) else (0, 1)
/-- A call that answers an integer and an error. -/
def RkPost (w : World) (r : Int × Int) (e : Ending) (w' : World) : Prop := ∃ s ao n cap, e = .returned (.tuple #[.agg #[.bool s, .slice ao n cap], .int .i64 r.2]) ∧ IsInt w' (.agg #[.bool s, .slice ao n cap]) r.1 ∧ Below w.heap.size w w'
theorem AddPost.rk {w w' : World} {z : Int} {e : Ending} (h : AddPost w z e w') : RkPost w (bigZ z) e w' := by
  obtain ⟨x, en, rfl, h1, h2⟩ := h
  rcases h1 with ⟨a1, rfl, a3⟩ | ⟨a1, rfl, rfl⟩
  · have e : bigZ z = (z, 0) := by unfold bigZ; rw [if_neg (fun h => a1 ((tooB_iff z).1 h))]
    rw [e]
    have a4 := a3
    obtain ⟨s, ao, n, cap, l, rfl, _⟩ := a3.open_
    exact ⟨s, ao, n, cap, rfl, a4, h2⟩
  · have e : bigZ z = (0, 10) := by unfold bigZ; rw [if_pos ((tooB_iff z).2 a1)]
    rw [e]
    exact ⟨_, _, _, _, rfl, zero_is w', h2⟩
theorem IsInt.setBox {w : World} {p : Nat} {s : Bool} {a : Option Addr} {m c : Nat} {t : TypeId} (h : Box t w p s a m c) {x : Value} {z : Int} (hi : IsInt w x z) (y : Bool) (v : Value) : IsInt ((w.setCell ⟨p, 0, none⟩ (.bool y)).setCell ⟨p, 1, none⟩ v) x z := by
  obtain ⟨s', l, ⟨ao, n, cap, e, R⟩, g, e2⟩ := hi
  exact ⟨s', l, ⟨ao, n, cap, e, R.setBox2 h y v⟩, g, e2⟩
theorem mul_is (x y : Value) (a b : Int) (w : World) (hx : IsInt w x a) (hy : IsInt w y b) : Calls Tryz.prog 53 #[x, y] w (AddPost w (a * b)) := by
  obtain ⟨s, ao, n, cap, l, rfl, R, g, rfl⟩ := hx.open_
  obtain ⟨s', ao', n', cap', l', rfl, R', g', rfl⟩ := hy.open_
  refine (mul_any s s' ao ao' n cap n' cap' l l' w R R' g g').mono fun e w' ⟨v, en, h1, h2, h3⟩ => ?_
  subst h1
  rw [← sgn_mul]
  exact ⟨v, en, rfl, h2.toI, h3⟩
theorem sub_all (x y : Value) (a b : Int) (w : World) (hx : IsInt w x a) (hy : IsInt w y b) : Calls Tryz.prog 52 #[x, y] w (AddPost w (a + -b)) := by
  obtain ⟨s, ao, n, cap, l, rfl, R, g, rfl⟩ := hx.open_
  obtain ⟨s', ao', n', cap', l', rfl, R', g', rfl⟩ := hy.open_
  exact sub_any s s' ao ao' n cap n' cap' l l' w R R' g g'
end Go.Proofs.YtdekkieajffblaaGreat
