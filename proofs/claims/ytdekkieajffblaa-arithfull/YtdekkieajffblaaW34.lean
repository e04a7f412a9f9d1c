/-
  Walks: Sub.
-/
import Derived.Test.YtdekkieajffblaaW52
import Derived.Test.YtdekkieajffblaaW51
import Derived.Test.YtdekkieajffblaaG0
import Derived.Test.YtdekkieajffblaaW30
import Derived.Test.YtdekkieajffblaaW21
set_option linter.unusedVariables false
set_option linter.unusedSimpArgs false
namespace Go.Proofs.Ytdekkieajffblaa
open Go.RowKit

set_option maxHeartbeats 1000000 in
theorem divz_any (neg neg' : Bool) (ao ao' : Option Addr) (n cap cap' : Nat) (l : List Nat) (w : World) (R : Row .u32 B32 w ao n cap l) (R' : Row .u32 B32 w ao' 0 cap' []) (g : goodB neg l = true) (g' : goodB neg' [] = true) :
    Calls Try.prog 26 #[.agg #[.bool neg, .slice ao n cap], .agg #[.bool neg', .slice ao' 0 cap']] w fun e w' => e = .returned (.tuple #[.agg #[.bool false, .slice none 0 0], .agg #[.bool false, .slice none 0 0], .int .i64 11]) ∧ Below w.heap.size w w' := by
  have HR := hid R
  have HR' := hid R'
  have G := hid g
  have G' := hid g'
  have hmx' := R'.most
  unfold maxLen at hmx'
  clear R R' g g'
  go_enter Try.func26, Try.ntmps26
  go_wp2_with fail
  obtain ⟨x1, x2, x3, x4, hb0⟩ := four_boxes 24 w neg neg' false false ao ao' none none n cap 0 cap' 0 0 0 0 _ rfl
  generalize hW0 : ((((w.alloc (.cells #[.bool neg, .slice ao n cap] 24)).alloc (.cells #[.bool neg', .slice ao' 0 cap'] 24)).alloc (.cells #[.bool false, .slice none 0 0] 24)).alloc (.cells #[.bool false, .slice none 0 0] 24)) = W0 at *
  clear hW0
  refine (good_any neg ao n cap l W0 (HR.out.below hb0)).mono ?_
  rintro e w1 ⟨rfl, hb1⟩
  rw [G.out]
  obtain ⟨c20, c21⟩ := (x2.on hb1).c
  have X2 := hid (x2.on hb1)
  have X3 := hid (x3.on hb1)
  have X4 := hid (x4.on hb1)
  have HB1 := hid (Bt hb0 hb1)
  clear x1 x2 x3 x4 hb0 hb1
  go_wp2_with fail
  refine (good_any neg' ao' 0 cap' [] w1 (HR'.out.below HB1.out)).mono ?_
  rintro e w2 ⟨rfl, hb2⟩
  rw [G'.out]
  clear c20 c21
  obtain ⟨c20, c21⟩ := (X2.out.on hb2).c
  have Y3 := hid (X3.out.on hb2)
  have Y4 := hid (X4.out.on hb2)
  obtain ⟨f0, f1⟩ := Y3.out.f
  obtain ⟨f2, f3⟩ := Y4.out.f
  obtain ⟨z0, z1⟩ := Y3.out.c
  obtain ⟨z2, z3⟩ := Y4.out.c
  have HB2 := hid (Bt HB1.out hb2)
  clear hb2 X2 X3 X4 HB1
  go_wp2
  have q1 := (Y3.out.set2 false none 0 0).far2 (q := w.heap.size + 1 + 1 + 1) (by omega) (.bool false) (.slice none 0 0)
  have q2 := (Y4.out.far2 (q := w.heap.size + 1 + 1) (by omega) (.bool false) (.slice none 0 0)).set2 false none 0 0
  obtain ⟨y0, y1⟩ := q1.c
  obtain ⟨y2, y3⟩ := q2.c
  have bF := ((((HB2.out.setCell (p := ⟨w.heap.size + 1 + 1, 0, none⟩) (by simp; omega) (.bool false)).setCell (p := ⟨w.heap.size + 1 + 1, 1, none⟩) (by simp; omega) (.slice none 0 0)).setCell (p := ⟨w.heap.size + 1 + 1 + 1, 0, none⟩) (by simp; omega) (.bool false)).setCell (p := ⟨w.heap.size + 1 + 1 + 1, 1, none⟩) (by simp; omega) (.slice none 0 0))
  exact bodyPost_ret (v := .tuple #[.agg #[.bool false, .slice none 0 0], .agg #[.bool false, .slice none 0 0], .int .i64 11]) (by simp [results, Try.results26, go_sem, y0, y1, y2, y3]) rfl ⟨rfl, bF⟩

set_option maxHeartbeats 1000000 in
theorem rdivz_any (neg neg' : Bool) (ao ao' : Option Addr) (n cap cap' : Nat) (w : World) (hmx' : cap' ≤ maxLen) :
    Calls Try.prog 31 #[.agg #[.bool neg, .slice ao n cap], .agg #[.bool neg', .slice ao' 0 cap']] w fun e w' => e = .returned (.tuple #[.agg #[.bool false, .slice none 0 0], .agg #[.bool false, .slice none 0 0], .int .i64 11]) ∧ Below w.heap.size w w' := by
  unfold maxLen at hmx'
  go_enter Try.func31, Try.ntmps31
  go_wp2_with fail
  obtain ⟨x1, x2, x3, x4, hb0⟩ := four_boxes 24 w neg neg' false false ao ao' none none n cap 0 cap' 0 0 0 0 _ rfl
  generalize hW0 : ((((w.alloc (.cells #[.bool neg, .slice ao n cap] 24)).alloc (.cells #[.bool neg', .slice ao' 0 cap'] 24)).alloc (.cells #[.bool false, .slice none 0 0] 24)).alloc (.cells #[.bool false, .slice none 0 0] 24)) = W0 at *
  clear hW0
  obtain ⟨z0, z1⟩ := x3.c
  obtain ⟨z2, z3⟩ := x4.c
  exact bodyPost_ret (v := .tuple #[.agg #[.bool false, .slice none 0 0], .agg #[.bool false, .slice none 0 0], .int .i64 11]) (by simp [results, Try.results31, go_sem, z0, z1, z2, z3]) rfl ⟨rfl, hb0⟩

/-- What a division answers. -/
def DvPost (w : World) (a b : Int) (e : Ending) (w' : World) : Prop :=
  ∃ xq xr, e = .returned (.tuple #[xq, xr, .int .i64 (if b = 0 then 11 else 0)]) ∧ IsInt w' xq (if b = 0 then 0 else a.tdiv b) ∧ IsInt w' xr (if b = 0 then 0 else a.tmod b) ∧ Below w.heap.size w w'
theorem sgn_zero {s : Bool} {l : List Nat} (g : goodB s l = true) : sgn s (val B32 l) = 0 ↔ l = [] := by
  constructor
  · intro h
    apply Classical.byContradiction; intro hl
    have := (goodB_tr g).ne_zero (B := B32) (by decide) hl
    unfold sgn at h; split at h <;> omega
  · rintro rfl; unfold sgn; simp [val]
theorem div_post (x y : Value) (a b : Int) (w : World) (hx : IsInt w x a) (hy : IsInt w y b) : Calls Try.prog 26 #[x, y] w (DvPost w a b) := by
  by_cases hb : b = 0
  · obtain ⟨s, ao, n, cap, l, rfl, R, g, rfl⟩ := hx.open_
    obtain ⟨s', ao', n', cap', l', rfl, R', g', rfl⟩ := hy.open_
    have hl := (sgn_zero g').1 hb
    subst hl
    obtain rfl : n' = 0 := by have := R'.len; simpa using this.symm
    refine (divz_any s s' ao ao' n cap cap' l w R R' g g').mono ?_
    rintro e w' ⟨rfl, hbl⟩
    exact ⟨_, _, by rw [if_pos hb], by rw [if_pos hb]; exact zero_is w', by rw [if_pos hb]; exact zero_is w', hbl⟩
  · refine (div_is x y a b w hx hy hb long_any).mono ?_
    rintro e w' ⟨xq, xr, rfl, h1, h2, hbl⟩
    exact ⟨xq, xr, by rw [if_neg hb], by rw [if_neg hb]; exact h1, by rw [if_neg hb]; exact h2, hbl⟩
theorem rdiv_post (x y : Value) (a b : Int) (w : World) (hx : IsInt w x a) (hy : IsInt w y b) : Calls Try.prog 31 #[x, y] w (DvPost w a b) := by
  obtain ⟨s, ao, n, cap, l, rfl, R, g, rfl⟩ := hx.open_
  obtain ⟨s', ao', n', cap', l', rfl, R', g', rfl⟩ := hy.open_
  by_cases hb : sgn s' (val B32 l') = 0
  · have hl := (sgn_zero g').1 hb
    subst hl
    obtain rfl : n' = 0 := by have := R'.len; simpa using this.symm
    refine (rdivz_any s s' ao ao' n cap cap' w R'.most).mono ?_
    rintro e w' ⟨rfl, hbl⟩
    exact ⟨_, _, by rw [if_pos hb], by rw [if_pos hb]; exact zero_is w', by rw [if_pos hb]; exact zero_is w', hbl⟩
  · have hn : n' ≠ 0 := by
      rintro rfl
      exact hb ((sgn_zero g').2 (List.length_eq_zero_iff.1 R'.len))
    refine (rdiv_any s s' ao ao' n cap n' cap' l l' w R R' (by rw [← R.len]; exact goodB_len g) (by rw [← R'.len]; exact goodB_len g') hn (goodB_tr g')).mono ?_
    rintro e w' ⟨xq, xr, rfl, h1, h2, hbl⟩
    exact ⟨xq, xr, by rw [if_neg hb], by rw [if_neg hb]; exact h1, by rw [if_neg hb]; exact h2, hbl⟩

end Go.Proofs.Ytdekkieajffblaa

set_option linter.unusedVariables false
set_option linter.unusedSimpArgs false
namespace Go.Proofs.Ytdekkieajffblaa
open Go.RowKit

theorem AnsI.form {w : World} {x : Value} {en z : Int} (h : AnsI w x en z) : ∃ s ao n cap l, x = .agg #[.bool s, .slice ao n cap] ∧ Row .u32 B32 w ao n cap l ∧ (∀ w', Row .u32 B32 w' ao n cap l → AnsI w' x en z) := by
  rcases h with ⟨h1, h2, h3⟩ | ⟨h1, h2, rfl⟩
  · obtain ⟨s, ao, n, cap, l, rfl, R, g, rfl⟩ := h3.open_
    exact ⟨s, ao, n, cap, l, rfl, R, fun w' R' => .inl ⟨h1, h2, s, l, ⟨ao, n, cap, rfl, R'⟩, g, rfl⟩⟩
  · exact ⟨false, none, 0, 0, [], rfl, Row.nil _ _ _ _, fun w' _ => .inr ⟨h1, h2, rfl⟩⟩
theorem add_is (x y : Value) (a b : Int) (w : World) (hx : IsInt w x a) (hy : IsInt w y b) : Calls Try.prog 23 #[x, y] w (AddPost w (a + b)) := by
  obtain ⟨s, ao, n, cap, l, rfl, R, g, rfl⟩ := hx.open_
  obtain ⟨s', ao', n', cap', l', rfl, R', g', rfl⟩ := hy.open_
  exact add_any s s' ao ao' n cap n' cap' l l' w R R' g g'
set_option maxHeartbeats 4000000 in
theorem sub_any (neg neg' : Bool) (ao ao' : Option Addr) (n cap n' cap' : Nat) (l l' : List Nat) (w : World) (R : Row .u32 B32 w ao n cap l) (R' : Row .u32 B32 w ao' n' cap' l') (g1 : goodB neg l = true) (g2 : goodB neg' l' = true) :
    Calls Try.prog 24 #[.agg #[.bool neg, .slice ao n cap], .agg #[.bool neg', .slice ao' n' cap']] w (AddPost w (sgn neg (val B32 l) + - sgn neg' (val B32 l'))) := by
  have HR := hid R
  have HR' := hid R'
  have G1 := hid g1
  have G2 := hid g2
  have hn40 : n ≤ 40 := by rw [← R.len]; exact goodB_len g1
  have hn40' : n' ≤ 40 := by rw [← R'.len]; exact goodB_len g2
  clear R R' g1 g2
  go_enter Try.func24, Try.ntmps24
  go_wp2_with fail
  obtain ⟨x1, x2, x3, hb0⟩ := three_boxes 24 w neg neg' false ao ao' none n cap n' cap' 0 0 _ rfl
  generalize hW0 : (((w.alloc (.cells #[.bool neg, .slice ao n cap] 24)).alloc (.cells #[.bool neg', .slice ao' n' cap'] 24)).alloc (.cells #[.bool false, .slice none 0 0] 24)) = W0 at *
  clear hW0
  refine (good_any neg ao n cap l W0 (HR.out.below hb0)).mono ?_
  rintro e w1 ⟨rfl, hb1⟩
  rw [G1.out]
  obtain ⟨c20, c21⟩ := (x2.on hb1).c
  have X1 := hid (x1.on hb1)
  have X2 := hid (x2.on hb1)
  have X3 := hid (x3.on hb1)
  have HB1 := hid (Bt hb0 hb1)
  clear x1 x2 x3 hb0 hb1
  go_wp2_with fail
  refine (good_any neg' ao' n' cap' l' w1 (HR'.out.below HB1.out)).mono ?_
  rintro e w2 ⟨rfl, hb2⟩
  rw [G2.out]
  clear c20 c21
  have Y3 := hid (X3.out.on hb2)
  have HB2 := hid (Bt HB1.out hb2)
  have hS : w2.cell? ⟨w.heap.size, 0, none⟩ = some (.bool neg) ∧ w2.cell? ⟨w.heap.size, 1, none⟩ = some (.slice ao n cap) ∧ w2.cell? ⟨w.heap.size + 1, 0, none⟩ = some (.bool neg') ∧ w2.cell? ⟨w.heap.size + 1, 1, none⟩ = some (.slice ao' n' cap') := ⟨(X1.out.on hb2).c.1, (X1.out.on hb2).c.2, (X2.out.on hb2).c.1, (X2.out.on hb2).c.2⟩
  have RW := hid (HR.out.below HB2.out)
  have RW' := hid (HR'.out.below HB2.out)
  have HS := hid hS
  clear hb2 X1 X2 X3 HB1 HR HR' hS
  have IA : Hid (IsInt w2 (.agg #[.bool neg, .slice ao n cap]) (sgn neg (val B32 l))) := ⟨neg, l, ⟨ao, n, cap, rfl, RW.out⟩, G1.out, rfl⟩
  go_wp2
  go_region_held3 (fun wx => wx.cell? ⟨w.heap.size, 0, none⟩ = some (.bool neg) ∧ wx.cell? ⟨w.heap.size, 1, none⟩ = some (.slice ao n cap) ∧ wx.cell? ⟨w.heap.size + 1, 0, none⟩ = some (.bool neg') ∧ wx.cell? ⟨w.heap.size + 1, 1, none⟩ = some (.slice ao' n' cap'))
    (first | exact keep4 HS.out (Bd w2 1) | exact keep4 (by assumption) (by assumption) | exact keep4s (by assumption) (by omega) (by omega))
    (first
      | (go_at_call 46; refine (neg_any neg' ao' n' cap' l' _ ?_ G2.out).mono ?_; (exact RW'.out.below (Bd w2 1)); rintro e wa ⟨xb, rfl, ib, ba⟩; have IB := hid ib; clear ib)
      | (go_at_call 23; refine (add_is (.agg #[.bool neg, .slice ao n cap]) xb (sgn neg (val B32 l)) (- sgn neg' (val B32 l')) _ ?_ ?_).mono ?_; (exact (IA.out.below (Bd w2 1)).below ba); (exact IB.out); rintro e wb ⟨x, en, rfl, hA, bb⟩; obtain ⟨sx, ax, nx, cx, lx, rfl, Rx, hAx⟩ := hA.form; have Z3 := ((Y3.out.on (Bd w2 1)).on ba).on bb; obtain ⟨z30, z31⟩ := Z3.c; obtain ⟨f30, f31⟩ := Z3.f; have HZ := hid Z3; have HRx := hid Rx; have HAx := hid hAx; clear hA Rx hAx Z3))
  have hbW : Below w.heap.size w wb := Bt (Bt (Bt HB2.out (Bd w2 1)) ba) bb
  have z := HZ.out.set2 sx ax nx cx
  obtain ⟨y0, y1⟩ := z.c
  have rx := HAx.out _ (HRx.out.setBox2 HZ.out sx (.slice ax nx cx))
  have bF := (hbW.setCell (p := ⟨w.heap.size + 1 + 1, 0, none⟩) (by simp; omega) (.bool sx)).setCell (p := ⟨w.heap.size + 1 + 1, 1, none⟩) (by simp; omega) (.slice ax nx cx)
  rename_i hHeld
  clear hHeld
  go_wp2
  exact bodyPost_ret (v := .tuple #[.agg #[.bool sx, .slice ax nx cx], .int .i64 en]) (by simp [results, Try.results24, go_sem, y0, y1]) rfl ⟨_, _, rfl, rx, bF⟩

end Go.Proofs.Ytdekkieajffblaa
