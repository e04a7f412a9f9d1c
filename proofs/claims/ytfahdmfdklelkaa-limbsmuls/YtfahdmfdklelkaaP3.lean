/-
  Walk of LimbsMuls: whatever two integers are handed in, the statement answers true.
-/
import Derived.Test.YtfahdmfdklelkaaW25
import Derived.Test.YtfahdmfdklelkaaW16
set_option linter.unusedVariables false
set_option linter.unusedSimpArgs false
namespace Go.Proofs.Ytfahdmfdklelkaa
open Go.RowKit

theorem Ans.int {w : World} {x : Value} {en : Int} {neg : Bool} {v : Nat} (h : Ans w x en neg v) : (¬ Big v ∧ en = 0 ∧ IsInt w x (sgn neg v)) ∨ (Big v ∧ en = 10 ∧ IsInt w x 0) := by
  rcases h with ⟨h1, h2, l, h3, h4, h5⟩ | ⟨h1, h2, rfl⟩
  · refine .inl ⟨h1, h2, ?_⟩
    rw [← h5] at h1 ⊢
    exact is_mk h3 h4 h1
  · exact .inr ⟨h1, h2, zero_is w⟩
theorem same_ans {x y : Value} {en en' : Int} {neg : Bool} {v : Nat} (w : World) (hx : Ans w x en neg v) (hy : Ans w y en' neg v) :
    en = en' ∧ Calls Try.prog 16 #[x, y] w fun e w' => e = .returned (.bool true) ∧ Below w.heap.size w w' := by
  rcases hx.int with ⟨h1, h2, h3⟩ | ⟨h1, h2, h3⟩ <;> rcases hy.int with ⟨k1, k2, k3⟩ | ⟨k1, k2, k3⟩
  · exact ⟨h2.trans k2.symm, same_true _ _ _ w h3 k3⟩
  · exact absurd k1 h1
  · exact absurd h1 k1
  · exact ⟨h2.trans k2.symm, same_true _ _ _ w h3 k3⟩

set_option maxHeartbeats 4000000 in
theorem limbsMuls_walk (neg : Bool) (ao : Option Addr) (n cap : Nat) (l : List Nat) (neg' : Bool) (ao' : Option Addr) (n' cap' : Nat) (l' : List Nat) (w : World) (R : Row .u32 B32 w ao n cap l) (R' : Row .u32 B32 w ao' n' cap' l') :
    Calls Try.prog 7 #[.agg #[.bool neg, .slice ao n cap], .agg #[.bool neg', .slice ao' n' cap']] w fun e w' => e = .returned (.bool true) ∧ Below w.heap.size w w' := by
  have HR := hid R
  have HR' := hid R'
  clear R R'
  go_enter Try.func7, Try.ntmps7
  go_wp2_with fail
  have bA := Baa w (.cells #[.bool neg, .slice ao n cap] 24) (.cells #[.bool neg', .slice ao' n' cap'] 24)
  have x1 := (Box.new 24 w neg ao n cap).alloc (.cells #[.bool neg', .slice ao' n' cap'] 24)
  have x2 := Box.new 24 (w.alloc (.cells #[.bool neg, .slice ao n cap] 24)) neg' ao' n' cap'
  rw [size_alloc] at x2
  have hsz : ((w.alloc (.cells #[.bool neg, .slice ao n cap] 24)).alloc (.cells #[.bool neg', .slice ao' n' cap'] 24)).heap.size = w.heap.size + 1 + 1 := by rw [size_alloc, size_alloc]
  generalize (w.alloc (.cells #[.bool neg, .slice ao n cap] 24)).alloc (.cells #[.bool neg', .slice ao' n' cap'] 24) = WA at *
  have bQ := Ba WA (.cells #[.bool neg, .slice ao n cap, .bool neg', .slice ao' n' cap'] 24)
  have y1 := x1.on bQ
  have y2 := x2.on bQ
  have hq := blk_new WA #[.bool neg, .slice ao n cap, .bool neg', .slice ao' n' cap'] 24
  rw [hsz] at hq
  have b0 := Bt bA bQ
  generalize WA.alloc (.cells #[.bool neg, .slice ao n cap, .bool neg', .slice ao' n' cap'] 24) = W at *
  refine (lgood2 (w.heap.size + 1 + 1) neg neg' ao ao' n cap n' cap' l l' W (blk_cell hq 0) (blk_cell hq 1) (blk_cell hq 2) (blk_cell hq 3) (HR.out.below b0) (HR'.out.below b0)).mono ?_
  rintro e w1 ⟨rfl, b1⟩
  have HB1 := hid (Bt b0 b1)
  have X1 := hid (y1.on b1)
  have X2 := hid (y2.on b1)
  have R1 := hid (HR.out.below HB1.out)
  have R1' := hid (HR'.out.below HB1.out)
  obtain ⟨c0, c1⟩ := X1.out.c
  obtain ⟨d0, d1⟩ := X2.out.c
  clear x1 x2 y1 y2 hq b0 b1 bQ bA hsz HR HR'
  cases hg : goodB neg l && goodB neg' l'
  · go_wp2_with (go_at_call 11; refine (awake_any _).mono ?_; rintro e w2 ⟨rfl, b2⟩)
    go_ret
    exact ⟨rfl, Bt HB1.out b2⟩
  · rw [Bool.and_eq_true] at hg
    have G1 := hid hg.1
    have G2 := hid hg.2
    have hn40 : n ≤ 40 := by rw [← R1.out.len]; exact goodB_len hg.1
    have hn40' : n' ≤ 40 := by rw [← R1'.out.len]; exact goodB_len hg.2
    clear hg
    go_wp2_with fail
    refine (mul_any neg neg' ao ao' n cap n' cap' l l' w1 R1.out R1'.out G1.out G2.out).mono ?_
    rintro e w2 ⟨x, en, rfl, hA, b2⟩
    obtain ⟨sx, ax, nx, cx, lx, rfl, Rx, hAx⟩ := hA.form
    have HB2 := hid (Bt HB1.out b2)
    have Y1 := hid (X1.out.on b2)
    have Y2 := hid (X2.out.on b2)
    have R2 := hid (R1.out.below b2)
    have R2' := hid (R1'.out.below b2)
    have HA := hid hA
    clear c0 c1 d0 d1 b2 hA X1 X2 R1 R1' HB1 Rx hAx
    obtain ⟨c0, c1⟩ := (Y1.out.alloc (.cells #[.bool sx, .slice ax nx cx] 24)).c
    obtain ⟨d0, d1⟩ := (Y2.out.alloc (.cells #[.bool sx, .slice ax nx cx] 24)).c
    go_wp2_with fail
    have b3 := Ba w2 (.cells #[.bool sx, .slice ax nx cx] 24)
    have z3 := Box.new 24 w2 sx ax nx cx
    obtain ⟨g, hg⟩ : ∃ g, g = w2.heap.size := ⟨_, rfl⟩
    rw [← hg] at z3
    rw [← hg]
    generalize w2.alloc (.cells #[.bool sx, .slice ax nx cx] 24) = w3 at *
    refine (rmul_any neg neg' ao ao' n cap n' cap' l l' w3 (R2.out.below b3) (R2'.out.below b3) hn40 hn40').mono ?_
    rintro e w4 ⟨y, en', rfl, hA', b4⟩
    obtain ⟨sy, ay, ny, cy, ly, rfl, Ry, hAy⟩ := hA'.form
    have HB4 := hid (Bt (Bt HB2.out b3) b4)
    have HAx := hid ((HA.out.below b3).below b4)
    have Z4 := hid (z3.on b4)
    have b5 := Ba w4 (.cells #[.bool sy, .slice ay ny cy] 24)
    obtain ⟨e0, e1⟩ := (Z4.out.on b5).c
    obtain ⟨f0, f1⟩ := (Box.new 24 w4 sy ay ny cy).c
    have HA2 := hid (HAx.out.below b5)
    have HA3 := hid (hA'.below b5)
    have HB5 := hid (Bt HB4.out b5)
    clear c0 c1 d0 d1 b3 z3 hg Y1 Y2 R2 R2' HB2 HA Ry hAy b4 b5 hA' HB4 HAx Z4
    go_wp2_with fail
    generalize w4.alloc (.cells #[.bool sy, .slice ay ny cy] 24) = w5 at *
    obtain ⟨hen, hsame⟩ := same_ans w5 HA2.out HA3.out
    subst hen
    refine hsame.mono ?_
    rintro e w6 ⟨rfl, b6⟩
    have HB6 := hid (Bt HB5.out b6)
    have ee : (en == en) = true := by simp
    clear b6 hsame HA2 HA3 HB5 e0 e1 f0 f1
    go_wp2_with (go_at_call 11; refine (awake_any _).mono ?_; rintro e w9 ⟨rfl, b9⟩)
    go_ret
    exact ⟨rfl, Bt HB6.out b9⟩

end Go.Proofs.Ytfahdmfdklelkaa
