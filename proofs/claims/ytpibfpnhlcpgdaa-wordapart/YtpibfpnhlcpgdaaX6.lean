/-
  Walks: awake, WordNumbers, WordMakes.
-/
import Derived.Test.YtpibfpnhlcpgdaaX5
set_option linter.unusedVariables false
set_option linter.unusedSimpArgs false
set_option maxRecDepth 100000
namespace Go.Proofs.Ytpibfpnhlcpgdaa
open Go.RowKit

set_option maxHeartbeats 4000000 in
theorem wawake_any (w : World) : Calls Try.prog 12 #[] w fun e w' => e = .returned (.bool true) ∧ w' = w := by
  have h1 : wordR 1 5 0 = 40 := by decide
  have h2 : rightB 1 5 0 = true := by decide
  have h3 : wordR 2 3 0 = 25 := by decide
  have h4 : rightB 2 3 0 = true := by decide
  have h5 : hasR 1 40 = 5 := by decide
  have h6 : isR 1 40 = true := by decide
  have h7 : hasR 1 25 = 0 := by decide
  have h8 : isR 1 25 = false := by decide
  have C1 := hid (fix_any 5 (by unfold Z64; omega))
  have C2 := hid (ptr_any 3 (by unfold Z64; omega))
  have C3 := hid (int_any 40 (by unfold U64; omega))
  have C4 := hid (int_any 25 (by unfold U64; omega))
  rw [h1, h2] at C1
  rw [h3, h4] at C2
  rw [h5, h6] at C3
  rw [h7, h8] at C4
  clear h1 h2 h3 h4 h5 h6 h7 h8
  go_enter Try.func12, Try.ntmps12
  go_wp2_with (first
    | (go_at_call 15; with_reducible refine (C1.out _).mono ?_; rintro e w9 ⟨rfl, hw9⟩; rw [hw9]; clear hw9)
    | (go_at_call 17; with_reducible refine (C2.out _).mono ?_; rintro e w9 ⟨rfl, hw9⟩; rw [hw9]; clear hw9)
    | (go_at_call 16; with_reducible refine (C3.out _).mono ?_; rintro e w9 ⟨rfl, hw9⟩; rw [hw9]; clear hw9)
    | (go_at_call 16; with_reducible refine (C4.out _).mono ?_; rintro e w9 ⟨rfl, hw9⟩; rw [hw9]; clear hw9))
  go_ret
  exact ⟨rfl, rfl⟩

theorem made_is {k n t : Int} (h : rightB k n t = true) : isR k (wordR k n t) = true ∧ hasR k (wordR k n t) = n := by
  unfold isR hasR
  rw [word_back h]
  simp
set_option maxHeartbeats 4000000 in
theorem wordNumbers_walk (n : Int) (w : World) (hn : Z64 n) : Calls Try.prog 8 #[.int .i64 n] w fun e w' => e = .returned (.bool true) ∧ Below w.heap.size w w' := by
  have C1 := hid (fix_any n hn)
  have C2 := hid (int_any (wordR 1 n 0) (wordR_rng _ _ _))
  have CW := hid wawake_any
  obtain ⟨rb, hrb⟩ : ∃ r, r = rightB 1 n 0 := ⟨_, rfl⟩
  have hri : rb = (decide (-1152921504606846976 ≤ n) && decide (n < 1152921504606846976)) := by rw [hrb]; simp [rightB]
  cases rb
  · have h0 : wordR 1 n 0 = 0 := word_none hrb.symm
    rw [h0] at C1 C2
    rw [← hrb] at C1
    have hor : n < -1152921504606846976 ∨ 1152921504606846976 ≤ n := by
      have := hri.symm; simp at this; omega
    clear hri hrb h0
    unfold Z64 at hn
    generalize hasR 1 0 = a1 at *
    generalize isR 1 0 = b1 at *
    go_enter Try.func8, Try.ntmps8
    go_wp2_with (first
      | (go_at_call 15; with_reducible refine (C1.out _).mono ?_; rintro e w9 ⟨rfl, hw9⟩; rw [hw9]; clear hw9)
      | (go_at_call 16; with_reducible refine (C2.out _).mono ?_; rintro e w9 ⟨rfl, hw9⟩; rw [hw9]; clear hw9)
      | (go_at_call 12; with_reducible refine (CW.out _).mono ?_; rintro e w9 ⟨rfl, hw9⟩; rw [hw9]; clear hw9))
    all_goals first
      | omega
      | (go_ret; exact ⟨rfl, Below.refl _ _⟩)
  · obtain ⟨h1, h2⟩ := made_is hrb.symm
    rw [h1, h2] at C2
    rw [← hrb] at C1
    have hand : -1152921504606846976 ≤ n ∧ n < 1152921504606846976 := by
      have := hri.symm; simpa using this
    clear hri hrb h1 h2
    generalize wordR 1 n 0 = x at *
    have en : (n == n) = true := by simp
    go_enter Try.func8, Try.ntmps8
    go_wp2_with (first
      | (go_at_call 15; with_reducible refine (C1.out _).mono ?_; rintro e w9 ⟨rfl, hw9⟩; rw [hw9]; clear hw9)
      | (go_at_call 16; with_reducible refine (C2.out _).mono ?_; rintro e w9 ⟨rfl, hw9⟩; rw [hw9]; clear hw9)
      | (go_at_call 12; with_reducible refine (CW.out _).mono ?_; rintro e w9 ⟨rfl, hw9⟩; rw [hw9]; clear hw9))
    all_goals first
      | omega
      | (go_ret; exact ⟨rfl, Below.refl _ _⟩)

set_option maxHeartbeats 4000000 in
theorem wordMakes_walk (k n t : Int) (b : Bool) (w : World) (hk : Z64 k) (hn : Z64 n) (ht : Z64 t) : Calls Try.prog 3 #[SVal k n t, .bool b] w fun e w' => e = .returned (.bool true) ∧ Below w.heap.size w w' := by
  have C1 := hid (made_any k n t hk hn ht)
  have C2 := hid (rword_any k n t hk hn ht)
  have C3 := hid (bool_any b)
  have CW := hid wawake_any
  have bA := Ba w (.cells #[.int .i64 k, .int .i64 n, .int .i64 t] 23)
  have hx := blk_new w #[.int .i64 k, .int .i64 n, .int .i64 t] 23
  unfold SVal at *
  generalize wordR k n t = x at *
  generalize rightB k n t = r at *
  have ex : (x == x) = true := by simp
  have er : (r == r) = true := by simp
  have HX := hid hx
  have HB := hid bA
  clear hx bA
  cases b
  all_goals
    simp at C3
    go_enter Try.func3, Try.ntmps3
    go_wp2_with fail
    refine (C1.out _).mono ?_
    rintro e W1 ⟨rfl, b1⟩
    have hx1 := (b1.block w.heap.size (by rw [size_alloc]; omega)).trans HX.out
    have c0 := blk_cell hx1 0
    have c1 := blk_cell hx1 1
    have c2 := blk_cell hx1 2
    have HX1 := hid hx1
    have HB1 := hid (Bt HB.out b1)
    clear hx1 b1
    go_wp2_with fail
    refine (C2.out _).mono ?_
    rintro e W2 ⟨rfl, b2⟩
    have HB2 := hid (Bt HB1.out b2)
    clear b2
    go_wp2_with (first
      | (go_at_call 11; with_reducible refine (C3.out _).mono ?_; rintro e w9 ⟨rfl, hw9⟩; rw [hw9]; clear hw9)
      | (go_at_call 12; with_reducible refine (CW.out _).mono ?_; rintro e w9 ⟨rfl, hw9⟩; rw [hw9]; clear hw9))
    go_ret
    exact ⟨rfl, HB2.out⟩
end Go.Proofs.Ytpibfpnhlcpgdaa
