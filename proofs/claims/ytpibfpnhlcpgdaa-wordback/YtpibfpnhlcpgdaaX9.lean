/-
  Walk: WordBack.
-/
import Derived.Test.YtpibfpnhlcpgdaaX8
set_option linter.unusedVariables false
set_option linter.unusedSimpArgs false
set_option maxRecDepth 100000
namespace Go.Proofs.Ytpibfpnhlcpgdaa
open Go.RowKit

theorem many_of {x k n t : Int} (h : ofR x = (k, n, t)) (hk : k = 1 ∨ k = 2 ∨ k = 4 ∨ k = 5 ∨ k = 6 ∨ k = 7 ∨ k = 8) : manyR x = 1 := by
  unfold manyR isR
  rw [h]
  rcases hk with rfl | rfl | rfl | rfl | rfl | rfl | rfl <;> rfl
theorem many_of3 {x n t : Int} (h : ofR x = (3, n, t)) : manyR x = 0 := by
  unfold manyR isR
  rw [h]; rfl
set_option maxHeartbeats 16000000 in
theorem wordBack_walk (k n t : Int) (w : World) (hk : Z64 k) (hn : Z64 n) (ht : Z64 t) : Calls Try.prog 6 #[SVal k n t] w fun e w' => e = .returned (.bool true) ∧ Below w.heap.size w w' := by
  have C1 := hid (made_any k n t hk hn ht)
  have C2 := hid (told_any (wordR k n t) (wordR_rng k n t))
  have CW := hid wawake_any
  have bA := Ba w (.cells #[.int .i64 k, .int .i64 n, .int .i64 t] 23)
  have hx := blk_new w #[.int .i64 k, .int .i64 n, .int .i64 t] 23
  unfold SVal at *
  unfold Z64 at hk hn ht
  have HX := hid hx
  have HB := hid bA
  clear hx bA
  obtain ⟨rb, hrb⟩ : ∃ r, r = rightB k n t := ⟨_, rfl⟩
  rw [← hrb] at C1
  have HRB := hid hrb
  clear hrb
  cases rb
  · have h0 : wordR k n t = 0 := word_none HRB.out.symm
    rw [h0] at C1
    go_enter Try.func6, Try.ntmps6
    go_wp2_with fail
    refine (C1.out _).mono ?_
    rintro e W1 ⟨rfl, b1⟩
    go_wp2_with (go_at_call 12; with_reducible refine (CW.out _).mono ?_; rintro e w9 ⟨rfl, hw9⟩; rw [hw9]; clear hw9)
    go_ret
    exact ⟨rfl, Bt HB.out b1⟩
  have hback := word_back HRB.out.symm
  have HTL := hid (told_of hback)
  have HBK := hid hback
  obtain ⟨x, hxx⟩ : ∃ x, x = wordR k n t := ⟨_, rfl⟩
  rw [← hxx] at C1 C2 HTL HBK
  clear hback hxx
  go_enter Try.func6, Try.ntmps6
  go_wp2_with fail
  refine (C1.out _).mono ?_
  rintro e W1 ⟨rfl, b1⟩
  have HX1 := hid ((b1.block w.heap.size (by rw [size_alloc]; omega)).trans HX.out)
  have HB1 := hid (Bt HB.out b1)
  clear b1
  go_wp2_with fail
  refine (C2.out _).mono ?_
  rintro e W2 ⟨g, cap, rfl, hc1, hc2, hcell, b2⟩
  have hx2 := (b2.block w.heap.size (Array.getElem?_eq_some_iff.1 HX1.out).1).trans HX1.out
  have c0 : W2.cell? ⟨w.heap.size, 0, none⟩ = some (.int .i64 k) := blk_cell hx2 0
  have c1 : W2.cell? ⟨w.heap.size, 1, none⟩ = some (.int .i64 n) := blk_cell hx2 1
  have c2 : W2.cell? ⟨w.heap.size, 2, none⟩ = some (.int .i64 t) := blk_cell hx2 2
  have HB2 := hid (Bt HB1.out b2)
  have HC := hid hcell
  rw [HTL.out] at HC
  unfold maxLen at hc2
  clear hx2 b2 hcell
  have en : (n == n) = true := by simp
  have et : (t == t) = true := by simp
  obtain ⟨M, hM⟩ : ∃ M, M = manyR x := ⟨_, rfl⟩
  rw [← hM]
  have HM := hid hM
  clear hM
  rcases right_cases HRB.out.symm with ⟨rfl, h1, h2⟩ | ⟨rfl, h1, h2⟩ | ⟨rfl, h1, h2⟩ | ⟨rfl, h1, h2, h3⟩ | ⟨rfl | rfl | rfl, h1, h2⟩ | ⟨rfl, h1, h2, h3, h4⟩
  · obtain rfl : M = 1 := by rw [HM.out]; exact many_of HBK.out (by simp)
    have l0 : W2.cell? ⟨g, 0, none⟩ = some (.int .i64 n) := HC.out 0 (by omega)
    go_wp2_with fail
    go_quiet ((go_at_call 12; exact Calls.quiet_of_same (CW.out _)))
    go_wp2
    go_ret
    exact ⟨rfl, Bt HB2.out (Bd W2 _)⟩
  · obtain rfl : M = 1 := by rw [HM.out]; exact many_of HBK.out (by simp)
    have l1 : W2.cell? ⟨g, 1, none⟩ = some (.int .i64 n) := HC.out 1 (by omega)
    go_wp2_with fail
    go_quiet ((go_at_call 12; exact Calls.quiet_of_same (CW.out _)))
    go_wp2
    go_ret
    exact ⟨rfl, Bt HB2.out (Bd W2 _)⟩
  · obtain rfl : M = 0 := by rw [HM.out]; exact many_of3 HBK.out
    go_wp2_with (go_at_call 12; with_reducible refine (CW.out _).mono ?_; rintro e w9 ⟨rfl, hw9⟩; rw [hw9]; clear hw9)
    go_ret
    exact ⟨rfl, HB2.out⟩
  · obtain rfl : M = 1 := by rw [HM.out]; exact many_of HBK.out (by simp)
    have l2 : W2.cell? ⟨g, 2, none⟩ = some (.int .i64 n) := HC.out 2 (by omega)
    go_wp2_with fail
    go_quiet ((go_at_call 12; exact Calls.quiet_of_same (CW.out _)))
    go_wp2
    go_ret
    exact ⟨rfl, Bt HB2.out (Bd W2 _)⟩
  · obtain rfl : M = 1 := by rw [HM.out]; exact many_of HBK.out (by simp)
    have l3 : W2.cell? ⟨g, 3, none⟩ = some (.int .i64 n) := HC.out 3 (by omega)
    go_wp2_with fail
    go_quiet ((go_at_call 12; exact Calls.quiet_of_same (CW.out _)))
    go_wp2
    go_ret
    exact ⟨rfl, Bt HB2.out (Bd W2 _)⟩
  · obtain rfl : M = 1 := by rw [HM.out]; exact many_of HBK.out (by simp)
    have l4 : W2.cell? ⟨g, 4, none⟩ = some (.int .i64 n) := HC.out 4 (by omega)
    go_wp2_with fail
    go_quiet ((go_at_call 12; exact Calls.quiet_of_same (CW.out _)))
    go_wp2
    go_ret
    exact ⟨rfl, Bt HB2.out (Bd W2 _)⟩
  · obtain rfl : M = 1 := by rw [HM.out]; exact many_of HBK.out (by simp)
    have l5 : W2.cell? ⟨g, 5, none⟩ = some (.int .i64 n) := HC.out 5 (by omega)
    go_wp2_with fail
    go_quiet ((go_at_call 12; exact Calls.quiet_of_same (CW.out _)))
    go_wp2
    go_ret
    exact ⟨rfl, Bt HB2.out (Bd W2 _)⟩
  · obtain rfl : M = 1 := by rw [HM.out]; exact many_of HBK.out (by simp)
    have l6 : W2.cell? ⟨g, 6, none⟩ = some (.int .i64 n) := HC.out 6 (by omega)
    have l7 : W2.cell? ⟨g, 7, none⟩ = some (.int .i64 t) := HC.out 7 (by omega)
    go_wp2_with fail
    go_quiet ((go_at_call 12; exact Calls.quiet_of_same (CW.out _)))
    go_wp2
    go_ret
    exact ⟨rfl, Bt HB2.out (Bd W2 _)⟩
end Go.Proofs.Ytpibfpnhlcpgdaa
