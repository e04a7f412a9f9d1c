/-
  Walks: made and told.
-/
import Derived.Test.YtpibfpnhlcpgdaaX3
set_option linter.unusedVariables false
set_option linter.unusedSimpArgs false
set_option maxRecDepth 100000
namespace Go.Proofs.Ytpibfpnhlcpgdaa
open Go.RowKit

theorem right_t {k n t : Int} (h : k ≠ 8) : rightB k n t = rightB k n 0 := by unfold rightB; simp only [if_neg h]
theorem word_t {k n t : Int} (h : k ≠ 8) : wordR k n t = wordR k n 0 := by unfold wordR wrdB; simp only [if_neg h, right_t h]
theorem word_none {k n t : Int} (h : rightB k n t = false) : wordR k n t = 0 := by unfold wordR; simp [h]

set_option maxHeartbeats 8000000 in
theorem made_any (k n t : Int) (hk : Z64 k) (hn : Z64 n) (ht : Z64 t) (w : World) :
    Calls Try.prog 9 #[SVal k n t] w fun e w' => e = .returned (.tuple #[.int .u64 (wordR k n t), .bool (rightB k n t)]) ∧ Below w.heap.size w w' := by
  have HZ := hid (And.intro hk (And.intro hn ht))
  have bA := hid (Ba w (.cells #[.int .i64 k, .int .i64 n, .int .i64 t] 23))
  have bB := hid (Baa w (.cells #[.int .i64 k, .int .i64 n, .int .i64 t] 23) (.cells #[.int .u64 2, .int .u64 10, .int .u64 18, .int .u64 26, .int .u64 34, .int .u64 42] 25))
  unfold SVal
  unfold Z64 at hk hn ht
  by_cases h3 : k = 3
  · subst h3
    have hr : rightB 3 n t = (decide (0 ≤ n) && decide (n ≤ 5)) := by simp [rightB]
    by_cases hin : 0 ≤ n ∧ n ≤ 5
    · have hv : wordR 3 n t = n * 8 + 2 := by unfold wordR; rw [hr]; simp [hin.1, hin.2, wrdB]
      rw [hv, hr]
      have h6 : n = 0 ∨ n = 1 ∨ n = 2 ∨ n = 3 ∨ n = 4 ∨ n = 5 := by omega
      rcases h6 with rfl | rfl | rfl | rfl | rfl | rfl <;>
      · go_enter Try.func9, Try.ntmps9
        go_wp2_with fail
        go_ret2
        exact ⟨rfl, bB.out⟩
    · have hr' : rightB 3 n t = false := by rw [hr]; simp; omega
      rw [word_none hr', hr']
      clear hr hr'
      go_enter Try.func9, Try.ntmps9
      go_wp2_with fail
      all_goals first
        | omega
        | (go_ret2; exact ⟨rfl, bB.out⟩)
  have h3' : (k == 3) = false := by simpa using h3
  go_enter Try.func9, Try.ntmps9
  go_wp2_with (first
    | (go_at_call 15; refine (fix_any n HZ.out.2.1 _).mono ?_; rintro e w9 ⟨rfl, hw9⟩; rw [hw9])
    | (go_at_call 17; refine (ptr_any n HZ.out.2.1 _).mono ?_; rintro e w9 ⟨rfl, hw9⟩; rw [hw9])
    | (go_at_call 18; refine (char_any n HZ.out.2.1 _).mono ?_; rintro e w9 ⟨rfl, hw9⟩; rw [hw9])
    | (go_at_call 19; refine (name_any n HZ.out.2.1 _).mono ?_; rintro e w9 ⟨rfl, hw9⟩; rw [hw9])
    | (go_at_call 20; refine (prim_any n HZ.out.2.1 _).mono ?_; rintro e w9 ⟨rfl, hw9⟩; rw [hw9])
    | (go_at_call 21; refine (special_any n HZ.out.2.1 _).mono ?_; rintro e w9 ⟨rfl, hw9⟩; rw [hw9])
    | (go_at_call 22; refine (head_any n t HZ.out.2.1 HZ.out.2.2 _).mono ?_; rintro e w9 ⟨rfl, hw9⟩; rw [hw9]))
  all_goals go_ret2
  all_goals refine ⟨?_, bA.out⟩
  all_goals clear bA bB
  all_goals (simp only [beq_iff_eq, beq_eq_false_iff_ne, ne_eq] at *)
  all_goals first
    | (subst_vars; rw [word_t (by decide), right_t (by decide)]; rfl)
    | (subst_vars; rfl)
    | skip
  all_goals (have hr : rightB k n t = false := by
              unfold rightB; simp [*]
             rw [word_none hr, hr]; rfl)
end Go.Proofs.Ytpibfpnhlcpgdaa
