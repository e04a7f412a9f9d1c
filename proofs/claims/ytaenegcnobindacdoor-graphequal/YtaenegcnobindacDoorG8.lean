/-
  Walks: the document's num, kids, text.
-/
import Derived.Test.YtaenegcnobindacDoorG7
set_option linter.unusedVariables false
set_option linter.unusedSimpArgs false
namespace Go.Proofs.YtaenegcnobindacDoor
open Go.RowKit

/-- A node's value. -/
def NVal (k n : Int) (t : ByteArray) (ak : Option Addr) (nk ck : Nat) : Value := .agg #[.int .i64 k, .int .i64 n, .string t, .slice ak nk ck]

set_option maxHeartbeats 1000000 in
theorem rnum_any (k n : Int) (t : ByteArray) (ak : Option Addr) (nk ck : Nat) (w : World) : Calls Tryd.prog 34 #[NVal k n t ak nk ck] w fun e w' => e = .returned (.bool (numB k n)) ∧ Below w.heap.size w w' := by
  unfold NVal
  have hb := Ba w (.cells #[.int .i64 k, .int .i64 n, .string t, .slice ak nk ck] 34)
  by_cases h2 : k = 2
  · subst h2
    rw [numB_2]
    by_cases hn : n = 0
    · subst hn
      go_enter Tryd.func34, Tryd.ntmps34
      go_wp2
      go_ret
      exact ⟨rfl, hb⟩
    · have e1 : (n == 0) = false := by simp [hn]
      go_enter Tryd.func34, Tryd.ntmps34
      go_wp2
      go_ret
      exact ⟨ret_b (by rw [beq_dec]; simp [hn]), hb⟩
  · by_cases h4 : k = 4
    · subst h4
      rw [numB_4]
      have HL := hid (letter_any n)
      generalize letB n = L at *
      go_enter Tryd.func34, Tryd.ntmps34
      go_wp2_with (go_at_call 43; refine (HL.out _).mono ?_; rintro e wz ⟨rfl, hwz⟩; rw [hwz])
      go_ret
      exact ⟨rfl, hb⟩
    · by_cases h13 : k = 13
      · subst h13
        rw [numB_13]
        by_cases hn : 0 ≤ n
        · go_enter Tryd.func34, Tryd.ntmps34
          go_wp2
          go_ret
          exact ⟨ret_b (by simp [hn]), hb⟩
        · have e1 : decide (0 ≤ n) = false := by simp [hn]
          go_enter Tryd.func34, Tryd.ntmps34
          go_wp2
          go_ret
          exact ⟨ret_b (by simp [e1]), hb⟩
      · rw [numB_o n h2 h4 h13]
        have e1 : (k == 2) = false := by simp [h2]
        have e2 : (k == 4) = false := by simp [h4]
        have e3 : (k == 13) = false := by simp [h13]
        go_enter Tryd.func34, Tryd.ntmps34
        go_wp2
        go_ret
        exact ⟨ret_b (beq_dec n 0), hb⟩

set_option maxHeartbeats 1000000 in
theorem rkids_any (k n : Int) (t : ByteArray) (ak : Option Addr) (c ck : Nat) (hc1 : c ≤ ck) (hc : ck ≤ maxLen) (w : World) : Calls Tryd.prog 35 #[NVal k n t ak c ck] w fun e w' => e = .returned (.bool (countB k c)) ∧ Below w.heap.size w w' := by
  unfold maxLen at hc
  unfold NVal
  have hb := Ba w (.cells #[.int .i64 k, .int .i64 n, .string t, .slice ak c ck] 34)
  by_cases h1 : k = 7
  · rw [countB_2 c (.inl h1)]
    subst h1
    go_enter Tryd.func35, Tryd.ntmps35
    go_wp2
    go_ret
    exact ⟨ret_b (beq_nat c 2), hb⟩
  · by_cases h2 : k = 13
    · rw [countB_2 c (.inr h2)]
      subst h2
      go_enter Tryd.func35, Tryd.ntmps35
      go_wp2
      go_ret
      exact ⟨ret_b (beq_nat c 2), hb⟩
    · have e1 : (k == 7) = false := by simp [h1]
      have e2 : (k == 13) = false := by simp [h2]
      by_cases h3 : k = 8
      · subst h3
        rw [countB_8]
        go_enter Tryd.func35, Tryd.ntmps35
        go_wp2
        go_ret
        exact ⟨ret_b (by rw [Bool.eq_iff_iff]; simp <;> omega), hb⟩
      · have e3 : (k == 8) = false := by simp [h3]
        by_cases h4 : k = 15
        · rw [countB_t c (.inl h4)]
          subst h4
          go_enter Tryd.func35, Tryd.ntmps35
          go_wp2
          go_ret
          exact ⟨rfl, hb⟩
        · by_cases h5 : k = 16
          · rw [countB_t c (.inr h5)]
            subst h5
            go_enter Tryd.func35, Tryd.ntmps35
            go_wp2
            go_ret
            exact ⟨rfl, hb⟩
          · have e4 : (k == 15) = false := by simp [h4]
            have e5 : (k == 16) = false := by simp [h5]
            rw [countB_o c h1 h2 h3 h4 h5]
            go_enter Tryd.func35, Tryd.ntmps35
            go_wp2
            go_ret
            exact ⟨ret_b (beq_nat c 0), hb⟩

end Go.Proofs.YtaenegcnobindacDoor
