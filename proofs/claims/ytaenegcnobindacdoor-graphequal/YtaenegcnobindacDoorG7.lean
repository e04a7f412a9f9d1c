/-
  Walks: goodText; the document's num, kids, text.
-/
import Derived.Test.YtaenegcnobindacDoorG6
set_option linter.unusedVariables false
set_option linter.unusedSimpArgs false
namespace Go.Proofs.YtaenegcnobindacDoor
open Go.RowKit

theorem valid_any (t : ByteArray) (w : World) (ht : t.size ≤ maxLen) (hT : Tabs w) : Calls Tryd.prog 55 #[.string t] w fun e w' => e = .returned (.bool (Lib.validD t.data.toList)) ∧ Below w.heap.size w w' :=
  Any.utf8_ValidString Tryd.lays196 t w (by unfold maxLen at ht; exact ht) hT
theorem Bi (w : World) (s : ByteArray) (pos : Nat) : Below w.heap.size w (w.iter s pos) := Ba w _
theorem count_any (t : ByteArray) (w : World) (ht : t.size ≤ 1000000) : Calls Tryd.prog 56 #[.string t] w fun e w' => e = .returned (.int .i64 (Lib.runeCount t)) ∧ Below w.heap.size w w' :=
  (Any.utf8_RuneCountInString Tryd.lays195 t w (by omega)).mono fun e w' ⟨h1, pos, h2⟩ => ⟨h1, h2 ▸ Bi w t pos⟩
theorem textB_3 (t : ByteArray) : textB 3 t = printedB t := rfl
theorem textB_5 (t : ByteArray) : textB 5 t = (Lib.validD t.data.toList && decide (Lib.runeCount t ≤ 1024)) := rfl
theorem textB_6 (t : ByteArray) : textB 6 t = (decide (t.size ≠ 0) && Lib.validD t.data.toList) := rfl
theorem textB_9 (t : ByteArray) : textB 9 t = decide (t.size ≤ 1024) := rfl
theorem textB_v {k : Int} (t : ByteArray) (h : k = 12 ∨ k = 15) : textB k t = Lib.validD t.data.toList := by rcases h with rfl | rfl <;> rfl
theorem textB_o {k : Int} (t : ByteArray) (h1 : k ≠ 3) (h2 : k ≠ 5) (h3 : k ≠ 6) (h4 : k ≠ 9) (h5 : k ≠ 12) (h6 : k ≠ 15) : textB k t = decide (t.size = 0) := by unfold textB; simp [h1, h2, h3, h4, h5, h6]

theorem empty_dec (t : ByteArray) : decide (t = ByteArray.empty) = decide (t.size = 0) := by
  rw [Bool.eq_iff_iff, decide_eq_true_eq, decide_eq_true_eq]
  constructor
  · rintro rfl; rfl
  · intro h
    refine bs_ext ?_
    have h1 : bs t = [] := List.length_eq_zero_iff.1 (by rw [bs_length]; exact h)
    have h2 : bs ByteArray.empty = [] := List.length_eq_zero_iff.1 (by rw [bs_length]; rfl)
    rw [h1, h2]

set_option maxHeartbeats 1000000 in
theorem goodText_any (k : Int) (t : ByteArray) (w : World) (ht : t.size ≤ 1000000) (hT : Tabs w) : Calls Tryd.prog 45 #[.int .i64 k, .string t] w fun e w' => e = .returned (.bool (textB k t)) ∧ Below w.heap.size w w' := by
  have htm : t.size ≤ maxLen := by unfold maxLen; omega
  by_cases h1 : k = 3
  · subst h1
    rw [textB_3]
    have HP := hid (isPrinted_any t)
    generalize printedB t = L at *
    go_enter Tryd.func45, Tryd.ntmps45
    go_wp2_with (go_at_call 54; refine (HP.out _ htm).mono ?_; rintro e wz ⟨rfl, hwz⟩)
    go_ret
    exact ⟨rfl, hwz⟩
  · have e1 : (k == 3) = false := by simp [h1]
    have HV := hid (valid_any t w htm hT)
    by_cases h2 : k = 5
    · subst h2
      rw [textB_5]
      generalize Lib.validD t.data.toList = V at *
      have HC := hid (fun w => count_any t w ht)
      have hcl := Lib.runeCount_le t
      generalize Lib.runeCount t = C at *
      cases V
      · go_enter Tryd.func45, Tryd.ntmps45
        go_wp2_with (go_at_call 55; refine HV.out.mono ?_; rintro e wz ⟨rfl, hwz⟩)
        go_ret
        exact ⟨rfl, hwz⟩
      · go_enter Tryd.func45, Tryd.ntmps45
        go_wp2_with (first | (go_at_call 55; refine HV.out.mono ?_; rintro e wz ⟨rfl, hwz⟩) | (go_at_call 56; refine (HC.out _).mono ?_; rintro e wy ⟨rfl, hwy⟩))
        go_ret
        exact ⟨ret_b (by rw [Bool.eq_iff_iff]; simp <;> omega), Bt hwz hwy⟩
    · have e2 : (k == 5) = false := by simp [h2]
      by_cases h3 : k = 6
      · subst h3
        rw [textB_6]
        generalize Lib.validD t.data.toList = V at *
        by_cases h0 : t.size = 0
        · have hem : t.toList.isEmpty = true := by rw [empty_iff]; simp [h0]
          go_enter Tryd.func45, Tryd.ntmps45
          go_wp2_with fail
          go_ret
          exact ⟨ret_b (by simp [h0]), Below.refl _ _⟩
        · have hem : t.toList.isEmpty = false := by rw [empty_iff]; simp [h0]
          go_enter Tryd.func45, Tryd.ntmps45
          go_wp2_with (go_at_call 55; refine HV.out.mono ?_; rintro e wz ⟨rfl, hwz⟩)
          go_ret
          exact ⟨ret_b (by simp [h0]), hwz⟩
      · have e3 : (k == 6) = false := by simp [h3]
        by_cases h4 : k = 9
        · subst h4
          rw [textB_9]
          go_enter Tryd.func45, Tryd.ntmps45
          go_wp2
          go_ret
          exact ⟨ret_b (by rw [Bool.eq_iff_iff]; simp <;> omega), Below.refl _ _⟩
        · have e4 : (k == 9) = false := by simp [h4]
          by_cases h5 : k = 12
          · rw [textB_v t (.inl h5)]
            subst h5
            generalize Lib.validD t.data.toList = V at *
            go_enter Tryd.func45, Tryd.ntmps45
            go_wp2_with (go_at_call 55; refine HV.out.mono ?_; rintro e wz ⟨rfl, hwz⟩)
            go_ret
            exact ⟨rfl, hwz⟩
          · by_cases h6 : k = 15
            · rw [textB_v t (.inr h6)]
              subst h6
              generalize Lib.validD t.data.toList = V at *
              go_enter Tryd.func45, Tryd.ntmps45
              go_wp2_with (go_at_call 55; refine HV.out.mono ?_; rintro e wz ⟨rfl, hwz⟩)
              go_ret
              exact ⟨rfl, hwz⟩
            · have e5 : (k == 12) = false := by simp [h5]
              have e6 : (k == 15) = false := by simp [h6]
              rw [textB_o t h1 h2 h3 h4 h5 h6]
              have hem := empty_iff t
              go_enter Tryd.func45, Tryd.ntmps45
              go_wp2
              go_ret
              exact ⟨ret_b (empty_dec t), Below.refl _ _⟩

end Go.Proofs.YtaenegcnobindacDoor
