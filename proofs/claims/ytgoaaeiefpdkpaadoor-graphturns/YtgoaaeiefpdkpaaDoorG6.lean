/-
  Kinds of nodes; walks: goodNum, goodText, goodCount, isLetter, Atom, and the document's num, text, kids, Atom.
-/
import Derived.Test.YtgoaaeiefpdkpaaDoorG5
import Derived.Test.YtgoaaeiefpdkpaaDoorShelf
set_option linter.unusedVariables false
set_option linter.unusedSimpArgs false
namespace Go.Proofs.YtgoaaeiefpdkpaaDoor
open Go.RowKit

def Tabs (w : World) : Prop := Lib.Utf8Tabs (Tryd.lays196_ren.g 3) (Tryd.lays196_ren.g 4) w
theorem Tabs.below {w w' : World} (h : Tabs w) (hb : Below w.heap.size w w') : Tabs w' := Utf8Tabs_below h hb

def atomB (k : Int) : Bool := decide (k = 1) || decide (k = 2) || decide (k = 3) || decide (k = 4) || decide (k = 6) || decide (k = 10) || decide (k = 11)
def numB (k n : Int) : Bool := if k = 2 then decide (n = 0) || decide (n = 1) else if k = 4 then letB n else if k = 13 then decide (0 ≤ n) && decide (n ≤ 2) else decide (n = 0)
def countB (k : Int) (c : Nat) : Bool := if k = 7 ∨ k = 13 then decide (c = 2) else if k = 8 then decide (c ≤ 1024) else if k = 15 ∨ k = 16 then true else decide (c = 0)
def textB (k : Int) (t : ByteArray) : Bool :=
  if k = 3 then printedB t else if k = 5 then Lib.validD t.data.toList && decide (Lib.runeCount t ≤ 1024) else if k = 6 then decide (t.size ≠ 0) && Lib.validD t.data.toList
  else if k = 9 then decide (t.size ≤ 1024) else if k = 12 ∨ k = 15 then Lib.validD t.data.toList else decide (t.size = 0)

set_option maxHeartbeats 1000000 in
theorem atom_any (k : Int) (w : World) : Calls Tryd.prog 46 #[.int .i64 k] w fun e w' => e = .returned (.bool (atomB k)) ∧ w' = w := by
  unfold atomB
  go_enter Tryd.func46, Tryd.ntmps46
  go_wp2
  all_goals (go_ret; refine ⟨?_, rfl⟩; simp_all)

set_option maxHeartbeats 1000000 in
theorem ratom_any (k : Int) (w : World) : Calls Tryd.prog 21 #[.int .i64 k] w fun e w' => e = .returned (.bool (atomB k)) ∧ w' = w := by
  unfold atomB
  go_enter Tryd.func21, Tryd.ntmps21
  go_wp2
  all_goals (go_ret; refine ⟨?_, rfl⟩; simp_all)

theorem isLetter_any (n : Int) (w : World) : Calls Tryd.prog 52 #[.int .i64 n] w fun e w' => e = .returned (.bool (letB n)) ∧ w' = w := by
  by_cases h1 : 0 ≤ n
  · by_cases h2 : n ≤ 1114111
    · have hv : ∀ wx, Calls Tryd.prog 56 #[.int .i32 n] wx fun e w' => e = .returned (.bool (letB n)) ∧ w' = wx := fun wx => by
        refine (Any.utf8_ValidRune Tryd.lays119 n wx).mono ?_
        rintro e w' ⟨rfl, hw⟩
        refine ⟨?_, hw⟩
        congr 2
        unfold letB Lib.validRune
        rw [Bool.eq_iff_iff]
        simp only [Bool.and_eq_true, Bool.or_eq_true, decide_eq_true_eq]
        omega
      have HV := hid hv
      clear hv
      generalize letB n = L at *
      go_enter Tryd.func52, Tryd.ntmps52
      go_wp2_with (go_at_call 56; refine (HV.out _).mono ?_; rintro e wz ⟨rfl, hwz⟩; rw [hwz])
      go_ret
      exact ⟨rfl, rfl⟩
    · have hl : letB n = false := by unfold letB; simp [h2]
      rw [hl]
      go_enter Tryd.func52, Tryd.ntmps52
      go_wp2
      go_ret
      exact ⟨by simp [h2], rfl⟩
  · have hl : letB n = false := by unfold letB; simp [h1]
    rw [hl]
    go_enter Tryd.func52, Tryd.ntmps52
    go_wp2
    go_ret
    exact ⟨by simp [h1], rfl⟩

theorem numB_2 (n : Int) : numB 2 n = (decide (n = 0) || decide (n = 1)) := rfl
theorem numB_4 (n : Int) : numB 4 n = letB n := rfl
theorem numB_13 (n : Int) : numB 13 n = (decide (0 ≤ n) && decide (n ≤ 2)) := rfl
theorem numB_o {k : Int} (n : Int) (h1 : k ≠ 2) (h2 : k ≠ 4) (h3 : k ≠ 13) : numB k n = decide (n = 0) := by unfold numB; simp [h1, h2, h3]
theorem ret_b {a b : Bool} (h : a = b) : Ending.returned (.bool a) = .returned (.bool b) := by rw [h]
theorem beq_dec (a b : Int) : (a == b) = decide (a = b) := by rw [Bool.eq_iff_iff]; simp

set_option maxHeartbeats 1000000 in
theorem goodNum_any (k n : Int) (w : World) : Calls Tryd.prog 43 #[.int .i64 k, .int .i64 n] w fun e w' => e = .returned (.bool (numB k n)) ∧ w' = w := by
  by_cases h2 : k = 2
  · subst h2
    rw [numB_2]
    by_cases hn : n = 0
    · subst hn
      go_enter Tryd.func43, Tryd.ntmps43
      go_wp2
      go_ret
      exact ⟨rfl, rfl⟩
    · have e1 : (n == 0) = false := by simp [hn]
      go_enter Tryd.func43, Tryd.ntmps43
      go_wp2
      go_ret
      exact ⟨ret_b (by rw [beq_dec]; simp [hn]), rfl⟩
  · by_cases h4 : k = 4
    · subst h4
      rw [numB_4]
      have HL := hid (isLetter_any n)
      generalize letB n = L at *
      go_enter Tryd.func43, Tryd.ntmps43
      go_wp2_with (go_at_call 52; refine (HL.out _).mono ?_; rintro e wz ⟨rfl, hwz⟩; rw [hwz])
      go_ret
      exact ⟨rfl, rfl⟩
    · by_cases h13 : k = 13
      · subst h13
        rw [numB_13]
        by_cases hn : 0 ≤ n
        · go_enter Tryd.func43, Tryd.ntmps43
          go_wp2
          go_ret
          exact ⟨ret_b (by simp [hn]), rfl⟩
        · have e1 : decide (0 ≤ n) = false := by simp [hn]
          go_enter Tryd.func43, Tryd.ntmps43
          go_wp2
          go_ret
          exact ⟨ret_b (by simp [e1]), rfl⟩
      · rw [numB_o n h2 h4 h13]
        have e1 : (k == 2) = false := by simp [h2]
        have e2 : (k == 4) = false := by simp [h4]
        have e3 : (k == 13) = false := by simp [h13]
        go_enter Tryd.func43, Tryd.ntmps43
        go_wp2
        go_ret
        exact ⟨ret_b (beq_dec n 0), rfl⟩

theorem countB_2 {k : Int} (c : Nat) (h : k = 7 ∨ k = 13) : countB k c = decide (c = 2) := by unfold countB; rw [if_pos h]
theorem countB_8 (c : Nat) : countB 8 c = decide (c ≤ 1024) := rfl
theorem countB_t {k : Int} (c : Nat) (h : k = 15 ∨ k = 16) : countB k c = true := by
  rcases h with rfl | rfl <;> rfl
theorem countB_o {k : Int} (c : Nat) (h1 : k ≠ 7) (h2 : k ≠ 13) (h3 : k ≠ 8) (h4 : k ≠ 15) (h5 : k ≠ 16) : countB k c = decide (c = 0) := by unfold countB; simp [h1, h2, h3, h4, h5]
theorem beq_nat (a b : Nat) : ((a : Int) == (b : Int)) = decide (a = b) := by rw [Bool.eq_iff_iff, beq_iff_eq, decide_eq_true_eq]; omega

set_option maxHeartbeats 1000000 in
theorem goodCount_any (k : Int) (c : Nat) (hc : c ≤ maxLen) (w : World) : Calls Tryd.prog 45 #[.int .i64 k, .int .i64 c] w fun e w' => e = .returned (.bool (countB k c)) ∧ w' = w := by
  unfold maxLen at hc
  by_cases h1 : k = 7
  · rw [countB_2 c (.inl h1)]
    subst h1
    go_enter Tryd.func45, Tryd.ntmps45
    go_wp2
    go_ret
    exact ⟨ret_b (beq_nat c 2), rfl⟩
  · by_cases h2 : k = 13
    · rw [countB_2 c (.inr h2)]
      subst h2
      go_enter Tryd.func45, Tryd.ntmps45
      go_wp2
      go_ret
      exact ⟨ret_b (beq_nat c 2), rfl⟩
    · have e1 : (k == 7) = false := by simp [h1]
      have e2 : (k == 13) = false := by simp [h2]
      by_cases h3 : k = 8
      · subst h3
        rw [countB_8]
        go_enter Tryd.func45, Tryd.ntmps45
        go_wp2
        go_ret
        exact ⟨ret_b (by rw [Bool.eq_iff_iff]; simp <;> omega), rfl⟩
      · have e3 : (k == 8) = false := by simp [h3]
        by_cases h4 : k = 15
        · rw [countB_t c (.inl h4)]
          subst h4
          go_enter Tryd.func45, Tryd.ntmps45
          go_wp2
          go_ret
          exact ⟨rfl, rfl⟩
        · by_cases h5 : k = 16
          · rw [countB_t c (.inr h5)]
            subst h5
            go_enter Tryd.func45, Tryd.ntmps45
            go_wp2
            go_ret
            exact ⟨rfl, rfl⟩
          · have e4 : (k == 15) = false := by simp [h4]
            have e5 : (k == 16) = false := by simp [h5]
            rw [countB_o c h1 h2 h3 h4 h5]
            go_enter Tryd.func45, Tryd.ntmps45
            go_wp2
            go_ret
            exact ⟨ret_b (beq_nat c 0), rfl⟩

end Go.Proofs.YtgoaaeiefpdkpaaDoor
