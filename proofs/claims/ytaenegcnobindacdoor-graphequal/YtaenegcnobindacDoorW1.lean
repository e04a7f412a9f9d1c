/-
  Walks: Good, of the program and of the document's answer; trim.
-/
import Derived.Test.YtaenegcnobindacDoorProg
import Derived.Test.YtaenegcnobindacDoorBase
set_option linter.unusedVariables false
set_option linter.unusedSimpArgs false
namespace Go.Proofs.YtaenegcnobindacDoor
open Go.RowKit

theorem ret_bool {a b : Bool} (h : a = b) : Ending.returned (.bool a) = .returned (.bool b) := by rw [h]

set_option maxHeartbeats 400000 in
theorem good_any (neg : Bool) (ao : Option Addr) (n cap : Nat) (l : List Nat) (w : World) (R : Row .u32 B32 w ao n cap l) :
    Calls Tryd.prog 66 #[.agg #[.bool neg, .slice ao n cap]] w fun e w' => e = .returned (.bool (goodB neg l)) ∧ Below w.heap.size w w' := by
  obtain ⟨hn, hcap, hmax, _, hdg, hrd⟩ := R
  unfold maxLen at hmax
  by_cases h0 : n = 0
  · subst h0
    go_enter Tryd.func66, Tryd.ntmps66
    go_wp2
    go_ret
    exact ⟨by simp [goodB, hn], by exact (Below.refl _ _).alloc (Nat.le_refl _) _⟩
  · obtain ⟨b, o, rfl, hl, hc⟩ := hrd.some (by omega)
    have hc1 := hc (n - 1) (by omega)
    have e0 : ((n : Int) == 0) = false := by simp; omega
    obtain ⟨d, hd⟩ : ∃ d, d = l.getD (n - 1) 0 := ⟨_, rfl⟩
    rw [← hd] at hc1
    have HG : Hid (goodB neg l = (decide (n ≤ 40) && decide (d ≠ 0))) := by
      unfold Hid goodB; rw [hn, ← hd]
      simp [show ¬ n = 0 from h0, show 0 < n by omega]
    clear hd hc hn hrd hdg
    by_cases h40 : n ≤ 40
    · go_enter Tryd.func66, Tryd.ntmps66
      go_wp2
      go_ret
      exact ⟨by rw [HG.out]; apply ret_bool; simp [h40, bne_nat], by exact (Below.refl _ _).alloc (Nat.le_refl _) _⟩
    · go_enter Tryd.func66, Tryd.ntmps66
      go_wp2
      go_ret
      exact ⟨by rw [HG.out]; apply ret_bool; simp [h40, bne_nat], by exact (Below.refl _ _).alloc (Nat.le_refl _) _⟩

set_option maxHeartbeats 400000 in
theorem trim_any (ao : Option Addr) (n cap : Nat) (l : List Nat) (w : World) (R : Row .u32 B32 w ao n cap l) :
    Calls Tryd.prog 68 #[.slice ao n cap] w fun e w' => ∃ m, m ≤ n ∧ e = .returned (.slice ao m m) ∧ w' = w ∧ Tr (l.take m) ∧ val B32 (l.take m) = val B32 l := by
  obtain ⟨hn, hcap, hmax, _, hdg, hrd⟩ := R
  unfold maxLen at hmax
  have HN : Hid (l.length = n) := hn
  clear hn hdg
  go_enter Tryd.func68, Tryd.ntmps68
  go_wp2
  go_loop [3] (fun t => ∃ m : Nat, m ≤ n ∧ t = .int .i64 m ∧ Hid (val B32 (l.take m) = val B32 l)) (fun t => (intOf t).toNat)
  case atStart => exact ⟨n, Nat.le_refl _, rfl, by unfold Hid; rw [List.take_of_length_le (by rw [HN.out]; exact Nat.le_refl _)]⟩
  case round =>
    obtain ⟨m, hm, rfl, hv⟩ := hrel
    by_cases hz : m = 0
    · subst hz
      go_wp2
      go_ret
      exact ⟨0, Nat.zero_le _, rfl, rfl, .inl (by simp), hv.out⟩
    · obtain ⟨b, o, rfl, hl, hc⟩ := hrd.some (by rw [HN.out]; omega)
      have hc1 := hc (m - 1) (by rw [HN.out]; omega)
      obtain ⟨d, hd⟩ : ∃ d, d = l.getD (m - 1) 0 := ⟨_, rfl⟩
      rw [← hd] at hc1
      have HD : Hid (d = l.getD (m - 1) 0) := hd
      clear hd hc hrd
      have hpos : (0 : Int) < m := by omega
      by_cases hd0 : d = 0
      · subst hd0
        go_wp2
        go_round
        case rel => exact ⟨m - 1, by omega, by go_num, by
          unfold Hid
          rw [← hv.out]
          have := val_take_zero B32 l (m - 1) (by rw [HN.out]; omega) HD.out.symm
          rw [show m - 1 + 1 = m by omega] at this
          exact this.symm⟩
        case measure => simp [intOf]; omega
      · have hne : ((d : Int) == 0) = false := by simp; omega
        go_wp2
        go_ret
        exact ⟨m, hm, rfl, rfl, Tr.take_of (by rw [HN.out]; exact hm) (.inr (by rw [← HD.out]; exact hd0)), hv.out⟩

end Go.Proofs.YtaenegcnobindacDoor
