/-
  Walks of the program: what makes words and what tells them.
-/
import Derived.Test.YtdekkieajffblaaGreatW21
set_option linter.unusedVariables false
set_option linter.unusedSimpArgs false
set_option maxRecDepth 100000
set_option maxHeartbeats 4000000
namespace Go.Proofs.YtdekkieajffblaaGreat
open Go.RowKit

/-- Is a word of a kind? What does it have of it? -/
def isR (k x : Int) : Bool := decide ((ofR x).1 = k)
def hasR (k x : Int) : Int := if (ofR x).1 = k then (ofR x).2.1 else 0
def typR (x : Int) : Int := if (ofR x).1 = 8 then (ofR x).2.2 else 0


theorem tup_no {k n t : Int} (h : rightB k n t = false) : Ending.returned (.tuple #[.int .u64 0, .bool false]) = Ending.returned (.tuple #[.int .u64 (wordR k n t), .bool (rightB k n t)]) := by
  unfold wordR; rw [h]; rfl
theorem tup_yes {k n t x : Int} (h : rightB k n t = true) (hx : x = wrdB k n t) : Ending.returned (.tuple #[.int .u64 x, .bool true]) = Ending.returned (.tuple #[.int .u64 (wordR k n t), .bool (rightB k n t)]) := by
  unfold wordR; rw [h, hx]; rfl
theorem raw_not {x k : Int} (hk : k ≠ 0) (h : (ofRaw x).1 ≠ k) : (ofR x).1 ≠ k := by
  unfold ofR; split
  · exact h
  · exact fun e => hk e.symm
theorem raw_bad {x k : Int} (hk : k ≠ 0) (h : rightB (ofRaw x).1 (ofRaw x).2.1 (ofRaw x).2.2 = false) : (ofR x).1 ≠ k := by
  unfold ofR; rw [h]; exact fun e => hk e.symm
theorem raw_yes {x k n t : Int} (h : ofRaw x = (k, n, t)) (hr : rightB k n t = true) : ofR x = (k, n, t) := by
  unfold ofR; rw [h]; simp only [hr, if_true]
theorem tell_no {x k : Int} (h : (ofR x).1 ≠ k) : Ending.returned (.tuple #[.int .i64 0, .bool false]) = Ending.returned (.tuple #[.int .i64 (hasR k x), .bool (isR k x)]) := by
  unfold hasR isR; rw [if_neg h, decide_eq_false h]
theorem tell_yes {x k n t : Int} (h : ofR x = (k, n, t)) : Ending.returned (.tuple #[.int .i64 n, .bool true]) = Ending.returned (.tuple #[.int .i64 (hasR k x), .bool (isR k x)]) := by
  unfold hasR isR; rw [h]; simp
theorem tellh_no {x : Int} (h : (ofR x).1 ≠ 8) : Ending.returned (.tuple #[.int .i64 0, .int .i64 0, .bool false]) = Ending.returned (.tuple #[.int .i64 (typR x), .int .i64 (hasR 8 x), .bool (isR 8 x)]) := by
  unfold hasR isR typR; rw [if_neg h, if_neg h, decide_eq_false h]
theorem tellh_yes {x n t : Int} (h : ofR x = (8, n, t)) : Ending.returned (.tuple #[.int .i64 t, .int .i64 n, .bool true]) = Ending.returned (.tuple #[.int .i64 (typR x), .int .i64 (hasR 8 x), .bool (isR 8 x)]) := by
  unfold hasR isR typR; rw [h]; simp
theorem raw_tag {x k : Int} (m : Int) (hm : x % 8 = m) (h : (m = 0 → k ≠ 1) ∧ (m = 1 → k ≠ 2) ∧ (m = 2 → False) ∧ (m = 7 → k ≠ 8)) (hk : k ≠ 0) : (ofRaw x).1 ≠ k := by
  unfold ofRaw
  rw [hm]
  split
  · exact fun e => h.1 (by assumption) e.symm
  split
  · exact fun e => h.2.1 (by assumption) e.symm
  split
  · exact (h.2.2.1 (by assumption)).elim
  split
  · exact fun e => h.2.2.2 (by assumption) e.symm
  · exact fun e => hk e.symm
/-- What is of no kind of letters, names, primitives, special forms with that number. -/
theorem raw_kind {x k : Int} (hx : U64 x) (hk : 4 ≤ k ∧ k ≤ 7) (h : x % 256 ≠ (k + 2) * 8 + 2) : (ofRaw x).1 ≠ k := by
  unfold U64 at hx
  unfold ofRaw
  split
  · show (1 : Int) ≠ k; omega
  split
  · show (2 : Int) ≠ k; omega
  split
  · split
    · show (3 : Int) ≠ k; omega
    split
    · show x / 8 % 32 - 2 ≠ k; omega
    · show (0 : Int) ≠ k; omega
  split
  · show (8 : Int) ≠ k; omega
  · show (0 : Int) ≠ k; omega
theorem raw_is {x k : Int} (hx : U64 x) (hk : 4 ≤ k ∧ k ≤ 7) (h : x % 256 = (k + 2) * 8 + 2) : ofRaw x = (k, x / 256, 0) := by
  unfold U64 at hx
  unfold ofRaw
  rw [if_neg (by omega), if_neg (by omega), if_pos (by omega), if_neg (by omega), if_pos (by omega)]
  have : x / 8 % 32 - 2 = k := by omega
  rw [this]
theorem or_kind {n c : Int} (h0 : 0 ≤ n) (h1 : n ≤ 1073741824) (hc : 0 ≤ c ∧ c < 256) : bits .or .u64 (n * 256) c = n * 256 + c := or_low8 (by unfold U64; omega) (by omega) hc
theorem fix_any (n : Int) (hn : Z64 n) (w : World) : Calls Tryz.prog 84 #[.int .i64 n] w fun e w' => e = .returned (.tuple #[.int .u64 (wordR 1 n 0), .bool (rightB 1 n 0)]) ∧ w' = w := by
  unfold Z64 at hn
  by_cases h : -1152921504606846976 ≤ n ∧ n < 1152921504606846976
  · have hr : Hid (rightB 1 n 0 = true) := by unfold Hid rightB; simp [h.1, h.2]
    have w1 : IntKind.u64.wrap (IntKind.u64.wrap n * 8) = (n * 8) % 18446744073709551616 := by
      rw [IntKind.wrap_u64, IntKind.wrap_u64]; omega
    have e0 : bits .or .u64 ((n * 8) % 18446744073709551616) 0 = (n * 8) % 18446744073709551616 := by
      have := or_low3 (x := (n * 8) % 18446744073709551616) (b := 0) (by unfold U64; omega) (by omega) (by omega)
      rw [this]; exact Int.add_zero _
    go_enter Tryz.func84, Tryz.ntmps84
    go_wp2
    all_goals go_ret2
    all_goals exact ⟨tup_yes hr.out (by first | rfl | (show bits .or .u64 (IntKind.u64.wrap (IntKind.u64.wrap n * 8)) 0 = (n * 8) % 18446744073709551616; rw [w1, e0]) | (show bits .or .u64 ((n * 8) % 18446744073709551616) 0 = (n * 8) % 18446744073709551616; rw [e0])), rfl⟩
  · have hr : Hid (rightB 1 n 0 = false) := by unfold Hid rightB; simp; omega
    go_enter Tryz.func84, Tryz.ntmps84
    go_wp2
    all_goals go_ret2
    all_goals first
    | exact ⟨tup_no hr.out, rfl⟩
    | (exfalso; omega)
theorem ptr_any (n : Int) (hn : Z64 n) (w : World) : Calls Tryz.prog 108 #[.int .i64 n] w fun e w' => e = .returned (.tuple #[.int .u64 (wordR 2 n 0), .bool (rightB 2 n 0)]) ∧ w' = w := by
  unfold Z64 at hn
  by_cases h : 0 ≤ n ∧ n ≤ 1099511627776
  · have hr : Hid (rightB 2 n 0 = true) := by unfold Hid rightB; simp [h.1, h.2]
    have e0 : bits .or .u64 (n * 8) 1 = n * 8 + 1 := or_low3 (by unfold U64; omega) (by omega) (by omega)
    obtain ⟨h1, h2⟩ := h
    go_enter Tryz.func108, Tryz.ntmps108
    go_wp2
    all_goals go_ret2
    all_goals first
    | exact ⟨tup_yes hr.out rfl, rfl⟩
    | (exfalso; omega)
  · have hr : Hid (rightB 2 n 0 = false) := by unfold Hid rightB; simp; omega
    go_enter Tryz.func108, Tryz.ntmps108
    go_wp2
    all_goals go_ret2
    all_goals first
    | exact ⟨tup_no hr.out, rfl⟩
    | (exfalso; omega)
theorem head_any (n t : Int) (hn : Z64 n) (ht : Z64 t) (w : World) : Calls Tryz.prog 109 #[.int .i64 t, .int .i64 n] w fun e w' => e = .returned (.tuple #[.int .u64 (wordR 8 n t), .bool (rightB 8 n t)]) ∧ w' = w := by
  unfold Z64 at hn ht
  by_cases h : (1 ≤ t ∧ t ≤ 255) ∧ 0 ≤ n ∧ n ≤ 1099511627776
  · have hr : Hid (rightB 8 n t = true) := by unfold Hid rightB; simp [h.1.1, h.1.2, h.2.1, h.2.2]
    have e0 : bits .or .u64 (n * 2048) (t * 8) = n * 2048 + t * 8 := or_low11 (by unfold U64; omega) (by omega) (by omega)
    have e1 : bits .or .u64 (n * 2048 + t * 8) 7 = n * 2048 + t * 8 + 7 := or_low3 (by unfold U64; omega) (by omega) (by omega)
    obtain ⟨⟨h1, h2⟩, h3, h4⟩ := h
    go_enter Tryz.func109, Tryz.ntmps109
    go_wp2
    all_goals go_ret2
    all_goals first
    | exact ⟨tup_yes hr.out rfl, rfl⟩
    | (exfalso; omega)
  · have hr : Hid (rightB 8 n t = false) := by unfold Hid rightB; simp; omega
    go_enter Tryz.func109, Tryz.ntmps109
    go_wp2
    all_goals go_ret2
    all_goals first
    | exact ⟨tup_no hr.out, rfl⟩
    | (exfalso; omega)
theorem int_any (x : Int) (hx : U64 x) (w : World) : Calls Tryz.prog 36 #[.int .u64 x] w fun e w' => e = .returned (.tuple #[.int .i64 (hasR 1 x), .bool (isR 1 x)]) ∧ w' = w := by
  have e0 := and7 hx
  unfold U64 at hx
  by_cases h : x % 8 = 0
  · have e1 : wrap64 x / 8 = sgnW x / 8 := by unfold wrap64 sgnW; split <;> omega
    have ho : Hid (ofR x = (1, wrap64 x / 8, 0)) := by
      refine raw_yes (by unfold ofRaw; rw [if_pos h, e1]) ?_
      unfold rightB; rw [e1]; unfold sgnW
      simp; split <;> omega
    clear e1
    go_enter Tryz.func36, Tryz.ntmps36
    go_wp2
    all_goals go_ret2
    all_goals exact ⟨tell_yes ho.out, rfl⟩
  · have ho : Hid ((ofR x).1 ≠ 1) := by
      refine raw_not (by decide) ?_
      unfold ofRaw; rw [if_neg h]
      split
      · exact (by decide : (2 : Int) ≠ 1)
      split
      · split
        · exact (by decide : (3 : Int) ≠ 1)
        split
        · show x / 8 % 32 - 2 ≠ 1; omega
        · exact (by decide : (0 : Int) ≠ 1)
      split
      · exact (by decide : (8 : Int) ≠ 1)
      · exact (by decide : (0 : Int) ≠ 1)
    go_enter Tryz.func36, Tryz.ntmps36
    go_wp2
    all_goals go_ret2
    all_goals exact ⟨tell_no ho.out, rfl⟩
theorem at_any (x : Int) (hx : U64 x) (w : World) : Calls Tryz.prog 110 #[.int .u64 x] w fun e w' => e = .returned (.tuple #[.int .i64 (hasR 2 x), .bool (isR 2 x)]) ∧ w' = w := by
  have e0 := and7 hx
  unfold U64 at hx
  by_cases h : x % 8 = 1
  · have hw : Hid (ofRaw x = (2, x / 8, 0)) := by unfold Hid ofRaw; rw [if_neg (by omega), if_pos h]
    by_cases h2 : x / 8 ≤ 1099511627776
    · have ho : Hid (ofR x = (2, x / 8, 0)) := raw_yes hw.out (by unfold rightB; simp; omega)
      go_enter Tryz.func110, Tryz.ntmps110
      go_wp2
      all_goals go_ret2
      all_goals first
      | exact ⟨tell_yes ho.out, rfl⟩
      | (exfalso; omega)
    · have ho : Hid ((ofR x).1 ≠ 2) := raw_bad (by decide) (by rw [hw.out]; unfold rightB; simp; omega)
      go_enter Tryz.func110, Tryz.ntmps110
      go_wp2
      all_goals go_ret2
      all_goals first
      | exact ⟨tell_no ho.out, rfl⟩
      | (exfalso; omega)
  · have ho : Hid ((ofR x).1 ≠ 2) := by
      refine raw_not (by decide) ?_
      unfold ofRaw
      split
      · exact (by decide : (1 : Int) ≠ 2)
      split
      · split
        · exact (by decide : (3 : Int) ≠ 2)
        split
        · show x / 8 % 32 - 2 ≠ 2; omega
        · exact (by decide : (0 : Int) ≠ 2)
      split
      · exact (by decide : (8 : Int) ≠ 2)
      · exact (by decide : (0 : Int) ≠ 2)
    go_enter Tryz.func110, Tryz.ntmps110
    go_wp2
    all_goals go_ret2
    all_goals exact ⟨tell_no ho.out, rfl⟩
theorem headof_any (x : Int) (hx : U64 x) (w : World) : Calls Tryz.prog 94 #[.int .u64 x] w fun e w' => e = .returned (.tuple #[.int .i64 (typR x), .int .i64 (hasR 8 x), .bool (isR 8 x)]) ∧ w' = w := by
  have e0 := and7 hx
  have e1 := and255w (x := x / 8) (by unfold U64 at hx ⊢; omega)
  unfold U64 at hx
  by_cases h : x % 8 = 7
  · have hw : Hid (ofRaw x = (8, x / 2048, x / 8 % 256)) := by unfold Hid ofRaw; rw [if_neg (by omega), if_neg (by omega), if_neg (by omega), if_pos h]
    by_cases h2 : 1 ≤ x / 8 % 256 ∧ x / 2048 ≤ 1099511627776
    · have ho : Hid (ofR x = (8, x / 2048, x / 8 % 256)) := raw_yes hw.out (by unfold rightB; simp; omega)
      obtain ⟨h3, h4⟩ := h2
      go_enter Tryz.func94, Tryz.ntmps94
      go_wp2
      all_goals go_ret3
      all_goals first
      | exact ⟨tellh_yes ho.out, rfl⟩
      | (exfalso; omega)
    · have ho : Hid ((ofR x).1 ≠ 8) := raw_bad (by decide) (by rw [hw.out]; unfold rightB; simp; omega)
      go_enter Tryz.func94, Tryz.ntmps94
      go_wp2
      all_goals go_ret3
      all_goals first
      | exact ⟨tellh_no ho.out, rfl⟩
      | (exfalso; omega)
  · have ho : Hid ((ofR x).1 ≠ 8) := by
      refine raw_not (by decide) ?_
      unfold ofRaw
      split
      · exact (by decide : (1 : Int) ≠ 8)
      split
      · exact (by decide : (2 : Int) ≠ 8)
      split
      · split
        · exact (by decide : (3 : Int) ≠ 8)
        split
        · show x / 8 % 32 - 2 ≠ 8; omega
        · exact (by decide : (0 : Int) ≠ 8)
      exact (by decide : (0 : Int) ≠ 8)
    go_enter Tryz.func94, Tryz.ntmps94
    go_wp2
    all_goals go_ret3
    all_goals exact ⟨tellh_no ho.out, rfl⟩
end Go.Proofs.YtdekkieajffblaaGreat
