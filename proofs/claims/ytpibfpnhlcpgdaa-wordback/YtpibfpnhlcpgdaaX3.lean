/-
  Walks of the program: what makes words and what tells them.
-/
import Derived.Test.YtpibfpnhlcpgdaaX2
set_option linter.unusedVariables false
set_option linter.unusedSimpArgs false
set_option maxRecDepth 100000
set_option maxHeartbeats 4000000
namespace Go.Proofs.Ytpibfpnhlcpgdaa
open Go.RowKit

/-- Is a word of a kind? What does it have of it? -/
def isR (k x : Int) : Bool := decide ((ofR x).1 = k)
def hasR (k x : Int) : Int := if (ofR x).1 = k then (ofR x).2.1 else 0
def typR (x : Int) : Int := if (ofR x).1 = 8 then (ofR x).2.2 else 0


theorem tup_no {k n t : Int} (h : rightB k n t = false) : Ending.returned (.tuple #[.int .u64 0, .bool false]) = Ending.returned (.tuple #[.int .u64 (wordR k n t), .bool (rightB k n t)]) := by
  unfold wordR; rw [h]; rfl
theorem tup_yes {k n t x : Int} (h : rightB k n t = true) (hx : x = wrdB k n t) : Ending.returned (.tuple #[.int .u64 x, .bool true]) = Ending.returned (.tuple #[.int .u64 (wordR k n t), .bool (rightB k n t)]) := by
  unfold wordR; rw [h, hx]; rfl
theorem raw_not {x k : Int} (hk : k ≠ 0) (h : (ofRaw x).1 ≠ k) : (ofR x).1 ≠ k := by
  unfold ofR; split
  · exact h
  · exact fun e => hk e.symm
theorem raw_bad {x k : Int} (hk : k ≠ 0) (h : rightB (ofRaw x).1 (ofRaw x).2.1 (ofRaw x).2.2 = false) : (ofR x).1 ≠ k := by
  unfold ofR; rw [h]; exact fun e => hk e.symm
theorem raw_yes {x k n t : Int} (h : ofRaw x = (k, n, t)) (hr : rightB k n t = true) : ofR x = (k, n, t) := by
  unfold ofR; rw [h]; simp only [hr, if_true]
theorem tell_no {x k : Int} (h : (ofR x).1 ≠ k) : Ending.returned (.tuple #[.int .i64 0, .bool false]) = Ending.returned (.tuple #[.int .i64 (hasR k x), .bool (isR k x)]) := by
  unfold hasR isR; rw [if_neg h, decide_eq_false h]
theorem tell_yes {x k n t : Int} (h : ofR x = (k, n, t)) : Ending.returned (.tuple #[.int .i64 n, .bool true]) = Ending.returned (.tuple #[.int .i64 (hasR k x), .bool (isR k x)]) := by
  unfold hasR isR; rw [h]; simp
theorem tellh_no {x : Int} (h : (ofR x).1 ≠ 8) : Ending.returned (.tuple #[.int .i64 0, .int .i64 0, .bool false]) = Ending.returned (.tuple #[.int .i64 (typR x), .int .i64 (hasR 8 x), .bool (isR 8 x)]) := by
  unfold hasR isR typR; rw [if_neg h, if_neg h, decide_eq_false h]
theorem tellh_yes {x n t : Int} (h : ofR x = (8, n, t)) : Ending.returned (.tuple #[.int .i64 t, .int .i64 n, .bool true]) = Ending.returned (.tuple #[.int .i64 (typR x), .int .i64 (hasR 8 x), .bool (isR 8 x)]) := by
  unfold hasR isR typR; rw [h]; simp
theorem raw_tag {x k : Int} (m : Int) (hm : x % 8 = m) (h : (m = 0 → k ≠ 1) ∧ (m = 1 → k ≠ 2) ∧ (m = 2 → False) ∧ (m = 7 → k ≠ 8)) (hk : k ≠ 0) : (ofRaw x).1 ≠ k := by
  unfold ofRaw
  rw [hm]
  split
  · exact fun e => h.1 (by assumption) e.symm
  split
  · exact fun e => h.2.1 (by assumption) e.symm
  split
  · exact (h.2.2.1 (by assumption)).elim
  split
  · exact fun e => h.2.2.2 (by assumption) e.symm
  · exact fun e => hk e.symm
/-- What is of no kind of letters, names, primitives, special forms with that number. -/
theorem raw_kind {x k : Int} (hx : U64 x) (hk : 4 ≤ k ∧ k ≤ 7) (h : x % 256 ≠ (k + 2) * 8 + 2) : (ofRaw x).1 ≠ k := by
  unfold U64 at hx
  unfold ofRaw
  split
  · show (1 : Int) ≠ k; omega
  split
  · show (2 : Int) ≠ k; omega
  split
  · split
    · show (3 : Int) ≠ k; omega
    split
    · show x / 8 % 32 - 2 ≠ k; omega
    · show (0 : Int) ≠ k; omega
  split
  · show (8 : Int) ≠ k; omega
  · show (0 : Int) ≠ k; omega
theorem raw_is {x k : Int} (hx : U64 x) (hk : 4 ≤ k ∧ k ≤ 7) (h : x % 256 = (k + 2) * 8 + 2) : ofRaw x = (k, x / 256, 0) := by
  unfold U64 at hx
  unfold ofRaw
  rw [if_neg (by omega), if_neg (by omega), if_pos (by omega), if_neg (by omega), if_pos (by omega)]
  have : x / 8 % 32 - 2 = k := by omega
  rw [this]
theorem iscount_any (n : Int) (w : World) : Calls Try.prog 39 #[.int .i64 n] w fun e w' => e = .returned (.bool (decide (0 ≤ n) && decide (n ≤ 1073741824))) ∧ w' = w := by
  by_cases h1 : 0 ≤ n <;> by_cases h2 : n ≤ 1073741824 <;>
  · go_enter Try.func39, Try.ntmps39
    go_wp2
    go_ret
    exact ⟨by simp [h1, h2], rfl⟩
theorem validrune_any (n : Int) (h1 : 0 ≤ n) (h2 : n ≤ 1114111) (w : World) : Calls Try.prog 38 #[.int .i32 n] w fun e w' => e = .returned (.bool (decide (n < 55296) || decide (57343 < n))) ∧ w' = w := by
  by_cases h3 : n < 55296 <;> by_cases h4 : 57343 < n <;>
  · go_enter Try.func38, Try.ntmps38
    go_wp2
    go_ret
    exact ⟨by simp [h3, h4], rfl⟩
theorem isletter_any (n : Int) (w : World) : Calls Try.prog 32 #[.int .i64 n] w fun e w' => e = .returned (.bool (ltrB n)) ∧ w' = w := by
  unfold ltrB
  by_cases h1 : 0 ≤ n <;> by_cases h2 : n ≤ 1114111
  · have HV := hid (fun w => validrune_any n h1 h2 w)
    go_enter Try.func32, Try.ntmps32
    go_wp2_with (go_at_call 38; refine (HV.out _).mono ?_; rintro e w9 ⟨rfl, hw9⟩; rw [hw9])
    all_goals go_ret
    all_goals exact ⟨by simp [h1, h2], rfl⟩
  all_goals
  · go_enter Try.func32, Try.ntmps32
    go_wp2
    go_ret
    refine ⟨?_, rfl⟩
    first
    | simp [h1]; omega
    | simp [h2]; omega
theorem or_kind {n c : Int} (h0 : 0 ≤ n) (h1 : n ≤ 1073741824) (hc : 0 ≤ c ∧ c < 256) : bits .or .u64 (n * 256) c = n * 256 + c := or_low8 (by unfold U64; omega) (by omega) hc
theorem ofkind_any (n c : Int) (h0 : 0 ≤ n) (h1 : n ≤ 1073741824) (hc : 0 ≤ c ∧ c < 256) (w : World) : Calls Try.prog 33 #[.int .u64 c, .int .i64 n] w fun e w' => e = .returned (.int .u64 (n * 256 + c)) ∧ w' = w := by
  have e1 := or_kind h0 h1 hc
  go_enter Try.func33, Try.ntmps33
  go_wp2
  go_ret
  exact ⟨rfl, rfl⟩
theorem above_any (x c : Int) (hx : U64 x) (w : World) : Calls Try.prog 36 #[.int .u64 c, .int .u64 x] w fun e w' => e = .returned (.tuple #[.int .i64 (x / 256), .bool (decide (x % 256 = c))]) ∧ w' = w := by
  have e1 := and255w hx
  unfold U64 at hx
  go_enter Try.func36, Try.ntmps36
  go_wp2
  go_ret2
  exact ⟨rfl, rfl⟩
theorem counted_any (n k c : Int) (hk : k = 5 ∨ k = 6 ∨ k = 7) (hc : c = (k + 2) * 8 + 2) (w : World) : Calls Try.prog 34 #[.int .u64 c, .int .i64 n] w fun e w' => e = .returned (.tuple #[.int .u64 (wordR k n 0), .bool (rightB k n 0)]) ∧ w' = w := by
  have HC := hid (fun w => iscount_any n w)
  have hcr : 0 ≤ c ∧ c < 256 := by omega
  have hr : rightB k n 0 = (decide (0 ≤ n) && decide (n ≤ 1073741824)) := by
    unfold rightB; rcases hk with rfl | rfl | rfl <;> simp
  have HR := hid hr
  clear hr
  have HCC := hid hc
  have HKK := hid hk
  clear hc hk
  by_cases h1 : 0 ≤ n <;> by_cases h2 : n ≤ 1073741824
  · have HK := hid (fun w => ofkind_any n c h1 h2 hcr w)
    go_enter Try.func34, Try.ntmps34
    go_wp2_with (first
      | (go_at_call 39; refine (HC.out _).mono ?_; rintro e w9 ⟨rfl, hw9⟩; rw [hw9]; simp only [h1, h2, decide_true, Bool.and_true])
      | (go_at_call 33; refine (HK.out _).mono ?_; rintro e w9 ⟨rfl, hw9⟩; rw [hw9]))
    all_goals go_ret2
    all_goals exact ⟨tup_yes (by rw [HR.out]; simp [h1, h2]) (by have hc := HCC.out; have hk := HKK.out; unfold wrdB; rw [if_neg (by omega), if_neg (by omega), if_neg (by omega), if_neg (by omega)]; omega), rfl⟩
  all_goals
  · have hf : (decide (0 ≤ n) && decide (n ≤ 1073741824)) = false := by simp; omega
    have HF := hid hf
    clear hf
    go_enter Try.func34, Try.ntmps34
    go_wp2_with (go_at_call 39; refine (HC.out _).mono ?_; rintro e w9 ⟨rfl, hw9⟩; rw [hw9, HF.out])
    all_goals go_ret2
    all_goals exact ⟨tup_no (by rw [HR.out, HF.out]), rfl⟩
theorem countof_any (x k c : Int) (hx : U64 x) (hk : k = 5 ∨ k = 6 ∨ k = 7) (hc : c = (k + 2) * 8 + 2) (w : World) : Calls Try.prog 37 #[.int .u64 c, .int .u64 x] w fun e w' => e = .returned (.tuple #[.int .i64 (hasR k x), .bool (isR k x)]) ∧ w' = w := by
  have HA := hid (fun w => above_any x c hx w)
  have HC := hid (fun w => iscount_any (x / 256) w)
  by_cases h1 : x % 256 = c
  · have hw := raw_is hx (by omega) (h1.trans hc)
    have h0 : 0 ≤ x / 256 := by unfold U64 at hx; omega
    have HW := hid hw
    clear hw
    have HCC := hid hc
    clear hc
    by_cases h2 : x / 256 ≤ 1073741824
    · have hr : rightB k (x / 256) 0 = true := by unfold rightB; rcases hk with rfl | rfl | rfl <;> simp [h0, h2]
      have HR := hid hr
      clear hr
      have HX := hid hx
      have hk0 : k ≠ 0 := by omega
      have HKK := hid hk
      clear hx hk
      generalize x / 256 = y at *
      go_enter Try.func37, Try.ntmps37
      go_wp2_with (first
      | (go_at_call 36; refine (HA.out _).mono ?_; rintro e w9 ⟨rfl, hw9⟩; rw [hw9, decide_eq_true h1])
      | (go_at_call 39; refine (HC.out _).mono ?_; rintro e w9 ⟨rfl, hw9⟩; rw [hw9]; simp only [h0, h2, decide_true, Bool.and_true]))
      all_goals go_ret2
      all_goals exact ⟨tell_yes (n := y) (raw_yes HW.out HR.out), rfl⟩
    · have hr : rightB k (x / 256) 0 = false := by unfold rightB; rcases hk with rfl | rfl | rfl <;> simp [h0] <;> omega
      have HR := hid hr
      clear hr
      have hf : (decide (0 ≤ x / 256) && decide (x / 256 ≤ 1073741824)) = false := by simp; omega
      have HF := hid hf
      clear hf
      have HX := hid hx
      have hk0 : k ≠ 0 := by omega
      have HKK := hid hk
      clear hx hk
      generalize x / 256 = y at *
      go_enter Try.func37, Try.ntmps37
      go_wp2_with (first
      | (go_at_call 36; refine (HA.out _).mono ?_; rintro e w9 ⟨rfl, hw9⟩; rw [hw9, decide_eq_true h1])
      | (go_at_call 39; refine (HC.out _).mono ?_; rintro e w9 ⟨rfl, hw9⟩; rw [hw9, HF.out]))
      all_goals go_ret2
      all_goals exact ⟨tell_no (raw_bad hk0 (by rw [HW.out]; exact HR.out)), rfl⟩
  · have hn := raw_not (x := x) (k := k) (by omega) (raw_kind hx (by omega) (by omega))
    have HN := hid hn
    have HCC := hid hc
    have HKK := hid hk
    clear hn hc hk
    go_enter Try.func37, Try.ntmps37
    go_wp2_with (go_at_call 36; refine (HA.out _).mono ?_; rintro e w9 ⟨rfl, hw9⟩; rw [hw9, decide_eq_false h1])
    all_goals go_ret2
    all_goals exact ⟨tell_no HN.out, rfl⟩
theorem letter_any (x : Int) (hx : U64 x) (w : World) : Calls Try.prog 27 #[.int .u64 x] w fun e w' => e = .returned (.tuple #[.int .i64 (hasR 4 x), .bool (isR 4 x)]) ∧ w' = w := by
  have HA := hid (fun w => above_any x 50 hx w)
  have HC := hid (fun w => isletter_any (x / 256) w)
  by_cases h1 : x % 256 = 50
  · have hw := raw_is hx (k := 4) (by omega) (by omega)
    have HW := hid hw
    clear hw
    have HX := hid hx
    clear hx
    generalize x / 256 = y at *
    obtain ⟨b, hb⟩ : ∃ b, b = ltrB y := ⟨_, rfl⟩
    rw [← hb] at HC
    have hr : rightB 4 y 0 = b := by
      unfold rightB; rw [← hb]
      cases b
      · simp
      · have := ltrB_rng hb.symm
        simp; omega
    have HR := hid hr
    clear hr hb
    cases b
    · go_enter Try.func27, Try.ntmps27
      go_wp2_with (first
      | (go_at_call 36; refine (HA.out _).mono ?_; rintro e w9 ⟨rfl, hw9⟩; rw [hw9, decide_eq_true h1])
      | (go_at_call 32; refine (HC.out _).mono ?_; rintro e w9 ⟨rfl, hw9⟩; rw [hw9]))
      all_goals go_ret2
      all_goals exact ⟨tell_no (raw_bad (by omega) (by rw [HW.out]; exact HR.out)), rfl⟩
    · go_enter Try.func27, Try.ntmps27
      go_wp2_with (first
      | (go_at_call 36; refine (HA.out _).mono ?_; rintro e w9 ⟨rfl, hw9⟩; rw [hw9, decide_eq_true h1])
      | (go_at_call 32; refine (HC.out _).mono ?_; rintro e w9 ⟨rfl, hw9⟩; rw [hw9]))
      all_goals go_ret2
      all_goals exact ⟨tell_yes (raw_yes HW.out HR.out), rfl⟩
  · have hn := raw_not (x := x) (k := 4) (by omega) (raw_kind hx (by omega) (by omega))
    have HN := hid hn
    clear hn
    go_enter Try.func27, Try.ntmps27
    go_wp2_with (go_at_call 36; refine (HA.out _).mono ?_; rintro e w9 ⟨rfl, hw9⟩; rw [hw9, decide_eq_false h1])
    all_goals go_ret2
    all_goals exact ⟨tell_no HN.out, rfl⟩
theorem char_any (n : Int) (hn : Z64 n) (w : World) : Calls Try.prog 18 #[.int .i64 n] w fun e w' => e = .returned (.tuple #[.int .u64 (wordR 4 n 0), .bool (rightB 4 n 0)]) ∧ w' = w := by
  have HC := hid (fun w => isletter_any n w)
  obtain ⟨b, hb⟩ : ∃ b, b = ltrB n := ⟨_, rfl⟩
  rw [← hb] at HC
  have hr : rightB 4 n 0 = b := by
    unfold rightB; rw [← hb]
    cases b
    · simp
    · have := ltrB_rng hb.symm
      simp; omega
  have HR := hid hr
  cases b
  · clear hr hb
    go_enter Try.func18, Try.ntmps18
    go_wp2_with (go_at_call 32; refine (HC.out _).mono ?_; rintro e w9 ⟨rfl, hw9⟩; rw [hw9])
    all_goals go_ret2
    all_goals exact ⟨tup_no HR.out, rfl⟩
  · have hl := ltrB_rng hb.symm
    clear hr hb
    have HK := hid (fun w => ofkind_any n 50 (by omega) (by omega) (by omega) w)
    go_enter Try.func18, Try.ntmps18
    go_wp2_with (first
    | (go_at_call 32; refine (HC.out _).mono ?_; rintro e w9 ⟨rfl, hw9⟩; rw [hw9])
    | (go_at_call 33; refine (HK.out _).mono ?_; rintro e w9 ⟨rfl, hw9⟩; rw [hw9]))
    all_goals go_ret2
    all_goals exact ⟨tup_yes HR.out (by simp [wrdB]; omega), rfl⟩
theorem name_any (n : Int) (hn : Z64 n) (w : World) : Calls Try.prog 19 #[.int .i64 n] w fun e w' => e = .returned (.tuple #[.int .u64 (wordR 5 n 0), .bool (rightB 5 n 0)]) ∧ w' = w := by
  have HC := hid (fun w => counted_any n 5 58 (by omega) (by omega) w)
  go_enter Try.func19, Try.ntmps19
  go_wp2_with (go_at_call 34; refine (HC.out _).mono ?_; rintro e w9 ⟨rfl, hw9⟩; rw [hw9])
  all_goals go_ret2
  all_goals exact ⟨rfl, rfl⟩
theorem nameof_any (x : Int) (hx : U64 x) (w : World) : Calls Try.prog 28 #[.int .u64 x] w fun e w' => e = .returned (.tuple #[.int .i64 (hasR 5 x), .bool (isR 5 x)]) ∧ w' = w := by
  have HC := hid (fun w => countof_any x 5 58 hx (by omega) (by omega) w)
  go_enter Try.func28, Try.ntmps28
  go_wp2_with (go_at_call 37; refine (HC.out _).mono ?_; rintro e w9 ⟨rfl, hw9⟩; rw [hw9])
  all_goals go_ret2
  all_goals exact ⟨rfl, rfl⟩
theorem prim_any (n : Int) (hn : Z64 n) (w : World) : Calls Try.prog 20 #[.int .i64 n] w fun e w' => e = .returned (.tuple #[.int .u64 (wordR 6 n 0), .bool (rightB 6 n 0)]) ∧ w' = w := by
  have HC := hid (fun w => counted_any n 6 66 (by omega) (by omega) w)
  go_enter Try.func20, Try.ntmps20
  go_wp2_with (go_at_call 34; refine (HC.out _).mono ?_; rintro e w9 ⟨rfl, hw9⟩; rw [hw9])
  all_goals go_ret2
  all_goals exact ⟨rfl, rfl⟩
theorem primof_any (x : Int) (hx : U64 x) (w : World) : Calls Try.prog 29 #[.int .u64 x] w fun e w' => e = .returned (.tuple #[.int .i64 (hasR 6 x), .bool (isR 6 x)]) ∧ w' = w := by
  have HC := hid (fun w => countof_any x 6 66 hx (by omega) (by omega) w)
  go_enter Try.func29, Try.ntmps29
  go_wp2_with (go_at_call 37; refine (HC.out _).mono ?_; rintro e w9 ⟨rfl, hw9⟩; rw [hw9])
  all_goals go_ret2
  all_goals exact ⟨rfl, rfl⟩
theorem special_any (n : Int) (hn : Z64 n) (w : World) : Calls Try.prog 21 #[.int .i64 n] w fun e w' => e = .returned (.tuple #[.int .u64 (wordR 7 n 0), .bool (rightB 7 n 0)]) ∧ w' = w := by
  have HC := hid (fun w => counted_any n 7 74 (by omega) (by omega) w)
  go_enter Try.func21, Try.ntmps21
  go_wp2_with (go_at_call 34; refine (HC.out _).mono ?_; rintro e w9 ⟨rfl, hw9⟩; rw [hw9])
  all_goals go_ret2
  all_goals exact ⟨rfl, rfl⟩
theorem specialof_any (x : Int) (hx : U64 x) (w : World) : Calls Try.prog 30 #[.int .u64 x] w fun e w' => e = .returned (.tuple #[.int .i64 (hasR 7 x), .bool (isR 7 x)]) ∧ w' = w := by
  have HC := hid (fun w => countof_any x 7 74 hx (by omega) (by omega) w)
  go_enter Try.func30, Try.ntmps30
  go_wp2_with (go_at_call 37; refine (HC.out _).mono ?_; rintro e w9 ⟨rfl, hw9⟩; rw [hw9])
  all_goals go_ret2
  all_goals exact ⟨rfl, rfl⟩

theorem fix_any (n : Int) (hn : Z64 n) (w : World) : Calls Try.prog 15 #[.int .i64 n] w fun e w' => e = .returned (.tuple #[.int .u64 (wordR 1 n 0), .bool (rightB 1 n 0)]) ∧ w' = w := by
  unfold Z64 at hn
  by_cases h : -1152921504606846976 ≤ n ∧ n < 1152921504606846976
  · have hr : Hid (rightB 1 n 0 = true) := by unfold Hid rightB; simp [h.1, h.2]
    have w1 : IntKind.u64.wrap (IntKind.u64.wrap n * 8) = (n * 8) % 18446744073709551616 := by
      rw [IntKind.wrap_u64, IntKind.wrap_u64]; omega
    have e0 : bits .or .u64 ((n * 8) % 18446744073709551616) 0 = (n * 8) % 18446744073709551616 := by
      have := or_low3 (x := (n * 8) % 18446744073709551616) (b := 0) (by unfold U64; omega) (by omega) (by omega)
      rw [this]; exact Int.add_zero _
    go_enter Try.func15, Try.ntmps15
    go_wp2
    all_goals go_ret2
    all_goals exact ⟨tup_yes hr.out (by first | rfl | (show bits .or .u64 (IntKind.u64.wrap (IntKind.u64.wrap n * 8)) 0 = (n * 8) % 18446744073709551616; rw [w1, e0]) | (show bits .or .u64 ((n * 8) % 18446744073709551616) 0 = (n * 8) % 18446744073709551616; rw [e0])), rfl⟩
  · have hr : Hid (rightB 1 n 0 = false) := by unfold Hid rightB; simp; omega
    go_enter Try.func15, Try.ntmps15
    go_wp2
    all_goals go_ret2
    all_goals first
    | exact ⟨tup_no hr.out, rfl⟩
    | (exfalso; omega)
theorem ptr_any (n : Int) (hn : Z64 n) (w : World) : Calls Try.prog 17 #[.int .i64 n] w fun e w' => e = .returned (.tuple #[.int .u64 (wordR 2 n 0), .bool (rightB 2 n 0)]) ∧ w' = w := by
  unfold Z64 at hn
  by_cases h : 0 ≤ n ∧ n ≤ 1099511627776
  · have hr : Hid (rightB 2 n 0 = true) := by unfold Hid rightB; simp [h.1, h.2]
    have e0 : bits .or .u64 (n * 8) 1 = n * 8 + 1 := or_low3 (by unfold U64; omega) (by omega) (by omega)
    obtain ⟨h1, h2⟩ := h
    go_enter Try.func17, Try.ntmps17
    go_wp2
    all_goals go_ret2
    all_goals first
    | exact ⟨tup_yes hr.out rfl, rfl⟩
    | (exfalso; omega)
  · have hr : Hid (rightB 2 n 0 = false) := by unfold Hid rightB; simp; omega
    go_enter Try.func17, Try.ntmps17
    go_wp2
    all_goals go_ret2
    all_goals first
    | exact ⟨tup_no hr.out, rfl⟩
    | (exfalso; omega)
theorem head_any (n t : Int) (hn : Z64 n) (ht : Z64 t) (w : World) : Calls Try.prog 22 #[.int .i64 t, .int .i64 n] w fun e w' => e = .returned (.tuple #[.int .u64 (wordR 8 n t), .bool (rightB 8 n t)]) ∧ w' = w := by
  unfold Z64 at hn ht
  by_cases h : (1 ≤ t ∧ t ≤ 255) ∧ 0 ≤ n ∧ n ≤ 1099511627776
  · have hr : Hid (rightB 8 n t = true) := by unfold Hid rightB; simp [h.1.1, h.1.2, h.2.1, h.2.2]
    have e0 : bits .or .u64 (n * 2048) (t * 8) = n * 2048 + t * 8 := or_low11 (by unfold U64; omega) (by omega) (by omega)
    have e1 : bits .or .u64 (n * 2048 + t * 8) 7 = n * 2048 + t * 8 + 7 := or_low3 (by unfold U64; omega) (by omega) (by omega)
    obtain ⟨⟨h1, h2⟩, h3, h4⟩ := h
    go_enter Try.func22, Try.ntmps22
    go_wp2
    all_goals go_ret2
    all_goals first
    | exact ⟨tup_yes hr.out rfl, rfl⟩
    | (exfalso; omega)
  · have hr : Hid (rightB 8 n t = false) := by unfold Hid rightB; simp; omega
    go_enter Try.func22, Try.ntmps22
    go_wp2
    all_goals go_ret2
    all_goals first
    | exact ⟨tup_no hr.out, rfl⟩
    | (exfalso; omega)
theorem int_any (x : Int) (hx : U64 x) (w : World) : Calls Try.prog 16 #[.int .u64 x] w fun e w' => e = .returned (.tuple #[.int .i64 (hasR 1 x), .bool (isR 1 x)]) ∧ w' = w := by
  have e0 := and7 hx
  unfold U64 at hx
  by_cases h : x % 8 = 0
  · have e1 : wrap64 x / 8 = sgnW x / 8 := by unfold wrap64 sgnW; split <;> omega
    have ho : Hid (ofR x = (1, wrap64 x / 8, 0)) := by
      refine raw_yes (by unfold ofRaw; rw [if_pos h, e1]) ?_
      unfold rightB; rw [e1]; unfold sgnW
      simp; split <;> omega
    clear e1
    go_enter Try.func16, Try.ntmps16
    go_wp2
    all_goals go_ret2
    all_goals exact ⟨tell_yes ho.out, rfl⟩
  · have ho : Hid ((ofR x).1 ≠ 1) := by
      refine raw_not (by decide) ?_
      unfold ofRaw; rw [if_neg h]
      split
      · exact (by decide : (2 : Int) ≠ 1)
      split
      · split
        · exact (by decide : (3 : Int) ≠ 1)
        split
        · show x / 8 % 32 - 2 ≠ 1; omega
        · exact (by decide : (0 : Int) ≠ 1)
      split
      · exact (by decide : (8 : Int) ≠ 1)
      · exact (by decide : (0 : Int) ≠ 1)
    go_enter Try.func16, Try.ntmps16
    go_wp2
    all_goals go_ret2
    all_goals exact ⟨tell_no ho.out, rfl⟩
theorem at_any (x : Int) (hx : U64 x) (w : World) : Calls Try.prog 26 #[.int .u64 x] w fun e w' => e = .returned (.tuple #[.int .i64 (hasR 2 x), .bool (isR 2 x)]) ∧ w' = w := by
  have e0 := and7 hx
  unfold U64 at hx
  by_cases h : x % 8 = 1
  · have hw : Hid (ofRaw x = (2, x / 8, 0)) := by unfold Hid ofRaw; rw [if_neg (by omega), if_pos h]
    by_cases h2 : x / 8 ≤ 1099511627776
    · have ho : Hid (ofR x = (2, x / 8, 0)) := raw_yes hw.out (by unfold rightB; simp; omega)
      go_enter Try.func26, Try.ntmps26
      go_wp2
      all_goals go_ret2
      all_goals first
      | exact ⟨tell_yes ho.out, rfl⟩
      | (exfalso; omega)
    · have ho : Hid ((ofR x).1 ≠ 2) := raw_bad (by decide) (by rw [hw.out]; unfold rightB; simp; omega)
      go_enter Try.func26, Try.ntmps26
      go_wp2
      all_goals go_ret2
      all_goals first
      | exact ⟨tell_no ho.out, rfl⟩
      | (exfalso; omega)
  · have ho : Hid ((ofR x).1 ≠ 2) := by
      refine raw_not (by decide) ?_
      unfold ofRaw
      split
      · exact (by decide : (1 : Int) ≠ 2)
      split
      · split
        · exact (by decide : (3 : Int) ≠ 2)
        split
        · show x / 8 % 32 - 2 ≠ 2; omega
        · exact (by decide : (0 : Int) ≠ 2)
      split
      · exact (by decide : (8 : Int) ≠ 2)
      · exact (by decide : (0 : Int) ≠ 2)
    go_enter Try.func26, Try.ntmps26
    go_wp2
    all_goals go_ret2
    all_goals exact ⟨tell_no ho.out, rfl⟩
theorem headof_any (x : Int) (hx : U64 x) (w : World) : Calls Try.prog 31 #[.int .u64 x] w fun e w' => e = .returned (.tuple #[.int .i64 (typR x), .int .i64 (hasR 8 x), .bool (isR 8 x)]) ∧ w' = w := by
  have e0 := and7 hx
  have e1 := and255w (x := x / 8) (by unfold U64 at hx ⊢; omega)
  unfold U64 at hx
  by_cases h : x % 8 = 7
  · have hw : Hid (ofRaw x = (8, x / 2048, x / 8 % 256)) := by unfold Hid ofRaw; rw [if_neg (by omega), if_neg (by omega), if_neg (by omega), if_pos h]
    by_cases h2 : 1 ≤ x / 8 % 256 ∧ x / 2048 ≤ 1099511627776
    · have ho : Hid (ofR x = (8, x / 2048, x / 8 % 256)) := raw_yes hw.out (by unfold rightB; simp; omega)
      obtain ⟨h3, h4⟩ := h2
      go_enter Try.func31, Try.ntmps31
      go_wp2
      all_goals go_ret3
      all_goals first
      | exact ⟨tellh_yes ho.out, rfl⟩
      | (exfalso; omega)
    · have ho : Hid ((ofR x).1 ≠ 8) := raw_bad (by decide) (by rw [hw.out]; unfold rightB; simp; omega)
      go_enter Try.func31, Try.ntmps31
      go_wp2
      all_goals go_ret3
      all_goals first
      | exact ⟨tellh_no ho.out, rfl⟩
      | (exfalso; omega)
  · have ho : Hid ((ofR x).1 ≠ 8) := by
      refine raw_not (by decide) ?_
      unfold ofRaw
      split
      · exact (by decide : (1 : Int) ≠ 8)
      split
      · exact (by decide : (2 : Int) ≠ 8)
      split
      · split
        · exact (by decide : (3 : Int) ≠ 8)
        split
        · show x / 8 % 32 - 2 ≠ 8; omega
        · exact (by decide : (0 : Int) ≠ 8)
      exact (by decide : (0 : Int) ≠ 8)
    go_enter Try.func31, Try.ntmps31
    go_wp2
    all_goals go_ret3
    all_goals exact ⟨tellh_no ho.out, rfl⟩
theorem bool_any (b : Bool) (w : World) : Calls Try.prog 11 #[.bool b] w fun e w' => e = .returned (.int .u64 (if b then 18 else 10)) ∧ w' = w := by
  cases b <;>
  · go_enter Try.func11, Try.ntmps11
    go_wp2
    go_ret
    exact ⟨rfl, rfl⟩
end Go.Proofs.Ytpibfpnhlcpgdaa
