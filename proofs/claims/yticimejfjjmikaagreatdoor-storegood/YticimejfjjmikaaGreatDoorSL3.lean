import Derived.Test.YticimejfjjmikaaGreatDoorW22
import Derived.Test.YticimejfjjmikaaGreatDoorST4
import Derived.Test.YticimejfjjmikaaGreatDoorW14
import Derived.Test.YticimejfjjmikaaGreatDoorW20
set_option linter.unusedVariables false
set_option linter.unusedSimpArgs false
set_option maxRecDepth 100000
set_option maxHeartbeats 4000000
namespace Go.Proofs.YticimejfjjmikaaGreatDoor
open Go.RowKit
def isR (k x : Int) : Bool := decide ((ofR x).1 = k)
def hasR (k x : Int) : Int := if (ofR x).1 = k then (ofR x).2.1 else 0
def typR (x : Int) : Int := if (ofR x).1 = 8 then (ofR x).2.2 else 0
theorem tup_no {k n t : Int} (h : rightB k n t = false) : Ending.returned (.tuple #[.int .u64 0, .bool false]) = Ending.returned (.tuple #[.int .u64 (wordR k n t), .bool (rightB k n t)]) := by
 unfold wordR; rw [h]; rfl
theorem tup_yes {k n t x : Int} (h : rightB k n t = true) (hx : x = wrdB k n t) : Ending.returned (.tuple #[.int .u64 x, .bool true]) = Ending.returned (.tuple #[.int .u64 (wordR k n t), .bool (rightB k n t)]) := by
 unfold wordR; rw [h, hx]; rfl
theorem raw_not {x k : Int} (hk : k ≠ 0) (h : (ofRaw x).1 ≠ k) : (ofR x).1 ≠ k := by
 unfold ofR; split
 ·exact h
 ·exact fun e => hk e.symm
theorem raw_bad {x k : Int} (hk : k ≠ 0) (h : rightB (ofRaw x).1 (ofRaw x).2.1 (ofRaw x).2.2 = false) : (ofR x).1 ≠ k := by
 unfold ofR; rw [h]; exact fun e => hk e.symm
theorem raw_yes {x k n t : Int} (h : ofRaw x = (k, n, t)) (hr : rightB k n t = true) : ofR x = (k, n, t) := by
 unfold ofR; rw [h]; simp only [hr, if_true]
theorem tell_no {x k : Int} (h : (ofR x).1 ≠ k) : Ending.returned (.tuple #[.int .i64 0, .bool false]) = Ending.returned (.tuple #[.int .i64 (hasR k x), .bool (isR k x)]) := by
 unfold hasR isR; rw [if_neg h, decide_eq_false h]
theorem tell_yes {x k n t : Int} (h : ofR x = (k, n, t)) : Ending.returned (.tuple #[.int .i64 n, .bool true]) = Ending.returned (.tuple #[.int .i64 (hasR k x), .bool (isR k x)]) := by
 unfold hasR isR; rw [h]; simp
theorem tellh_no {x : Int} (h : (ofR x).1 ≠ 8) : Ending.returned (.tuple #[.int .i64 0, .int .i64 0, .bool false]) = Ending.returned (.tuple #[.int .i64 (typR x), .int .i64 (hasR 8 x), .bool (isR 8 x)]) := by
 unfold hasR isR typR; rw [if_neg h, if_neg h, decide_eq_false h]
theorem tellh_yes {x n t : Int} (h : ofR x = (8, n, t)) : Ending.returned (.tuple #[.int .i64 t, .int .i64 n, .bool true]) = Ending.returned (.tuple #[.int .i64 (typR x), .int .i64 (hasR 8 x), .bool (isR 8 x)]) := by
 unfold hasR isR typR; rw [h]; simp
theorem raw_kind {x k : Int} (hx : U64 x) (hk : 4 <= k /\ k <= 7) (h : x % 256 ≠ (k + 2) * 8 + 2) : (ofRaw x).1 ≠ k := by
 unfold U64 at hx
 unfold ofRaw
 split
 ·show (1 : Int) ≠ k; omega
 split
 ·show (2 : Int) ≠ k; omega
 split
 ·split
  ·show (3 : Int) ≠ k; omega
  split
  ·show x / 8 % 32 - 2 ≠ k; omega
  ·show (0 : Int) ≠ k; omega
 split
 ·show (8 : Int) ≠ k; omega
 ·show (0 : Int) ≠ k; omega
theorem raw_is {x k : Int} (hx : U64 x) (hk : 4 <= k /\ k <= 7) (h : x % 256 = (k + 2) * 8 + 2) : ofRaw x = (k, x / 256, 0) := by
 unfold U64 at hx
 unfold ofRaw
 rw [if_neg (by omega), if_neg (by omega), if_pos (by omega), if_neg (by omega), if_pos (by omega)]
 have : x / 8 % 32 - 2 = k := by omega
 rw [this]
theorem iscount_any (n : Int) (w : World) : Calls Tryz.prog 194 #[.int .i64 n] w fun e w' => e = .returned (.bool (decide (0 <= n) && decide (n <= 1073741824))) /\ w' = w := by
 by_cases h1 : 0 <= n <;> by_cases h2 : n <= 1073741824 <;>
 ·go_enter Tryz.func194, Tryz.ntmps194
  go_wp2
  go_ret
  exact ⟨by simp [h1, h2], rfl⟩
theorem validrune_any (n : Int) (h1 : 0 <= n) (h2 : n <= 1114111) (w : World) : Calls Tryz.prog 192 #[.int .i32 n] w fun e w' => e = .returned (.bool (decide (n < 55296) || decide (57343 < n))) /\ w' = w := by
 by_cases h3 : n < 55296 <;> by_cases h4 : 57343 < n <;>
 ·go_enter Tryz.func192, Tryz.ntmps192
  go_wp2
  go_ret
  exact ⟨by simp [h3, h4], rfl⟩
theorem isletter_any (n : Int) (w : World) : Calls Tryz.prog 163 #[.int .i64 n] w fun e w' => e = .returned (.bool (ltrB n)) /\ w' = w := by
 unfold ltrB
 by_cases h1 : 0 <= n <;> by_cases h2 : n <= 1114111
 ·have HV := hid (fun w => validrune_any n h1 h2 w)
  go_enter Tryz.func163, Tryz.ntmps163
  go_wp2_with (go_at_call 192; refine (HV.out _).mono ?_; rintro e w9 ⟨rfl, hw9⟩; rw [hw9])
  all_goals go_ret
  all_goals exact ⟨by simp [h1, h2], rfl⟩
 all_goals
 ·go_enter Tryz.func163, Tryz.ntmps163
  go_wp2
  go_ret
  refine ⟨?_, rfl⟩
  first
  | simp [h1]; omega
  | simp [h2]; omega
theorem or_kind {n c : Int} (h0 : 0 <= n) (h1 : n <= 1073741824) (hc : 0 <= c /\ c < 256) : bits .or .u64 (n * 256) c = n * 256 + c := or_low8 (by unfold U64; omega) (by omega) hc
theorem ofkind_any (n c : Int) (h0 : 0 <= n) (h1 : n <= 1073741824) (hc : 0 <= c /\ c < 256) (w : World) : Calls Tryz.prog 199 #[.int .u64 c, .int .i64 n] w fun e w' => e = .returned (.int .u64 (n * 256 + c)) /\ w' = w := by
 have e1 := or_kind h0 h1 hc
 go_enter Tryz.func199, Tryz.ntmps199
 go_wp2
 go_ret
 exact ⟨rfl, rfl⟩
theorem above_any (x c : Int) (hx : U64 x) (w : World) : Calls Tryz.prog 162 #[.int .u64 c, .int .u64 x] w fun e w' => e = .returned (.tuple #[.int .i64 (x / 256), .bool (decide (x % 256 = c))]) /\ w' = w := by
 have e1 := and255w hx
 unfold U64 at hx
 go_enter Tryz.func162, Tryz.ntmps162
 go_wp2
 go_ret2
 exact ⟨rfl, rfl⟩
theorem counted_any (n k c : Int) (hk : k = 5 \/ k = 6 \/ k = 7) (hc : c = (k + 2) * 8 + 2) (w : World) : Calls Tryz.prog 212 #[.int .u64 c, .int .i64 n] w fun e w' => e = .returned (.tuple #[.int .u64 (wordR k n 0), .bool (rightB k n 0)]) /\ w' = w := by
 have HC := hid (fun w => iscount_any n w)
 have hcr : 0 <= c /\ c < 256 := by omega
 have hr : rightB k n 0 = (decide (0 <= n) && decide (n <= 1073741824)) := by
  unfold rightB; rcases hk with rfl | rfl | rfl <;> simp
 have HR := hid hr
 clear hr
 have HCC := hid hc
 have HKK := hid hk
 clear hc hk
 by_cases h1 : 0 <= n <;> by_cases h2 : n <= 1073741824
 ·have HK := hid (fun w => ofkind_any n c h1 h2 hcr w)
  go_enter Tryz.func212, Tryz.ntmps212
  go_wp2_with (first
   | (go_at_call 194; refine (HC.out _).mono ?_; rintro e w9 ⟨rfl, hw9⟩; rw [hw9]; simp only [h1, h2, decide_true, Bool.and_true])
   | (go_at_call 199; refine (HK.out _).mono ?_; rintro e w9 ⟨rfl, hw9⟩; rw [hw9]))
  all_goals go_ret2
  all_goals exact ⟨tup_yes (by rw [HR.out]; simp [h1, h2]) (by have hc := HCC.out; have hk := HKK.out; unfold wrdB; rw [if_neg (by omega), if_neg (by omega), if_neg (by omega), if_neg (by omega)]; omega), rfl⟩
 all_goals
 ·have hf : (decide (0 <= n) && decide (n <= 1073741824)) = false := by simp; omega
  have HF := hid hf
  clear hf
  go_enter Tryz.func212, Tryz.ntmps212
  go_wp2_with (go_at_call 194; refine (HC.out _).mono ?_; rintro e w9 ⟨rfl, hw9⟩; rw [hw9, HF.out])
  all_goals go_ret2
  all_goals exact ⟨tup_no (by rw [HR.out, HF.out]), rfl⟩
theorem countof_any (x k c : Int) (hx : U64 x) (hk : k = 5 \/ k = 6 \/ k = 7) (hc : c = (k + 2) * 8 + 2) (w : World) : Calls Tryz.prog 167 #[.int .u64 c, .int .u64 x] w fun e w' => e = .returned (.tuple #[.int .i64 (hasR k x), .bool (isR k x)]) /\ w' = w := by
 have HA := hid (fun w => above_any x c hx w)
 have HC := hid (fun w => iscount_any (x / 256) w)
 by_cases h1 : x % 256 = c
 ·have hw := raw_is hx (by omega) (h1.trans hc)
  have h0 : 0 <= x / 256 := by unfold U64 at hx; omega
  have HW := hid hw
  clear hw
  have HCC := hid hc
  clear hc
  by_cases h2 : x / 256 <= 1073741824
  ·have hr : rightB k (x / 256) 0 = true := by unfold rightB; rcases hk with rfl | rfl | rfl <;> simp [h0, h2]
   have HR := hid hr
   clear hr
   have HX := hid hx
   have hk0 : k ≠ 0 := by omega
   have HKK := hid hk
   clear hx hk
   generalize x / 256 = y at *
   go_enter Tryz.func167, Tryz.ntmps167
   go_wp2_with (first
   | (go_at_call 162; refine (HA.out _).mono ?_; rintro e w9 ⟨rfl, hw9⟩; rw [hw9, decide_eq_true h1])
   | (go_at_call 194; refine (HC.out _).mono ?_; rintro e w9 ⟨rfl, hw9⟩; rw [hw9]; simp only [h0, h2, decide_true, Bool.and_true]))
   all_goals go_ret2
   all_goals exact ⟨tell_yes (n := y) (raw_yes HW.out HR.out), rfl⟩
  ·have hr : rightB k (x / 256) 0 = false := by unfold rightB; rcases hk with rfl | rfl | rfl <;> simp [h0] <;> omega
   have HR := hid hr
   clear hr
   have hf : (decide (0 <= x / 256) && decide (x / 256 <= 1073741824)) = false := by simp; omega
   have HF := hid hf
   clear hf
   have HX := hid hx
   have hk0 : k ≠ 0 := by omega
   have HKK := hid hk
   clear hx hk
   generalize x / 256 = y at *
   go_enter Tryz.func167, Tryz.ntmps167
   go_wp2_with (first
   | (go_at_call 162; refine (HA.out _).mono ?_; rintro e w9 ⟨rfl, hw9⟩; rw [hw9, decide_eq_true h1])
   | (go_at_call 194; refine (HC.out _).mono ?_; rintro e w9 ⟨rfl, hw9⟩; rw [hw9, HF.out]))
   all_goals go_ret2
   all_goals exact ⟨tell_no (raw_bad hk0 (by rw [HW.out]; exact HR.out)), rfl⟩
 ·have hn := raw_not (x := x) (k := k) (by omega) (raw_kind hx (by omega) (by omega))
  have HN := hid hn
  have HCC := hid hc
  have HKK := hid hk
  clear hn hc hk
  go_enter Tryz.func167, Tryz.ntmps167
  go_wp2_with (go_at_call 162; refine (HA.out _).mono ?_; rintro e w9 ⟨rfl, hw9⟩; rw [hw9, decide_eq_false h1])
  all_goals go_ret2
  all_goals exact ⟨tell_no HN.out, rfl⟩
theorem letterw_any (x : Int) (hx : U64 x) (w : World) : Calls Tryz.prog 130 #[.int .u64 x] w fun e w' => e = .returned (.tuple #[.int .i64 (hasR 4 x), .bool (isR 4 x)]) /\ w' = w := by
 have HA := hid (fun w => above_any x 50 hx w)
 have HC := hid (fun w => isletter_any (x / 256) w)
 by_cases h1 : x % 256 = 50
 ·have hw := raw_is hx (k := 4) (by omega) (by omega)
  have HW := hid hw
  clear hw
  have HX := hid hx
  clear hx
  generalize x / 256 = y at *
  obtain ⟨b, hb⟩ : ∃ b, b = ltrB y := ⟨_, rfl⟩
  rw [<- hb] at HC
  have hr : rightB 4 y 0 = b := by
   unfold rightB; rw [<- hb]
   cases b
   ·simp
   ·have := ltrB_rng hb.symm
    simp; omega
  have HR := hid hr
  clear hr hb
  cases b
  ·go_enter Tryz.func130, Tryz.ntmps130
   go_wp2_with (first
   | (go_at_call 162; refine (HA.out _).mono ?_; rintro e w9 ⟨rfl, hw9⟩; rw [hw9, decide_eq_true h1])
   | (go_at_call 163; refine (HC.out _).mono ?_; rintro e w9 ⟨rfl, hw9⟩; rw [hw9]))
   all_goals go_ret2
   all_goals exact ⟨tell_no (raw_bad (by omega) (by rw [HW.out]; exact HR.out)), rfl⟩
  ·go_enter Tryz.func130, Tryz.ntmps130
   go_wp2_with (first
   | (go_at_call 162; refine (HA.out _).mono ?_; rintro e w9 ⟨rfl, hw9⟩; rw [hw9, decide_eq_true h1])
   | (go_at_call 163; refine (HC.out _).mono ?_; rintro e w9 ⟨rfl, hw9⟩; rw [hw9]))
   all_goals go_ret2
   all_goals exact ⟨tell_yes (raw_yes HW.out HR.out), rfl⟩
 ·have hn := raw_not (x := x) (k := 4) (by omega) (raw_kind hx (by omega) (by omega))
  have HN := hid hn
  clear hn
  go_enter Tryz.func130, Tryz.ntmps130
  go_wp2_with (go_at_call 162; refine (HA.out _).mono ?_; rintro e w9 ⟨rfl, hw9⟩; rw [hw9, decide_eq_false h1])
  all_goals go_ret2
  all_goals exact ⟨tell_no HN.out, rfl⟩
theorem char_any (n : Int) (hn : Z64 n) (w : World) : Calls Tryz.prog 176 #[.int .i64 n] w fun e w' => e = .returned (.tuple #[.int .u64 (wordR 4 n 0), .bool (rightB 4 n 0)]) /\ w' = w := by
 have HC := hid (fun w => isletter_any n w)
 obtain ⟨b, hb⟩ : ∃ b, b = ltrB n := ⟨_, rfl⟩
 rw [<- hb] at HC
 have hr : rightB 4 n 0 = b := by
  unfold rightB; rw [<- hb]
  cases b
  ·simp
  ·have := ltrB_rng hb.symm
   simp; omega
 have HR := hid hr
 cases b
 ·clear hr hb
  go_enter Tryz.func176, Tryz.ntmps176
  go_wp2_with (go_at_call 163; refine (HC.out _).mono ?_; rintro e w9 ⟨rfl, hw9⟩; rw [hw9])
  all_goals go_ret2
  all_goals exact ⟨tup_no HR.out, rfl⟩
 ·have hl := ltrB_rng hb.symm
  clear hr hb
  have HK := hid (fun w => ofkind_any n 50 (by omega) (by omega) (by omega) w)
  go_enter Tryz.func176, Tryz.ntmps176
  go_wp2_with (first
  | (go_at_call 163; refine (HC.out _).mono ?_; rintro e w9 ⟨rfl, hw9⟩; rw [hw9])
  | (go_at_call 199; refine (HK.out _).mono ?_; rintro e w9 ⟨rfl, hw9⟩; rw [hw9]))
  all_goals go_ret2
  all_goals exact ⟨tup_yes HR.out (by simp [wrdB]; omega), rfl⟩
theorem name_any (n : Int) (hn : Z64 n) (w : World) : Calls Tryz.prog 200 #[.int .i64 n] w fun e w' => e = .returned (.tuple #[.int .u64 (wordR 5 n 0), .bool (rightB 5 n 0)]) /\ w' = w := by
 have HC := hid (fun w => counted_any n 5 58 (by omega) (by omega) w)
 go_enter Tryz.func200, Tryz.ntmps200
 go_wp2_with (go_at_call 212; refine (HC.out _).mono ?_; rintro e w9 ⟨rfl, hw9⟩; rw [hw9])
 all_goals go_ret2
 all_goals exact ⟨rfl, rfl⟩
theorem nameof_any (x : Int) (hx : U64 x) (w : World) : Calls Tryz.prog 164 #[.int .u64 x] w fun e w' => e = .returned (.tuple #[.int .i64 (hasR 5 x), .bool (isR 5 x)]) /\ w' = w := by
 have HC := hid (fun w => countof_any x 5 58 hx (by omega) (by omega) w)
 go_enter Tryz.func164, Tryz.ntmps164
 go_wp2_with (go_at_call 167; refine (HC.out _).mono ?_; rintro e w9 ⟨rfl, hw9⟩; rw [hw9])
 all_goals go_ret2
 all_goals exact ⟨rfl, rfl⟩
theorem primof_any (x : Int) (hx : U64 x) (w : World) : Calls Tryz.prog 132 #[.int .u64 x] w fun e w' => e = .returned (.tuple #[.int .i64 (hasR 6 x), .bool (isR 6 x)]) /\ w' = w := by
 have HC := hid (fun w => countof_any x 6 66 hx (by omega) (by omega) w)
 go_enter Tryz.func132, Tryz.ntmps132
 go_wp2_with (go_at_call 167; refine (HC.out _).mono ?_; rintro e w9 ⟨rfl, hw9⟩; rw [hw9])
 all_goals go_ret2
 all_goals exact ⟨rfl, rfl⟩
theorem fix_any (n : Int) (hn : Z64 n) (w : World) : Calls Tryz.prog 182 #[.int .i64 n] w fun e w' => e = .returned (.tuple #[.int .u64 (wordR 1 n 0), .bool (rightB 1 n 0)]) /\ w' = w := by
 unfold Z64 at hn
 by_cases h : -1152921504606846976 <= n /\ n < 1152921504606846976
 ·have hr : Hid (rightB 1 n 0 = true) := by unfold Hid rightB; simp [h.1, h.2]
  have w1 : IntKind.u64.wrap (IntKind.u64.wrap n * 8) = (n * 8) % 18446744073709551616 := by
   rw [IntKind.wrap_u64, IntKind.wrap_u64]; omega
  have e0 : bits .or .u64 ((n * 8) % 18446744073709551616) 0 = (n * 8) % 18446744073709551616 := by
   have := or_low3 (x := (n * 8) % 18446744073709551616) (b := 0) (by unfold U64; omega) (by omega) (by omega)
   rw [this]; exact Int.add_zero _
  go_enter Tryz.func182, Tryz.ntmps182
  go_wp2
  all_goals go_ret2
  all_goals exact ⟨tup_yes hr.out (by first | rfl | (show bits .or .u64 (IntKind.u64.wrap (IntKind.u64.wrap n * 8)) 0 = (n * 8) % 18446744073709551616; rw [w1, e0]) | (show bits .or .u64 ((n * 8) % 18446744073709551616) 0 = (n * 8) % 18446744073709551616; rw [e0])), rfl⟩
 ·have hr : Hid (rightB 1 n 0 = false) := by unfold Hid rightB; simp; omega
  go_enter Tryz.func182, Tryz.ntmps182
  go_wp2
  all_goals go_ret2
  all_goals first
  | exact ⟨tup_no hr.out, rfl⟩
  | (exfalso; omega)
theorem ptr_any (n : Int) (hn : Z64 n) (w : World) : Calls Tryz.prog 111 #[.int .i64 n] w fun e w' => e = .returned (.tuple #[.int .u64 (wordR 2 n 0), .bool (rightB 2 n 0)]) /\ w' = w := by
 unfold Z64 at hn
 by_cases h : 0 <= n /\ n <= 1099511627776
 ·have hr : Hid (rightB 2 n 0 = true) := by unfold Hid rightB; simp [h.1, h.2]
  have e0 : bits .or .u64 (n * 8) 1 = n * 8 + 1 := or_low3 (by unfold U64; omega) (by omega) (by omega)
  obtain ⟨h1, h2⟩ := h
  go_enter Tryz.func111, Tryz.ntmps111
  go_wp2
  all_goals go_ret2
  all_goals first
  | exact ⟨tup_yes hr.out rfl, rfl⟩
  | (exfalso; omega)
 ·have hr : Hid (rightB 2 n 0 = false) := by unfold Hid rightB; simp; omega
  go_enter Tryz.func111, Tryz.ntmps111
  go_wp2
  all_goals go_ret2
  all_goals first
  | exact ⟨tup_no hr.out, rfl⟩
  | (exfalso; omega)
theorem head_any (n t : Int) (hn : Z64 n) (ht : Z64 t) (w : World) : Calls Tryz.prog 116 #[.int .i64 t, .int .i64 n] w fun e w' => e = .returned (.tuple #[.int .u64 (wordR 8 n t), .bool (rightB 8 n t)]) /\ w' = w := by
 unfold Z64 at hn ht
 by_cases h : (1 <= t /\ t <= 255) /\ 0 <= n /\ n <= 1099511627776
 ·have hr : Hid (rightB 8 n t = true) := by unfold Hid rightB; simp [h.1.1, h.1.2, h.2.1, h.2.2]
  have e0 : bits .or .u64 (n * 2048) (t * 8) = n * 2048 + t * 8 := or_low11 (by unfold U64; omega) (by omega) (by omega)
  have e1 : bits .or .u64 (n * 2048 + t * 8) 7 = n * 2048 + t * 8 + 7 := or_low3 (by unfold U64; omega) (by omega) (by omega)
  obtain ⟨⟨h1, h2⟩, h3, h4⟩ := h
  go_enter Tryz.func116, Tryz.ntmps116
  go_wp2
  all_goals go_ret2
  all_goals first
  | exact ⟨tup_yes hr.out rfl, rfl⟩
  | (exfalso; omega)
 ·have hr : Hid (rightB 8 n t = false) := by unfold Hid rightB; simp; omega
  go_enter Tryz.func116, Tryz.ntmps116
  go_wp2
  all_goals go_ret2
  all_goals first
  | exact ⟨tup_no hr.out, rfl⟩
  | (exfalso; omega)
theorem int_any (x : Int) (hx : U64 x) (w : World) : Calls Tryz.prog 128 #[.int .u64 x] w fun e w' => e = .returned (.tuple #[.int .i64 (hasR 1 x), .bool (isR 1 x)]) /\ w' = w := by
 have e0 := and7 hx
 unfold U64 at hx
 by_cases h : x % 8 = 0
 ·have e1 : wrap64 x / 8 = sgnW x / 8 := by unfold wrap64 sgnW; split <;> omega
  have ho : Hid (ofR x = (1, wrap64 x / 8, 0)) := by
   refine raw_yes (by unfold ofRaw; rw [if_pos h, e1]) ?_
   unfold rightB; rw [e1]; unfold sgnW
   simp; split <;> omega
  clear e1
  go_enter Tryz.func128, Tryz.ntmps128
  go_wp2
  all_goals go_ret2
  all_goals exact ⟨tell_yes ho.out, rfl⟩
 ·have ho : Hid ((ofR x).1 ≠ 1) := by
   refine raw_not (by decide) ?_
   unfold ofRaw; rw [if_neg h]
   split
   ·exact (by decide : (2 : Int) ≠ 1)
   split
   ·split
    ·exact (by decide : (3 : Int) ≠ 1)
    split
    ·show x / 8 % 32 - 2 ≠ 1; omega
    ·exact (by decide : (0 : Int) ≠ 1)
   split
   ·exact (by decide : (8 : Int) ≠ 1)
   ·exact (by decide : (0 : Int) ≠ 1)
  go_enter Tryz.func128, Tryz.ntmps128
  go_wp2
  all_goals go_ret2
  all_goals exact ⟨tell_no ho.out, rfl⟩
theorem at_any (x : Int) (hx : U64 x) (w : World) : Calls Tryz.prog 106 #[.int .u64 x] w fun e w' => e = .returned (.tuple #[.int .i64 (hasR 2 x), .bool (isR 2 x)]) /\ w' = w := by
 have e0 := and7 hx
 unfold U64 at hx
 by_cases h : x % 8 = 1
 ·have hw : Hid (ofRaw x = (2, x / 8, 0)) := by unfold Hid ofRaw; rw [if_neg (by omega), if_pos h]
  by_cases h2 : x / 8 <= 1099511627776
  ·have ho : Hid (ofR x = (2, x / 8, 0)) := raw_yes hw.out (by unfold rightB; simp; omega)
   go_enter Tryz.func106, Tryz.ntmps106
   go_wp2
   all_goals go_ret2
   all_goals first
   | exact ⟨tell_yes ho.out, rfl⟩
   | (exfalso; omega)
  ·have ho : Hid ((ofR x).1 ≠ 2) := raw_bad (by decide) (by rw [hw.out]; unfold rightB; simp; omega)
   go_enter Tryz.func106, Tryz.ntmps106
   go_wp2
   all_goals go_ret2
   all_goals first
   | exact ⟨tell_no ho.out, rfl⟩
   | (exfalso; omega)
 ·have ho : Hid ((ofR x).1 ≠ 2) := by
   refine raw_not (by decide) ?_
   unfold ofRaw
   split
   ·exact (by decide : (1 : Int) ≠ 2)
   split
   ·split
    ·exact (by decide : (3 : Int) ≠ 2)
    split
    ·show x / 8 % 32 - 2 ≠ 2; omega
    ·exact (by decide : (0 : Int) ≠ 2)
   split
   ·exact (by decide : (8 : Int) ≠ 2)
   ·exact (by decide : (0 : Int) ≠ 2)
  go_enter Tryz.func106, Tryz.ntmps106
  go_wp2
  all_goals go_ret2
  all_goals exact ⟨tell_no ho.out, rfl⟩
theorem headof_any (x : Int) (hx : U64 x) (w : World) : Calls Tryz.prog 115 #[.int .u64 x] w fun e w' => e = .returned (.tuple #[.int .i64 (typR x), .int .i64 (hasR 8 x), .bool (isR 8 x)]) /\ w' = w := by
 have e0 := and7 hx
 have e1 := and255w (x := x / 8) (by unfold U64 at hx ⊢; omega)
 unfold U64 at hx
 by_cases h : x % 8 = 7
 ·have hw : Hid (ofRaw x = (8, x / 2048, x / 8 % 256)) := by unfold Hid ofRaw; rw [if_neg (by omega), if_neg (by omega), if_neg (by omega), if_pos h]
  by_cases h2 : 1 <= x / 8 % 256 /\ x / 2048 <= 1099511627776
  ·have ho : Hid (ofR x = (8, x / 2048, x / 8 % 256)) := raw_yes hw.out (by unfold rightB; simp; omega)
   obtain ⟨h3, h4⟩ := h2
   go_enter Tryz.func115, Tryz.ntmps115
   go_wp2
   all_goals go_ret3
   all_goals first
   | exact ⟨tellh_yes ho.out, rfl⟩
   | (exfalso; omega)
  ·have ho : Hid ((ofR x).1 ≠ 8) := raw_bad (by decide) (by rw [hw.out]; unfold rightB; simp; omega)
   go_enter Tryz.func115, Tryz.ntmps115
   go_wp2
   all_goals go_ret3
   all_goals first
   | exact ⟨tellh_no ho.out, rfl⟩
   | (exfalso; omega)
 ·have ho : Hid ((ofR x).1 ≠ 8) := by
   refine raw_not (by decide) ?_
   unfold ofRaw
   split
   ·exact (by decide : (1 : Int) ≠ 8)
   split
   ·exact (by decide : (2 : Int) ≠ 8)
   split
   ·split
    ·exact (by decide : (3 : Int) ≠ 8)
    split
    ·show x / 8 % 32 - 2 ≠ 8; omega
    ·exact (by decide : (0 : Int) ≠ 8)
   exact (by decide : (0 : Int) ≠ 8)
  go_enter Tryz.func115, Tryz.ntmps115
  go_wp2
  all_goals go_ret3
  all_goals exact ⟨tellh_no ho.out, rfl⟩
theorem bool_any (b : Bool) (w : World) : Calls Tryz.prog 174 #[.bool b] w fun e w' => e = .returned (.int .u64 (if b then 18 else 10)) /\ w' = w := by
 cases b <;>
 ·go_enter Tryz.func174, Tryz.ntmps174
  go_wp2
  go_ret
  exact ⟨rfl, rfl⟩
theorem pnumber_any (n : Int) (hn : Z64 n) (w : World) : Calls Tryz.prog 201 #[.int .i64 n] w fun e w' => e = .returned (.int .u64 (wordR 1 n 0)) /\ w' = w := by
 have C := hid (fix_any n hn w)
 obtain ⟨x, hx⟩ : ∃ x, x = wordR 1 n 0 := ⟨_, rfl⟩
 obtain ⟨b, hb⟩ : ∃ x, x = rightB 1 n 0 := ⟨_, rfl⟩
 rw [<- hx, <- hb] at C
 rw [<- hx]
 clear hx hb hn
 go_enter Tryz.func201, Tryz.ntmps201
 go_wp2_with (go_at_call 182; (with_reducible refine C.out.mono ?_); rintro e W1 ⟨rfl, hw1⟩; rw [hw1]; clear hw1)
 go_ret
 exact ⟨rfl, rfl⟩
def PFixPost (z : Int) (w : World) (e : Ending) (w' : World) : Prop := ∃ x, e = .returned (.tuple #[.int .u64 x, .bool (fixB z)]) /\ (fixB z = true -> x = wordR 1 z 0) /\ Below w.heap.size w w'
set_option maxHeartbeats 4000000 in
theorem pfixed_any (neg : Bool) (ao : Option Addr) (n cap : Nat) (l : List Nat) (w : World) (R : Row .u32 B32 w ao n cap l) (g : goodB neg l = true) :
  Calls Tryz.prog 159 #[.agg #[.bool neg, .slice ao n cap]] w (PFixPost (sgn neg (val B32 l)) w) := by
 have b0 := Ba w (.cells #[.bool neg, .slice ao n cap] 104)
 have C := hid (to_any neg ao n cap l (w.alloc (.cells #[.bool neg, .slice ao n cap] 104)) (R.below b0) g)
 unfold ToPost at C
 have hx := blk_new w #[.bool neg, .slice ao n cap] 104
 have c0 : (w.alloc (.cells #[.bool neg, .slice ao n cap] 104)).cell? ⟨w.heap.size, 0, none⟩ = some (.bool neg) := blk_cell hx 0
 have c1 : (w.alloc (.cells #[.bool neg, .slice ao n cap] 104)).cell? ⟨w.heap.size, 1, none⟩ = some (.slice ao n cap) := blk_cell hx 1
 have HB := hid b0
 obtain ⟨z, hz⟩ : ∃ z, z = sgn neg (val B32 l) := ⟨_, rfl⟩
 rw [<- hz] at C ⊢
 clear R g hx b0 hz
 by_cases hf : fits z = true
 ·rw [hf] at C
  have hz64 : Z64 z := by have := of_decide_eq_true hf; unfold Z64; omega
  have CF : Hid (∀ W, Calls Tryz.prog 182 #[.int .i64 z] W fun e w' => e = .returned (.tuple #[.int .u64 (wordR 1 z 0), .bool (fixB z)]) /\ w' = W) := fun W => fix_any z hz64 W
  obtain ⟨x, hx⟩ : ∃ x, x = wordR 1 z 0 := ⟨_, rfl⟩
  obtain ⟨b, hb⟩ : ∃ b, b = fixB z := ⟨_, rfl⟩
  rw [<- hx, <- hb] at CF
  have HX := hid hx
  have HBB := hid hb
  clear hf hz64 hx hb
  go_enter Tryz.func159, Tryz.ntmps159
  go_wp2_with (first
   | (go_at_call 181; (with_reducible refine C.out.mono ?_); rintro e W1 ⟨v, rfl, hv, b1⟩; rw [hv rfl]; have HB1 := hid (Bt HB.out b1); have C2 := hid (CF.out W1); clear b1 hv)
   | (go_at_call 182; (with_reducible refine C2.out.mono ?_); rintro e W2 ⟨rfl, hw2⟩; rw [hw2]; clear hw2))
  go_ret2
  exact ⟨x, by rw [HBB.out]; rfl, fun _ => HX.out, HB1.out⟩
 ·have hf' : fits z = false := by simpa using hf
  rw [hf'] at C
  have HFX : Hid (fixB z = false) := by
   unfold Hid fixB
   have := of_decide_eq_false hf'
   by_cases k1 : -1152921504606846976 <= z
   ·rw [decide_eq_true k1, decide_eq_false (by omega)]; rfl
   ·rw [decide_eq_false k1]; rfl
  clear hf hf'
  go_enter Tryz.func159, Tryz.ntmps159
  go_wp2_with (go_at_call 181; (with_reducible refine C.out.mono ?_); rintro e W1 ⟨v, rfl, hv, b1⟩; have HB1 := hid (Bt HB.out b1); clear b1 hv)
  go_ret2
  exact ⟨_, by rw [HFX.out]; rfl, fun h => (by rw [HFX.out] at h; cases h), HB1.out⟩
theorem neg_sg (c : Bool) (v : Nat) : (c && decide (v ≠ 0)) = decide (sgn (c && decide (v ≠ 0)) v < 0) := by
 cases c
 ·simp [sgn]
 ·by_cases h0 : v = 0
  ·subst h0; rfl
  ·have : decide (v ≠ 0) = true := decide_eq_true h0
   rw [this]
   symm
   refine decide_eq_true ?_
   simp [sgn]
   omega
theorem ptxt_parse (t : ByteArray) (ht : t.size <= 5000) (hp : printedB t = true) (w : World) : Calls Tryz.prog 197 #[.string t, .int .i64 10] w fun e w' => ∃ neg ao n cap l, e = .returned (.tuple #[.agg #[.bool neg, .slice ao n cap], .int .i64 0]) /\ Row .u32 B32 w' ao n cap l /\ goodB neg l = true /\ sgn neg (val B32 l) = txZ t /\ neg = decide (txZ t < 0) /\ l = mg (txZ t).natAbs /\ n <= 40 /\ Below w.heap.size w w' := by
 refine (parse_any t 10 w (by unfold maxLen; omega)).mono ?_
 rintro e w' ⟨x, en, rfl, hb, h⟩
 unfold printedB at hp
 simp only [Bool.and_eq_true, decide_eq_true_eq] at hp
 obtain ⟨⟨p1, p2⟩, p3⟩ := hp
 rcases h with ⟨h1, _⟩ | ⟨_, h2, _⟩ | ⟨_, _, h⟩
 ·exact absurd ⟨by omega, by omega⟩ h1
 ·rw [p1] at h2; cases h2
 ·rcases ans_int h with ⟨a1, a2, ao, n, cap, l, rfl, R, g, hvl, hn⟩ | ⟨a1, _⟩
  ·subst a2
   have hv' : val B32 l = hv 10 (cutS (bs t)).2 := hvl
   refine ⟨_, ao, n, cap, l, rfl, R, g, ?_, ?_, ?_, hn, hb⟩
   ·unfold txZ; rw [hv']; rfl
   ·exact neg_sg _ _
   ·refine mg_is R.dg (goodB_tr g) ?_
    unfold txZ; rw [show ∀ (b : Bool) (v : Nat), (sgn b v).natAbs = v from fun b v => by cases b <;> simp [sgn]]; exact hv'
  ·exact absurd p2 (by unfold Big at a1; show ¬ hv 10 (cutS (bs t)).2 < B32 ^ 40; exact Nat.not_lt.2 a1)
set_option maxHeartbeats 4000000 in
theorem plen_int (t : ByteArray) (ht : t.size <= 5000) (hp : printedB t = true) (w : World) : Calls Tryz.prog 172 #[.string t] w fun e w' => e = .returned (.int .i64 (if fixB (txZ t) = true then 0 else 2 + (((mg (txZ t).natAbs).length : Nat) : Int))) /\ Below w.heap.size w w' := by
 have C := hid (ptxt_parse t ht hp w)
 have CF : Hid (∀ (neg : Bool) (ao : Option Addr) (n cap : Nat) (l : List Nat) (W : World), Row .u32 B32 W ao n cap l -> goodB neg l = true -> Calls Tryz.prog 159 #[.agg #[.bool neg, .slice ao n cap]] W (PFixPost (sgn neg (val B32 l)) W)) := fun neg ao n cap l W R g => pfixed_any neg ao n cap l W R g
 clear ht hp
 cases hf : fixB (txZ t)
 ·have HF := hid hf
  clear hf
  go_enter Tryz.func172, Tryz.ntmps172
  go_wp2_with (first
   | (go_at_call 197; (with_reducible refine C.out.mono ?_); rintro e W1 ⟨neg, ao, n, cap, l, rfl, R, g, hz, hng, hl, hn40, b1⟩; have hlen := R.len; have hfits := R.fits; have hmost := R.most; have HBX := hid (Ba W1 (.cells #[.bool neg, .slice ao n cap] 104)); have hx := blk_new W1 #[.bool neg, .slice ao n cap] 104; have HX := hid hx; have c0 : (W1.alloc (.cells #[.bool neg, .slice ao n cap] 104)).cell? ⟨W1.heap.size, 0, none⟩ = some (.bool neg) := blk_cell hx 0; have c1 : (W1.alloc (.cells #[.bool neg, .slice ao n cap] 104)).cell? ⟨W1.heap.size, 1, none⟩ = some (.slice ao n cap) := blk_cell hx 1; have C2 := hid (CF.out neg ao n cap l _ (R.below HBX.out) g); rw [hz] at C2; unfold PFixPost at C2; rw [HF.out] at C2; have HB1 := hid (Bt b1 HBX.out); have HL := hid (show n = (mg (txZ t).natAbs).length by rw [<- hl]; exact hlen.symm); clear b1 R g hz hng hl hlen hx)
   | (go_at_call 159; (with_reducible refine C2.out.mono ?_); rintro e W2 ⟨x, rfl, _, b2⟩; have HB2 := hid (Bt HB1.out b2); have d1 : W2.cell? ⟨W1.heap.size, 1, none⟩ = some (.slice ao n cap) := blk_cell ((b2.block W1.heap.size (by rw [size_alloc]; omega)).trans HX.out) 1; unfold maxLen at hmost; clear b2))
  go_ret
  refine ⟨?_, HB2.out⟩
  rw [<- HL.out]
  rfl
 ·have HF := hid hf
  clear hf
  go_enter Tryz.func172, Tryz.ntmps172
  go_wp2_with (first
   | (go_at_call 197; (with_reducible refine C.out.mono ?_); rintro e W1 ⟨neg, ao, n, cap, l, rfl, R, g, hz, hng, hl, hn40, b1⟩; have HBX := hid (Ba W1 (.cells #[.bool neg, .slice ao n cap] 104)); have hx := blk_new W1 #[.bool neg, .slice ao n cap] 104; have c0 : (W1.alloc (.cells #[.bool neg, .slice ao n cap] 104)).cell? ⟨W1.heap.size, 0, none⟩ = some (.bool neg) := blk_cell hx 0; have c1 : (W1.alloc (.cells #[.bool neg, .slice ao n cap] 104)).cell? ⟨W1.heap.size, 1, none⟩ = some (.slice ao n cap) := blk_cell hx 1; have C2 := hid (CF.out neg ao n cap l _ (R.below HBX.out) g); rw [hz] at C2; unfold PFixPost at C2; rw [HF.out] at C2; have HB1 := hid (Bt b1 HBX.out); clear b1 R g hz hng hl hx)
   | (go_at_call 159; (with_reducible refine C2.out.mono ?_); rintro e W2 ⟨x, rfl, _, b2⟩; have HB2 := hid (Bt HB1.out b2); clear b2))
  go_ret
  exact ⟨rfl, HB2.out⟩
end Go.Proofs.YticimejfjjmikaaGreatDoor
