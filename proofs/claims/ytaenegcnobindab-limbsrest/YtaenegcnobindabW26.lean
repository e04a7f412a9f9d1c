/-
  Walks: Add32, Sub32.
-/
import Derived.Test.YtaenegcnobindabW23
import Derived.Laws.BitsAllLaws
set_option linter.unusedVariables false
set_option linter.unusedSimpArgs false
namespace Go.Proofs.Ytaenegcnobindab
open Go.RowKit

set_option maxHeartbeats 400000 in
theorem add32_any (x y c : Nat) (hx : x < B32) (hy : y < B32) (hc : c ≤ 1) (w : World) :
    Calls Try.prog 60 #[.int .u32 x, .int .u32 y, .int .u32 c] w fun e w' => e = .returned (.tuple #[.int .u32 ((x + y + c) % B32 : Nat), .int .u32 ((x + y + c) / B32 : Nat)]) ∧ w' = w := by
  unfold B32 at *
  go_enter Try.func60, Try.ntmps60
  go_wp2
  go_ret2
  refine ⟨ret_two ?_ ?_, rfl⟩
  · exact congrArg (Value.int .u32) (by omega)
  · exact congrArg (Value.int .u32) (by omega)

theorem top31 (v : Nat) (h : v < 4294967296) : v.testBit 31 = decide (2147483648 ≤ v) := by
  rw [Nat.testBit_eq_decide_div_mod_eq, decide_eq_decide]
  omega
theorem div31 (v : Nat) (h : v < 4294967296) : v / 2147483648 = (v.testBit 31).toNat := by
  rw [top31 v h]
  by_cases h' : 2147483648 ≤ v
  · simp [h']; omega
  · simp [h']; omega

theorem xlt {a b : Nat} (ha : a < 4294967296) (hb : b < 4294967296) : a ^^^ b < 4294967296 := Nat.xor_lt_two_pow (n := 32) ha hb
theorem alt {a b : Nat} (hb : b < 4294967296) : a &&& b < 4294967296 := Nat.and_lt_two_pow (n := 32) a hb
theorem olt {a b : Nat} (ha : a < 4294967296) (hb : b < 4294967296) : a ||| b < 4294967296 := Nat.or_lt_two_pow (n := 32) ha hb

theorem borrow_bit (x y d c : Nat) (hx : x < 4294967296) (hy : y < 4294967296) (hc : c ≤ 1) (hd : d = (x + 4294967296 - y - c) % 4294967296) :
    (((4294967295 ^^^ x) &&& y) ||| ((4294967295 ^^^ (x ^^^ y)) &&& d)) / 2147483648 = if x < y + c then 1 else 0 := by
  have hd2 : d < 4294967296 := by omega
  rw [div31 _ (olt (alt hy) (alt hd2))]
  rw [Nat.testBit_or, Nat.testBit_and, Nat.testBit_and, Nat.testBit_xor, Nat.testBit_xor, Nat.testBit_xor, top31 x hx, top31 y hy, top31 d hd2, top31 4294967295 (by decide)]
  by_cases h1 : 2147483648 ≤ x <;> by_cases h2 : 2147483648 ≤ y <;> by_cases h3 : 2147483648 ≤ d <;> by_cases h4 : x < y + c <;> simp [h1, h2, h3, h4] <;> omega

theorem borrow_int (x y c : Nat) (hx : x < 4294967296) (hy : y < 4294967296) (hc : c ≤ 1) :
    bits .or .u32 (bits .and .u32 (bits .xor .u32 IntKind.u32.max x) y) (bits .and .u32 (bits .xor .u32 IntKind.u32.max (bits .xor .u32 x y)) (((x : Int) - y - c) % 4294967296)) / 2147483648 = ((if x < y + c then 1 else 0 : Nat) : Int) := by
  obtain ⟨d, hd⟩ : ∃ d, d = (x + 4294967296 - y - c) % 4294967296 := ⟨_, rfl⟩
  have hd2 : d < 4294967296 := by omega
  have e1 : ((x : Int) - y - c) % 4294967296 = (d : Int) := by omega
  rw [e1, show IntKind.u32.max = ((4294967295 : Nat) : Int) from rfl, u32_xor_nat 4294967295 x (by decide) hx, u32_xor_nat x y hx hy, u32_xor_nat _ _ (by decide) (xlt hx hy), u32_and_nat _ _ (xlt (by decide) hx) hy,
    u32_and_nat _ _ (xlt (by decide) (xlt hx hy)) hd2, u32_or_nat _ _ (alt hy) (alt hd2), ← borrow_bit x y d c hx hy hc hd]
  omega

set_option maxHeartbeats 400000 in
theorem sub32_any (x y c : Nat) (hx : x < B32) (hy : y < B32) (hc : c ≤ 1) (w : World) :
    Calls Try.prog 50 #[.int .u32 x, .int .u32 y, .int .u32 c] w fun e w' => e = .returned (.tuple #[.int .u32 ((x + B32 - y - c) % B32 : Nat), .int .u32 (if x < y + c then 1 else 0 : Nat)]) ∧ w' = w := by
  unfold B32 at *
  have HB := hid (borrow_int x y c hx hy hc)
  obtain ⟨b, hb⟩ : ∃ b : Nat, b = if x < y + c then 1 else 0 := ⟨_, rfl⟩
  rw [← hb] at HB
  rw [← hb]
  obtain ⟨d, hd⟩ : ∃ d : Nat, d = (x + 4294967296 - y - c) % 4294967296 := ⟨_, rfl⟩
  have e1 : ((x : Int) - y - c) % 4294967296 = (d : Int) := by omega
  rw [← hd]
  have HE := hid e1
  clear hb hd e1
  go_enter Try.func50, Try.ntmps50
  go_wp2
  all_goals go_ret2
  all_goals refine ⟨ret_two ?_ ?_, rfl⟩
  all_goals first | exact congrArg (Value.int .u32) HE.out | exact congrArg (Value.int .u32) HB.out | trace_state

end Go.Proofs.Ytaenegcnobindab
