/-
  Bits of words.
-/
import Derived.Test.YthgkonjglappjabX1
import Derived.Laws.BitsAllLaws
set_option linter.unusedVariables false
set_option linter.unusedSimpArgs false
namespace Go.Proofs.Ythgkonjglappjab
open Go.RowKit

theorem u64_nat {x : Int} (h : U64 x) : ∃ a : Nat, x = (a : Int) ∧ a < 18446744073709551616 := ⟨x.toNat, by unfold U64 at h; omega, by unfold U64 at h; omega⟩
theorem u64_or_nat (a b : Nat) (ha : a < 18446744073709551616) (hb : b < 18446744073709551616) : bits .or .u64 (a : Int) (b : Int) = ((a ||| b : Nat) : Int) := by
  have hx : a ||| b < 2 ^ 64 := Nat.or_lt_two_pow (by omega) (by omega)
  have h1 : (BitVec.ofInt 64 (a : Int)).toNat = a := by
    rw [BitVec.ofInt_natCast, BitVec.toNat_ofNat]; exact Nat.mod_eq_of_lt (by omega)
  have h2 : (BitVec.ofInt 64 (b : Int)).toNat = b := by
    rw [BitVec.ofInt_natCast, BitVec.toNat_ofNat]; exact Nat.mod_eq_of_lt (by omega)
  show IntKind.u64.wrap ((BitVec.ofInt 64 (a : Int) ||| BitVec.ofInt 64 (b : Int)).toNat : Int) = _
  rw [BitVec.toNat_or, h1, h2, IntKind.wrap_u64]
  omega
theorem u64_and_nat (a b : Nat) (ha : a < 18446744073709551616) (hb : b < 18446744073709551616) : bits .and .u64 (a : Int) (b : Int) = ((a &&& b : Nat) : Int) := by
  have hx : a &&& b ≤ a := Nat.and_le_left
  have h1 : (BitVec.ofInt 64 (a : Int)).toNat = a := by
    rw [BitVec.ofInt_natCast, BitVec.toNat_ofNat]; exact Nat.mod_eq_of_lt (by omega)
  have h2 : (BitVec.ofInt 64 (b : Int)).toNat = b := by
    rw [BitVec.ofInt_natCast, BitVec.toNat_ofNat]; exact Nat.mod_eq_of_lt (by omega)
  show IntKind.u64.wrap ((BitVec.ofInt 64 (a : Int) &&& BitVec.ofInt 64 (b : Int)).toNat : Int) = _
  rw [BitVec.toNat_and, h1, h2, IntKind.wrap_u64]
  omega
theorem nat_or_join (k a b : Nat) (hb : b < 2 ^ k) : a * 2 ^ k ||| b = a * 2 ^ k + b := by
  rw [Nat.mul_comm, Nat.two_pow_add_eq_or_of_lt hb]
/-- What is put below a number that is shifted up. -/
theorem u64_or (k : Nat) {x b : Int} (hx : U64 x) (hd : ∃ a : Nat, x = (a : Int) * 2 ^ k) (hb0 : 0 ≤ b) (hb : b < 2 ^ k) (hb2 : b < 18446744073709551616) : bits .or .u64 x b = x + b := by
  obtain ⟨a, rfl⟩ := hd
  obtain ⟨m, rfl⟩ : ∃ m : Nat, b = (m : Int) := ⟨b.toNat, by omega⟩
  have e : ((a : Int) * 2 ^ k) = ((a * 2 ^ k : Nat) : Int) := by push_cast; rfl
  rw [e] at hx ⊢
  unfold U64 at hx
  rw [u64_or_nat _ _ (by omega) (by omega), nat_or_join k a m (by exact_mod_cast hb)]
  push_cast; rfl
/-- The lowest bits. -/
theorem u64_and (k : Nat) {x : Int} (hx : U64 x) (hk : 2 ^ k ≤ 18446744073709551616) : bits .and .u64 x ((2 ^ k - 1 : Nat) : Int) = x % ((2 ^ k : Nat) : Int) := by
  obtain ⟨a, rfl, ha⟩ := u64_nat hx
  have h0 : 0 < 2 ^ k := Nat.two_pow_pos k
  rw [u64_and_nat a (2 ^ k - 1) ha (by omega), Nat.and_two_pow_sub_one_eq_mod]
  rfl
theorem and7 {x : Int} (hx : U64 x) : bits .and .u64 x 7 = x % 8 := u64_and 3 hx (by decide)
theorem and31w {x : Int} (hx : U64 x) : bits .and .u64 x 31 = x % 32 := u64_and 5 hx (by decide)
theorem and255w {x : Int} (hx : U64 x) : bits .and .u64 x 255 = x % 256 := u64_and 8 hx (by decide)
theorem or_low3 {x b : Int} (hx : U64 x) (hd : x % 8 = 0) (hb : 0 ≤ b ∧ b < 8) : bits .or .u64 x b = x + b :=
  u64_or 3 hx ⟨(x / 8).toNat, by unfold U64 at hx; omega⟩ hb.1 (by omega) (by omega)
theorem or_low8 {x b : Int} (hx : U64 x) (hd : x % 256 = 0) (hb : 0 ≤ b ∧ b < 256) : bits .or .u64 x b = x + b :=
  u64_or 8 hx ⟨(x / 256).toNat, by unfold U64 at hx; omega⟩ hb.1 (by omega) (by omega)
theorem or_low11 {x b : Int} (hx : U64 x) (hd : x % 2048 = 0) (hb : 0 ≤ b ∧ b < 2048) : bits .or .u64 x b = x + b :=
  u64_or 11 hx ⟨(x / 2048).toNat, by unfold U64 at hx; omega⟩ hb.1 (by omega) (by omega)
end Go.Proofs.Ythgkonjglappjab
