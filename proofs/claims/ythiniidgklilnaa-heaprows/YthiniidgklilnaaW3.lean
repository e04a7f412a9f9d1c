/-
  Walks: Div32, divSmall.
-/
import Derived.Test.YthiniidgklilnaaW2
import Derived.Test.YthiniidgklilnaaOnto
set_option linter.unusedVariables false
set_option linter.unusedSimpArgs false
namespace Go.Proofs.Ythiniidgklilnaa
open Go.RowKit

theorem or_join (hi lo : Nat) (h1 : hi < 4294967296) (h2 : lo < 4294967296) : bits .or .u64 ((hi : Int) * 4294967296) (lo : Int) = ((hi * 4294967296 + lo : Nat) : Int) := by
  rw [show ((hi : Int) * 4294967296) = ((hi * 4294967296 : Nat) : Int) by omega, u64_or_nat _ _ (by omega) (by omega), nat_join 32 _ _ (by omega) (by omega)]
theorem div_fits (z v : Nat) (h : z / v < 4294967296) : IntKind.u64.wrap ((z : Int).tdiv v) % 4294967296 = ((z / v : Nat) : Int) := by
  rw [← Int.ofNat_tdiv, IntKind.wrap_u64]; generalize z / v = q at *; omega
theorem mod_fits (z v : Nat) (h : z % v < 4294967296) : (z : Int).tmod v % 4294967296 = ((z % v : Nat) : Int) := by
  rw [← Int.ofNat_tmod]; generalize z % v = q at *; omega
theorem ret_two {a b c d : Value} (h1 : a = c) (h2 : b = d) : Ending.returned (.tuple #[a, b]) = .returned (.tuple #[c, d]) := by rw [h1, h2]

/-- One step of a division by a small number, from the top. -/
theorem divStep {B r v q : Nat} (hv : 0 < v) (m : Nat) (L : List Nat) (hm : m < L.length) (h1 : val B (L.drop (m + 1)) = q * v + r) (hr : r < v) :
    val B (L.drop m) = ((r * B + L.getD m 0) / v + B * q) * v + (r * B + L.getD m 0) % v := by
  rw [val_drop_succ B L m hm, h1]
  have := Nat.div_add_mod (r * B + L.getD m 0) v
  rw [Nat.add_mul, Nat.mul_add, Nat.mul_assoc B q v, Nat.mul_comm B r]
  rw [Nat.mul_comm v] at this
  omega

theorem set_take_append {l q : List Nat} {m x : Nat} (hm : m < l.length) : (l.take (m + 1) ++ q).set m x = l.take m ++ (x :: q) := by
  rw [take_snoc l m hm, List.append_assoc, List.set_append, if_neg (by rw [List.length_take]; omega), List.length_take, Nat.min_eq_left (by omega)]
  simp

end Go.Proofs.Ythiniidgklilnaa
