/-
  Walks: isRadix, digitOf, mulSmall, cutSign, allDigits, rowOf.
-/
import Derived.Test.YthiniidgklilnaaW9
set_option linter.unusedVariables false
set_option linter.unusedSimpArgs false
namespace Go.Proofs.Ythiniidgklilnaa
open Go.RowKit

/-- What a byte says as a digit; 36: nothing. -/
def dgt (c : Nat) : Nat := if 48 ≤ c ∧ c ≤ 57 then c - 48 else if 97 ≤ c ∧ c ≤ 122 then c - 87 else if 65 ≤ c ∧ c ≤ 90 then c - 55 else 36
theorem dgt_le (c : Nat) : dgt c ≤ 36 := by unfold dgt; split <;> (try split) <;> (try split) <;> omega

/-- One step of a product with a small number. -/
theorem mulStep {B f vq P vt d x cc : Nat} (h : vq + P * cc = vt * f + d) : vq + P * ((x * f + cc) % B) + P * B * ((x * f + cc) / B) = (vt + P * x) * f + d := by
  have h1 := Nat.div_add_mod (x * f + cc) B
  have h2 : P * ((x * f + cc) % B) + P * B * ((x * f + cc) / B) = P * (x * f + cc) := by
    rw [Nat.mul_assoc, ← Nat.mul_add, Nat.add_comm ((x * f + cc) % B), h1]
  rw [Nat.add_assoc, h2, Nat.mul_add, Nat.add_mul, Nat.mul_assoc P x f]
  omega
theorem set_append_drop {q l : List Nat} {m x : Nat} (hq : q.length = m) (hm : m < l.length) : (q ++ l.drop m).set m x = q ++ [x] ++ l.drop (m + 1) := by
  rw [drop_cons l m hm, List.set_append, if_neg (by omega), hq, Nat.sub_self]
  simp

end Go.Proofs.Ythiniidgklilnaa
