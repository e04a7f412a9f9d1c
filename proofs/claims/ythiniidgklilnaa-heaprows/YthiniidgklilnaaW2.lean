/-
  Walks: whole, compareRows, Clone, divSmall.
-/
import Derived.Test.YthiniidgklilnaaW1
import Derived.BigQuiet
import Derived.Deep.QuietTactic
set_option linter.unusedVariables false
set_option linter.unusedSimpArgs false
namespace Go.Proofs.Ythiniidgklilnaa
open Go.RowKit

theorem cmpN_len {a b : List Nat} (ha : Dg B32 a) (hb : Dg B32 b) (ta : Tr a) (tb : Tr b) (h : a.length ≠ b.length) : cmpN a.length b.length = cmpN (val B32 a) (val B32 b) := by
  have h0 : 0 < B32 := by decide
  rcases Nat.lt_or_ge a.length b.length with h' | h'
  · have := lt_of_length h0 ha tb h'
    simp [cmpN, h', this]
  · have := lt_of_length h0 hb ta (by omega : b.length < a.length)
    unfold cmpN
    rw [if_neg (by omega), if_neg (by omega), if_neg (by omega), if_neg (by omega)]
theorem cmpN_digit {B : Nat} {a b : List Nat} {k : Nat} (ha : Dg B a) (hb : Dg B b) (hka : k < a.length) (hkb : k < b.length) (ht : a.drop (k + 1) = b.drop (k + 1)) (h : a.getD k 0 ≠ b.getD k 0) : cmpN (a.getD k 0) (b.getD k 0) = cmpN (val B a) (val B b) := by
  rcases Nat.lt_or_ge (a.getD k 0) (b.getD k 0) with h' | h'
  · have := lt_of_digit ha hka hkb ht h'
    unfold cmpN
    rw [if_pos h', if_pos this]
  · have := lt_of_digit hb hkb hka ht.symm (by omega)
    unfold cmpN
    rw [if_neg (by omega), if_neg (by omega), if_neg (by omega), if_neg (by omega)]
theorem ret_i64 {a b : Int} (h : a = b) : Ending.returned (.int .i64 a) = .returned (.int .i64 b) := by rw [h]

end Go.Proofs.Ythiniidgklilnaa
