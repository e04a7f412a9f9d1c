/-
  Walks, of the document's answer: From.
-/
import Derived.Test.YthiniidgklilnaaW7
set_option linter.unusedVariables false
set_option linter.unusedSimpArgs false
namespace Go.Proofs.Ythiniidgklilnaa
open Go.RowKit

def b8 (d : Nat) : List Nat := [d % 256, d / 256 % 256, d / 65536 % 256, d / 16777216 % 256, d / 4294967296 % 256, d / 1099511627776 % 256, d / 281474976710656 % 256, d / 72057594037927936 % 256]
theorem b8_val (d : Nat) (h : d < 18446744073709551616) : val 256 (b8 d) = d := by
  simp only [b8, val]; omega
theorem b8_dg (d : Nat) : Dg 256 (b8 d) := by
  intro x hx
  simp only [b8, List.mem_cons, List.not_mem_nil, or_false] at hx
  omega
theorem not_big_64 (d : Nat) (h : d < 18446744073709551616) : ¬ Big d := by
  unfold Big
  have h1 : B32 ^ 2 ≤ B32 ^ 40 := Nat.pow_le_pow_right (by decide) (by decide)
  have h2 : B32 ^ 2 = 18446744073709551616 := by decide
  omega

end Go.Proofs.Ythiniidgklilnaa
