/-
  The table of bits.Len32.
-/
import Derived.Test.YtaenegcnobindabW46
set_option linter.unusedVariables false
set_option linter.unusedSimpArgs false
namespace Go.Proofs.Ytaenegcnobindab
open Go.RowKit

/-- How many bits a byte has, as the library's table tells. -/
def lenTab : ByteArray := ⟨(([0, 1, 2, 2] ++ List.replicate 4 3 ++ List.replicate 8 4 ++ List.replicate 16 5 ++ List.replicate 32 6 ++ List.replicate 64 7 ++ List.replicate 128 8) : List UInt8).toArray⟩
theorem lenTab_get : ∀ d : Fin 256, 0 < d.1 → ∀ h : d.1 < lenTab.size, 2 ^ ((lenTab[d.1]'h).toNat - 1) ≤ d.1 ∧ d.1 < 2 ^ (lenTab[d.1]'h).toNat ∧ 0 < (lenTab[d.1]'h).toNat ∧ (lenTab[d.1]'h).toNat ≤ 8 := by decide +kernel

end Go.Proofs.Ytaenegcnobindab
