/-
  Walks: Parse.
-/
import Derived.Test.YthiniidgklilnaaW12
set_option linter.unusedVariables false
set_option linter.unusedSimpArgs false
namespace Go.Proofs.Ythiniidgklilnaa
open Go.RowKit

def zeroInt : Value := .agg #[.bool false, .slice none 0 0]
/-- Is a text, its sign cut off, one digit or more of that radix? -/
def digitsB (radix : Int) (l : List Nat) : Bool := l.all (fun c => decide ((dgt c : Int) < radix)) && decide (l ≠ [])
/-- What Parse answers. -/
def ParsePost (w : World) (s : List Nat) (radix : Int) (e : Ending) (w' : World) : Prop :=
  ∃ x en, e = .returned (.tuple #[x, .int .i64 en]) ∧ Below w.heap.size w w' ∧
    ((¬ (2 ≤ radix ∧ radix ≤ 36) ∧ x = .agg #[.bool false, .slice none 0 0] ∧ en = 1) ∨
     ((2 ≤ radix ∧ radix ≤ 36) ∧ digitsB radix (cutS s).2 = false ∧ x = .agg #[.bool false, .slice none 0 0] ∧ en = 12) ∨
     ((2 ≤ radix ∧ radix ≤ 36) ∧ digitsB radix (cutS s).2 = true ∧ Ans w' x en (cutS s).1 (hv radix.toNat (cutS s).2)))

end Go.Proofs.Ythiniidgklilnaa
