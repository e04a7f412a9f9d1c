/-
  Walks, of the document's answer: right, Word, Of.
-/
import Derived.Test.YthgkonjglappjabX0
import Derived.Test.YthgkonjglappjabProg
set_option linter.unusedVariables false
set_option linter.unusedSimpArgs false
set_option maxRecDepth 100000
namespace Go.Proofs.Ythgkonjglappjab
open Go.RowKit

/-- A number of 64 bits with a sign. -/
def Z64 (n : Int) : Prop := -9223372036854775808 ≤ n ∧ n ≤ 9223372036854775807
def SVal (k n t : Int) : Value := .agg #[.int .i64 k, .int .i64 n, .int .i64 t]

/-- Three cells are stored. -/
theorem store3 {w : World} {g : Nat} {a b c v1 v2 v3 : Value} {t : TypeId} (h : w.heap[g]? = some (.cells #[a, b, c] t (0, 0))) : (((w.setCell ⟨g, 0, none⟩ v1).setCell ⟨g, 1, none⟩ v2).setCell ⟨g, 2, none⟩ v3).heap[g]? = some (.cells #[v1, v2, v3] t (0, 0)) := by
  have h1 := blk_set (i := 0) h v1
  have h2 := blk_set (i := 1) h1 v2
  have h3 := blk_set (i := 2) h2 v3
  rw [h3]; rfl
theorem store3_below {n : Nat} {w0 w : World} {g : Nat} {v1 v2 v3 : Value} (h : Below n w0 w) (hg : n ≤ g) : Below n w0 (((w.setCell ⟨g, 0, none⟩ v1).setCell ⟨g, 1, none⟩ v2).setCell ⟨g, 2, none⟩ v3) :=
  ((h.setCell (p := ⟨g, 0, none⟩) hg _).setCell (p := ⟨g, 1, none⟩) hg _).setCell (p := ⟨g, 2, none⟩) hg _
end Go.Proofs.Ythgkonjglappjab
