/-
  Walks, of the document's answer: whole, From.
-/
import Derived.Test.YthiniidgklilnaaW6
import Derived.Test.YthiniidgklilnaaMath2
set_option linter.unusedVariables false
set_option linter.unusedSimpArgs false
namespace Go.Proofs.Ythiniidgklilnaa
open Go.RowKit

theorem blk_on {w w2 : World} {o : Obj} {p : Nat} {c : Array Value} {t : TypeId} (h : w.heap[p]? = some (.cells c t (0, 0))) (hb : Below (p + 1) (w.alloc o) w2) : w2.heap[p]? = some (.cells c t (0, 0)) :=
  (hb.block p (by omega)).trans ((Below.heap_alloc w o p (Array.getElem?_eq_some_iff.1 h).1).trans h)

end Go.Proofs.Ythiniidgklilnaa
