import Derived.Test.YtadfihnffboelaaGreatDoorSG1
import Derived.Test.YtadfihnffboelaaGreatDoorK1
import Derived.Test.YtadfihnffboelaaGreatDoorC4
import Derived.Test.YtadfihnffboelaaGreatDoorG13
import Derived.Test.YtadfihnffboelaaGreatDoorW40
set_option linter.unusedVariables false
set_option linter.unusedSimpArgs false
set_option maxRecDepth 100000
namespace Go.Proofs.YtadfihnffboelaaGreatDoor
open Go.RowKit
structure RInv (w Wl : World) (gt : Nat) (tG : TypeId) (vN vR : Value) (l : List Int) (wr : World) : Prop where
 out : wr.heap[gt]? = some (.cells #[vN, vR] tG (0, 0))
 own : wr.ownsRow Wl.heap.size 3 1 vR l.length (cz l)
 keep : ∀ b, b < Wl.heap.size -> b ≠ gt -> wr.heap[b]? = Wl.heap[b]?
 size : Wl.heap.size <= wr.heap.size
 bel : Below w.heap.size w wr
end Go.Proofs.YtadfihnffboelaaGreatDoor
