import Derived.Test.YticimejfjjmikaaGreatDoorSG1
import Derived.Test.YticimejfjjmikaaGreatDoorC4
import Derived.Test.YticimejfjjmikaaGreatDoorW20
import Derived.Test.YticimejfjjmikaaGreatDoorV3
import Derived.Test.YticimejfjjmikaaGreatDoorG13
import Derived.Test.YticimejfjjmikaaGreatDoorQ1
set_option linter.unusedVariables false
set_option linter.unusedSimpArgs false
set_option maxRecDepth 100000
namespace Go.Proofs.YticimejfjjmikaaGreatDoor
open Go.RowKit
structure RInv (w Wl : World) (gt : Nat) (tG : TypeId) (vN vR : Value) (l : List Int) (wr : World) : Prop where
 out : wr.heap[gt]? = some (.cells #[vN,vR] tG (0,0))
 own : wr.ownsRow Wl.heap.size 3 1 vR l.length (cz l)
 keep : ∀ b,b < Wl.heap.size -> b ≠ gt -> wr.heap[b]? = Wl.heap[b]?
 size : Wl.heap.size <= wr.heap.size
 bel : Below w.heap.size w wr
end Go.Proofs.YticimejfjjmikaaGreatDoor
