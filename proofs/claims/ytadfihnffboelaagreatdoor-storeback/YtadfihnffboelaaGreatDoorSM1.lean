/-
  Walk: StoreMoves (over drafts).
-/
import Derived.Test.YtadfihnffboelaaGreatDoorSR
import Derived.Test.YtadfihnffboelaaGreatDoorSG10
import Derived.Test.YtadfihnffboelaaGreatDoorC2
set_option linter.unusedVariables false
set_option linter.unusedSimpArgs false
set_option maxRecDepth 100000
namespace Go.Proofs.YtadfihnffboelaaGreatDoor
open Go.RowKit

/-- A heap and names into which some graphs were put, behind the world W0. -/
structure Pf (W0 : World) (v vn : Value) (N : Int) (k : Nat) (os : List Ob) (nm : List ByteArray) (F : Nat → Prop) (w : World) : Prop where
  pn : PN W0.heap.size v vn N os nm F w
  nms : NmOk k nm
  bel : Below W0.heap.size W0 w
theorem Pf.on {W0 w w' : World} {v vn : Value} {N : Int} {k : Nat} {os : List Ob} {nm : List ByteArray} {F : Nat → Prop} (h : Pf W0 v vn N k os nm F w) (hb : Below w.heap.size w w') : Pf W0 v vn N k os nm F w' := ⟨h.pn.on hb, h.nms, Bt h.bel hb⟩
end Go.Proofs.YtadfihnffboelaaGreatDoor
