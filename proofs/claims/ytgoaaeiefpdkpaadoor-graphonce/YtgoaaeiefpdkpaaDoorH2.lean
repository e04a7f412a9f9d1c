/-
  Walk: graph.Same.
-/
import Derived.Test.YtgoaaeiefpdkpaaDoorH1
import Derived.Test.YtgoaaeiefpdkpaaDoorG20
set_option linter.unusedVariables false
set_option linter.unusedSimpArgs false
set_option maxRecDepth 100000
namespace Go.Proofs.YtgoaaeiefpdkpaaDoor
open Go.RowKit

/-- A graph that lies there and is small enough to be walked. -/
structure GOk (w : World) (an : Option Addr) (nn cn : Nat) (ar : Option Addr) (nr cr : Nat) (ns : List Nd) (rs : List Int) : Prop where
  is : GIs w an nn cn ar nr cr ns rs
  small : smallG ns
  kids : ∀ d ∈ ns, d.kids.length ≤ 100
  nn_le : nn ≤ 1000
  nr_le : nr ≤ 1000
theorem GOk.below {w w' : World} {an ar : Option Addr} {nn cn nr cr : Nat} {ns : List Nd} {rs : List Int} (h : GOk w an nn cn ar nr cr ns rs) (hb : Below w.heap.size w w') : GOk w' an nn cn ar nr cr ns rs := ⟨h.is.below hb, h.small, h.kids, h.nn_le, h.nr_le⟩
def canonN (ns : List Nd) (rs : List Int) : List Nd × List Int := canonG ns rs 100001
theorem canonN_any {an ar : Option Addr} {nn cn nr cr : Nat} {ns : List Nd} {rs : List Int} {w : World} (G : GOk w an nn cn ar nr cr ns rs) (hT : Tabs w) :
    Calls Tryd.prog 10 #[.agg #[.slice an nn cn, .slice ar nr cr]] w fun e w' => ∃ an' nn' cn' ar' nr' cr', e = .returned (GVal an' nn' cn' ar' nr' cr') ∧ GIs w' an' nn' cn' ar' nr' cr' (canonN ns rs).1 (canonN ns rs).2 ∧ Below w.heap.size w w' :=
  canon_any an ar nn cn nr cr ns rs w G.is G.small G.kids G.nn_le G.nr_le hT 100001 (by have := G.nn_le; omega) (by omega)
def sameGB (ns : List Nd) (rs : List Int) (ns' : List Nd) (rs' : List Int) : Bool := goodG ns rs && goodG ns' rs' && decide ((canonN ns rs).1 = (canonN ns' rs').1) && decide ((canonN ns rs).2 = (canonN ns' rs').2)

end Go.Proofs.YtgoaaeiefpdkpaaDoor
