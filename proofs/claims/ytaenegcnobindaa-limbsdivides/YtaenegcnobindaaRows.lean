/-
  No cell of these rows narrows 'for every input' (looked for: loops, veiled, ifaces, maps, wideKeys, modest, calm, conditions, laid).
  DERIVED. THE GIVEN ROWS OF THIS SEAT. 6 by the template 'for every input the law returns true; each argument reads behind the call as it read before'; 0 by the template 'total and deterministic' (their statements: YtaenegcnobindaaTotals.lean).
  GIVEN WITH THE SEED: the statements are not yours to turn. If you find one false, say at which input.
  Laid BY PROGRAM, IN A SANDBOX (cutbox-rows.mjs): the forced cells as the released guide's own fill.sh prints them over the translation 894b009ba1cbc06d… (all of the seat's roots in one cut). By AI agents, Wed Nov 11 2026. No macro, syntax, notation, axiom, sorry.
-/
import Derived.Test.YtaenegcnobindaaChecked
import GoSem.Claim
import GoSem.ClaimJoined
import GoSem.ClaimMapViews
import Derived.JoinedTies
import Derived.KernelRfl
namespace Go.Proofs.Ytaenegcnobindaa
/- THE CELL 'sum', in the pinned program and in every row, IS THE sha256 OF THE DUMP (.gsa) THAT YtaenegcnobindaaProg.lean LOADS. Nothing in Lean hashes anything: it is a label: what it is worth is what the hold of that sum in a sandbox is worth. -/
noncomputable def Try.pinned : Pinned := { name := "ytaenegcnobindaa", sum := "894b009ba1cbc06d6b06af5d6741b6fac2f7bd20c2168ca0fc941449d472ad3a", checked := Try.checked }
namespace Rows
def none {H : Type} : Left H := { results := [], args := [] }

/-- 'athanorlaw01.LimbsGood': WHATEVER THE INPUT: true; the input reads as it did. -/
def limbsGoodSpec : ChangeSpec := { name := "limbsGood", fn := fun _ => fun
  | [d] => { results := [.lit (.bool true)], args := [d] }
  | _ => none }
def limbsGoodRow : OpenClaim := { program := "ytaenegcnobindaa", sum := "894b009ba1cbc06d6b06af5d6741b6fac2f7bd20c2168ca0fc941449d472ad3a", func := "athanor/athanorlaw01.LimbsGood", spec := "limbsGood", named := ["math/bits.overflowError"], apart := false }
def LimbsGoodSaid : Prop := limbsGoodRow.holds Try.pinned (OpenSpec.ofChange limbsGoodSpec)

/-- ITS FALSE NEIGHBOUR: 'it returns false'. Refute it at one input. -/
def limbsGoodWrong : ChangeSpec := { name := "limbsGood", fn := fun _ => fun
  | [d] => { results := [.lit (.bool false)], args := [d] }
  | _ => none }
def LimbsGoodWrongFalsely : Prop := limbsGoodRow.holds Try.pinned (OpenSpec.ofChange limbsGoodWrong)

/-- 'athanorlaw01.LimbsInts': WHATEVER THE INPUT: true; the input reads as it did. -/
def limbsIntsSpec : ChangeSpec := { name := "limbsInts", fn := fun _ => fun
  | [d1, d2] => { results := [.lit (.bool true)], args := [d1, d2] }
  | _ => none }
def limbsIntsRow : OpenClaim := { program := "ytaenegcnobindaa", sum := "894b009ba1cbc06d6b06af5d6741b6fac2f7bd20c2168ca0fc941449d472ad3a", func := "athanor/athanorlaw01.LimbsInts", spec := "limbsInts", named := ["math/bits.overflowError"], apart := false }
def LimbsIntsSaid : Prop := limbsIntsRow.holds Try.pinned (OpenSpec.ofChange limbsIntsSpec)

/-- ITS FALSE NEIGHBOUR: 'it returns false'. Refute it at one input. -/
def limbsIntsWrong : ChangeSpec := { name := "limbsInts", fn := fun _ => fun
  | [d1, d2] => { results := [.lit (.bool false)], args := [d1, d2] }
  | _ => none }
def LimbsIntsWrongFalsely : Prop := limbsIntsRow.holds Try.pinned (OpenSpec.ofChange limbsIntsWrong)

/-- 'athanorlaw01.LimbsOrders': WHATEVER THE INPUT: true; the input reads as it did. -/
def limbsOrdersSpec : ChangeSpec := { name := "limbsOrders", fn := fun _ => fun
  | [d1, d2] => { results := [.lit (.bool true)], args := [d1, d2] }
  | _ => none }
def limbsOrdersRow : OpenClaim := { program := "ytaenegcnobindaa", sum := "894b009ba1cbc06d6b06af5d6741b6fac2f7bd20c2168ca0fc941449d472ad3a", func := "athanor/athanorlaw01.LimbsOrders", spec := "limbsOrders", named := ["math/bits.overflowError"], apart := false }
def LimbsOrdersSaid : Prop := limbsOrdersRow.holds Try.pinned (OpenSpec.ofChange limbsOrdersSpec)

/-- ITS FALSE NEIGHBOUR: 'it returns false'. Refute it at one input. -/
def limbsOrdersWrong : ChangeSpec := { name := "limbsOrders", fn := fun _ => fun
  | [d1, d2] => { results := [.lit (.bool false)], args := [d1, d2] }
  | _ => none }
def LimbsOrdersWrongFalsely : Prop := limbsOrdersRow.holds Try.pinned (OpenSpec.ofChange limbsOrdersWrong)

/-- 'athanorlaw01.LimbsAdds': WHATEVER THE INPUT: true; the input reads as it did. -/
def limbsAddsSpec : ChangeSpec := { name := "limbsAdds", fn := fun _ => fun
  | [d1, d2] => { results := [.lit (.bool true)], args := [d1, d2] }
  | _ => none }
def limbsAddsRow : OpenClaim := { program := "ytaenegcnobindaa", sum := "894b009ba1cbc06d6b06af5d6741b6fac2f7bd20c2168ca0fc941449d472ad3a", func := "athanor/athanorlaw01.LimbsAdds", spec := "limbsAdds", named := ["math/bits.overflowError"], apart := false }
def LimbsAddsSaid : Prop := limbsAddsRow.holds Try.pinned (OpenSpec.ofChange limbsAddsSpec)

/-- ITS FALSE NEIGHBOUR: 'it returns false'. Refute it at one input. -/
def limbsAddsWrong : ChangeSpec := { name := "limbsAdds", fn := fun _ => fun
  | [d1, d2] => { results := [.lit (.bool false)], args := [d1, d2] }
  | _ => none }
def LimbsAddsWrongFalsely : Prop := limbsAddsRow.holds Try.pinned (OpenSpec.ofChange limbsAddsWrong)

/-- 'athanorlaw01.LimbsMuls': WHATEVER THE INPUT: true; the input reads as it did. -/
def limbsMulsSpec : ChangeSpec := { name := "limbsMuls", fn := fun _ => fun
  | [d1, d2] => { results := [.lit (.bool true)], args := [d1, d2] }
  | _ => none }
def limbsMulsRow : OpenClaim := { program := "ytaenegcnobindaa", sum := "894b009ba1cbc06d6b06af5d6741b6fac2f7bd20c2168ca0fc941449d472ad3a", func := "athanor/athanorlaw01.LimbsMuls", spec := "limbsMuls", named := ["math/bits.overflowError"], apart := false }
def LimbsMulsSaid : Prop := limbsMulsRow.holds Try.pinned (OpenSpec.ofChange limbsMulsSpec)

/-- ITS FALSE NEIGHBOUR: 'it returns false'. Refute it at one input. -/
def limbsMulsWrong : ChangeSpec := { name := "limbsMuls", fn := fun _ => fun
  | [d1, d2] => { results := [.lit (.bool false)], args := [d1, d2] }
  | _ => none }
def LimbsMulsWrongFalsely : Prop := limbsMulsRow.holds Try.pinned (OpenSpec.ofChange limbsMulsWrong)

/-- 'athanorlaw01.LimbsDivides': WHATEVER THE INPUT: true; the input reads as it did. -/
def limbsDividesSpec : ChangeSpec := { name := "limbsDivides", fn := fun _ => fun
  | [d1, d2] => { results := [.lit (.bool true)], args := [d1, d2] }
  | _ => none }
def limbsDividesRow : OpenClaim := { program := "ytaenegcnobindaa", sum := "894b009ba1cbc06d6b06af5d6741b6fac2f7bd20c2168ca0fc941449d472ad3a", func := "athanor/athanorlaw01.LimbsDivides", spec := "limbsDivides", named := ["math/bits.overflowError"], apart := false }
def LimbsDividesSaid : Prop := limbsDividesRow.holds Try.pinned (OpenSpec.ofChange limbsDividesSpec)

/-- ITS FALSE NEIGHBOUR: 'it returns false'. Refute it at one input. -/
def limbsDividesWrong : ChangeSpec := { name := "limbsDivides", fn := fun _ => fun
  | [d1, d2] => { results := [.lit (.bool false)], args := [d1, d2] }
  | _ => none }
def LimbsDividesWrongFalsely : Prop := limbsDividesRow.holds Try.pinned (OpenSpec.ofChange limbsDividesWrong)

/- THE SECOND FORM. 'bulk': how many values and letters a reading holds, each counted each time it is reached (what is shared counts as often as it is met; a slice's spare places count too). A statement '..UptoSaid' is the law's where the arguments, and the package variables that the reading takes, are together of bulk at most 1048576: NARROWER than '..Said'. Prove '..Said' where nothing that the law and all that it calls make is longer than what came in: it says more and counts as full. Else prove '..UptoSaid'. A law counts once. -/
mutual
def uptoBulk {H : Type} : DataW H → Nat
  | .lit (.string bytes) => bytes.length + 1
  | .lit _ => 1
  | .nil => 1
  | .ptr d => uptoBulk d + 1
  | .slice elems spare => uptoBulkAll elems + uptoBulkAll spare + 1
  | .agg parts => uptoBulkAll parts + 1
  | .iface _ d => uptoBulk d + 1
  | .map entries => uptoBulkEntries entries + 1
  | .held _ => 1
def uptoBulkAll {H : Type} : List (DataW H) → Nat
  | [] => 0
  | d :: r => uptoBulk d + uptoBulkAll r
def uptoBulkEntries {H : Type} : List (Lit × DataW H) → Nat
  | [] => 0
  | x :: r => uptoBulkEntry x + uptoBulkEntries r
def uptoBulkEntry {H : Type} : Lit × DataW H → Nat
  | (.string bytes, d) => bytes.length + uptoBulk d + 1
  | (_, d) => uptoBulk d + 1
 end
def uptoSmall : (H : Type) → List (DataW H) → Bool := fun _ ds => decide (uptoBulkAll ds ≤ 1048576)
def OpenSpec.upto (s : _root_.Go.ChangeSpec) : _root_.Go.OpenSpec := { _root_.Go.OpenSpec.ofChange s with cond := some uptoSmall }

/-- 'athanorlaw01.LimbsGood', WHERE WHAT IT READS IS OF BULK AT MOST 1048576: true; the input reads as it did. -/
def limbsGoodUptoRow : OpenClaim := { program := "ytaenegcnobindaa", sum := "894b009ba1cbc06d6b06af5d6741b6fac2f7bd20c2168ca0fc941449d472ad3a", func := "athanor/athanorlaw01.LimbsGood", spec := "limbsGood", named := ["math/bits.overflowError"], apart := false, narrowed := true }
def LimbsGoodUptoSaid : Prop := limbsGoodUptoRow.holds Try.pinned (OpenSpec.upto limbsGoodSpec)

/-- 'athanorlaw01.LimbsInts', WHERE WHAT IT READS IS OF BULK AT MOST 1048576: true; the input reads as it did. -/
def limbsIntsUptoRow : OpenClaim := { program := "ytaenegcnobindaa", sum := "894b009ba1cbc06d6b06af5d6741b6fac2f7bd20c2168ca0fc941449d472ad3a", func := "athanor/athanorlaw01.LimbsInts", spec := "limbsInts", named := ["math/bits.overflowError"], apart := false, narrowed := true }
def LimbsIntsUptoSaid : Prop := limbsIntsUptoRow.holds Try.pinned (OpenSpec.upto limbsIntsSpec)

/-- 'athanorlaw01.LimbsOrders', WHERE WHAT IT READS IS OF BULK AT MOST 1048576: true; the input reads as it did. -/
def limbsOrdersUptoRow : OpenClaim := { program := "ytaenegcnobindaa", sum := "894b009ba1cbc06d6b06af5d6741b6fac2f7bd20c2168ca0fc941449d472ad3a", func := "athanor/athanorlaw01.LimbsOrders", spec := "limbsOrders", named := ["math/bits.overflowError"], apart := false, narrowed := true }
def LimbsOrdersUptoSaid : Prop := limbsOrdersUptoRow.holds Try.pinned (OpenSpec.upto limbsOrdersSpec)

/-- 'athanorlaw01.LimbsAdds', WHERE WHAT IT READS IS OF BULK AT MOST 1048576: true; the input reads as it did. -/
def limbsAddsUptoRow : OpenClaim := { program := "ytaenegcnobindaa", sum := "894b009ba1cbc06d6b06af5d6741b6fac2f7bd20c2168ca0fc941449d472ad3a", func := "athanor/athanorlaw01.LimbsAdds", spec := "limbsAdds", named := ["math/bits.overflowError"], apart := false, narrowed := true }
def LimbsAddsUptoSaid : Prop := limbsAddsUptoRow.holds Try.pinned (OpenSpec.upto limbsAddsSpec)

/-- 'athanorlaw01.LimbsMuls', WHERE WHAT IT READS IS OF BULK AT MOST 1048576: true; the input reads as it did. -/
def limbsMulsUptoRow : OpenClaim := { program := "ytaenegcnobindaa", sum := "894b009ba1cbc06d6b06af5d6741b6fac2f7bd20c2168ca0fc941449d472ad3a", func := "athanor/athanorlaw01.LimbsMuls", spec := "limbsMuls", named := ["math/bits.overflowError"], apart := false, narrowed := true }
def LimbsMulsUptoSaid : Prop := limbsMulsUptoRow.holds Try.pinned (OpenSpec.upto limbsMulsSpec)

/-- 'athanorlaw01.LimbsDivides', WHERE WHAT IT READS IS OF BULK AT MOST 1048576: true; the input reads as it did. -/
def limbsDividesUptoRow : OpenClaim := { program := "ytaenegcnobindaa", sum := "894b009ba1cbc06d6b06af5d6741b6fac2f7bd20c2168ca0fc941449d472ad3a", func := "athanor/athanorlaw01.LimbsDivides", spec := "limbsDivides", named := ["math/bits.overflowError"], apart := false, narrowed := true }
def LimbsDividesUptoSaid : Prop := limbsDividesUptoRow.holds Try.pinned (OpenSpec.upto limbsDividesSpec)

end Rows
end Go.Proofs.Ytaenegcnobindaa
