/-
  No cell of these rows narrows 'for every input' (looked for: loops, veiled, ifaces, maps, wideKeys, modest, calm, conditions, laid).
  DERIVED. THE GIVEN ROWS OF THIS SEAT. 5 by the template 'for every input the law returns true; each argument reads behind the call as it read before'; 0 by the template 'total and deterministic' (their statements: YtaenegcnobindabTotals.lean).
  GIVEN WITH THE SEED: the statements are not yours to turn. If you find one false, say at which input.
  Laid BY PROGRAM, IN A SANDBOX (cutbox-rows.mjs): the forced cells as the released guide's own fill.sh prints them over the translation c738a4c101a1fc56… (all of the seat's roots in one cut). By AI agents, Wed Nov 11 2026. No macro, syntax, notation, axiom, sorry.
-/
import Derived.Test.YtaenegcnobindabChecked
import GoSem.Claim
import GoSem.ClaimJoined
import GoSem.ClaimMapViews
import Derived.JoinedTies
import Derived.KernelRfl
namespace Go.Proofs.Ytaenegcnobindab
/- THE CELL 'sum', in the pinned program and in every row, IS THE sha256 OF THE DUMP (.gsa) THAT YtaenegcnobindabProg.lean LOADS. Nothing in Lean hashes anything: it is a label: what it is worth is what the hold of that sum in a sandbox is worth. -/
noncomputable def Try.pinned : Pinned := { name := "ytaenegcnobindab", sum := "c738a4c101a1fc563cb5ceb91d5e5f43b7f6b0721f37cd15685b5c124958e944", checked := Try.checked }
namespace Rows
def none {H : Type} : Left H := { results := [], args := [] }

/-- 'athanorlaw01.LimbsRest': WHATEVER THE INPUT: true; the input reads as it did. -/
def limbsRestSpec : ChangeSpec := { name := "limbsRest", fn := fun _ => fun
  | [d1, d2] => { results := [.lit (.bool true)], args := [d1, d2] }
  | _ => none }
def limbsRestRow : OpenClaim := { program := "ytaenegcnobindab", sum := "c738a4c101a1fc563cb5ceb91d5e5f43b7f6b0721f37cd15685b5c124958e944", func := "athanor/athanorlaw01.LimbsRest", spec := "limbsRest", named := ["math/bits.overflowError"], apart := false }
def LimbsRestSaid : Prop := limbsRestRow.holds Try.pinned (OpenSpec.ofChange limbsRestSpec)

/-- ITS FALSE NEIGHBOUR: 'it returns false'. Refute it at one input. -/
def limbsRestWrong : ChangeSpec := { name := "limbsRest", fn := fun _ => fun
  | [d1, d2] => { results := [.lit (.bool false)], args := [d1, d2] }
  | _ => none }
def LimbsRestWrongFalsely : Prop := limbsRestRow.holds Try.pinned (OpenSpec.ofChange limbsRestWrong)

/-- 'athanorlaw01.LimbsRing': WHATEVER THE INPUT: true; the input reads as it did. -/
def limbsRingSpec : ChangeSpec := { name := "limbsRing", fn := fun _ => fun
  | [d1, d2, d3] => { results := [.lit (.bool true)], args := [d1, d2, d3] }
  | _ => none }
def limbsRingRow : OpenClaim := { program := "ytaenegcnobindab", sum := "c738a4c101a1fc563cb5ceb91d5e5f43b7f6b0721f37cd15685b5c124958e944", func := "athanor/athanorlaw01.LimbsRing", spec := "limbsRing", named := ["math/bits.overflowError"], apart := false }
def LimbsRingSaid : Prop := limbsRingRow.holds Try.pinned (OpenSpec.ofChange limbsRingSpec)

/-- ITS FALSE NEIGHBOUR: 'it returns false'. Refute it at one input. -/
def limbsRingWrong : ChangeSpec := { name := "limbsRing", fn := fun _ => fun
  | [d1, d2, d3] => { results := [.lit (.bool false)], args := [d1, d2, d3] }
  | _ => none }
def LimbsRingWrongFalsely : Prop := limbsRingRow.holds Try.pinned (OpenSpec.ofChange limbsRingWrong)

/-- 'athanorlaw01.LimbsPrints': WHATEVER THE INPUT: true; the input reads as it did. -/
def limbsPrintsSpec : ChangeSpec := { name := "limbsPrints", fn := fun _ => fun
  | [d1, d2] => { results := [.lit (.bool true)], args := [d1, d2] }
  | _ => none }
def limbsPrintsRow : OpenClaim := { program := "ytaenegcnobindab", sum := "c738a4c101a1fc563cb5ceb91d5e5f43b7f6b0721f37cd15685b5c124958e944", func := "athanor/athanorlaw01.LimbsPrints", spec := "limbsPrints", named := ["math/bits.overflowError"], apart := false }
def LimbsPrintsSaid : Prop := limbsPrintsRow.holds Try.pinned (OpenSpec.ofChange limbsPrintsSpec)

/-- ITS FALSE NEIGHBOUR: 'it returns false'. Refute it at one input. -/
def limbsPrintsWrong : ChangeSpec := { name := "limbsPrints", fn := fun _ => fun
  | [d1, d2] => { results := [.lit (.bool false)], args := [d1, d2] }
  | _ => none }
def LimbsPrintsWrongFalsely : Prop := limbsPrintsRow.holds Try.pinned (OpenSpec.ofChange limbsPrintsWrong)

/-- 'athanorlaw01.LimbsParses': WHATEVER THE INPUT: true; the input reads as it did. -/
def limbsParsesSpec : ChangeSpec := { name := "limbsParses", fn := fun _ => fun
  | [d1, d2] => { results := [.lit (.bool true)], args := [d1, d2] }
  | _ => none }
def limbsParsesRow : OpenClaim := { program := "ytaenegcnobindab", sum := "c738a4c101a1fc563cb5ceb91d5e5f43b7f6b0721f37cd15685b5c124958e944", func := "athanor/athanorlaw01.LimbsParses", spec := "limbsParses", named := ["math/bits.overflowError"], apart := false }
def LimbsParsesSaid : Prop := limbsParsesRow.holds Try.pinned (OpenSpec.ofChange limbsParsesSpec)

/-- ITS FALSE NEIGHBOUR: 'it returns false'. Refute it at one input. -/
def limbsParsesWrong : ChangeSpec := { name := "limbsParses", fn := fun _ => fun
  | [d1, d2] => { results := [.lit (.bool false)], args := [d1, d2] }
  | _ => none }
def LimbsParsesWrongFalsely : Prop := limbsParsesRow.holds Try.pinned (OpenSpec.ofChange limbsParsesWrong)

/-- 'athanorlaw01.LimbsBack': WHATEVER THE INPUT: true; the input reads as it did. -/
def limbsBackSpec : ChangeSpec := { name := "limbsBack", fn := fun _ => fun
  | [d1, d2, d3] => { results := [.lit (.bool true)], args := [d1, d2, d3] }
  | _ => none }
def limbsBackRow : OpenClaim := { program := "ytaenegcnobindab", sum := "c738a4c101a1fc563cb5ceb91d5e5f43b7f6b0721f37cd15685b5c124958e944", func := "athanor/athanorlaw01.LimbsBack", spec := "limbsBack", named := ["math/bits.overflowError"], apart := false }
def LimbsBackSaid : Prop := limbsBackRow.holds Try.pinned (OpenSpec.ofChange limbsBackSpec)

/-- ITS FALSE NEIGHBOUR: 'it returns false'. Refute it at one input. -/
def limbsBackWrong : ChangeSpec := { name := "limbsBack", fn := fun _ => fun
  | [d1, d2, d3] => { results := [.lit (.bool false)], args := [d1, d2, d3] }
  | _ => none }
def LimbsBackWrongFalsely : Prop := limbsBackRow.holds Try.pinned (OpenSpec.ofChange limbsBackWrong)

/- THE SECOND FORM. 'bulk': how many values and letters a reading holds, each counted each time it is reached (what is shared counts as often as it is met; a slice's spare places count too). A statement '..UptoSaid' is the law's where the arguments, and the package variables that the reading takes, are together of bulk at most 1048576: NARROWER than '..Said'. Prove '..Said' where nothing that the law and all that it calls make is longer than what came in: it says more and counts as full. Else prove '..UptoSaid'. A law counts once. -/
mutual
def uptoBulk {H : Type} : DataW H → Nat
  | .lit (.string bytes) => bytes.length + 1
  | .lit _ => 1
  | .nil => 1
  | .ptr d => uptoBulk d + 1
  | .slice elems spare => uptoBulkAll elems + uptoBulkAll spare + 1
  | .agg parts => uptoBulkAll parts + 1
  | .iface _ d => uptoBulk d + 1
  | .map entries => uptoBulkEntries entries + 1
  | .held _ => 1
def uptoBulkAll {H : Type} : List (DataW H) → Nat
  | [] => 0
  | d :: r => uptoBulk d + uptoBulkAll r
def uptoBulkEntries {H : Type} : List (Lit × DataW H) → Nat
  | [] => 0
  | x :: r => uptoBulkEntry x + uptoBulkEntries r
def uptoBulkEntry {H : Type} : Lit × DataW H → Nat
  | (.string bytes, d) => bytes.length + uptoBulk d + 1
  | (_, d) => uptoBulk d + 1
 end
def uptoSmall : (H : Type) → List (DataW H) → Bool := fun _ ds => decide (uptoBulkAll ds ≤ 1048576)
def OpenSpec.upto (s : _root_.Go.ChangeSpec) : _root_.Go.OpenSpec := { _root_.Go.OpenSpec.ofChange s with cond := some uptoSmall }

/-- 'athanorlaw01.LimbsRest', WHERE WHAT IT READS IS OF BULK AT MOST 1048576: true; the input reads as it did. -/
def limbsRestUptoRow : OpenClaim := { program := "ytaenegcnobindab", sum := "c738a4c101a1fc563cb5ceb91d5e5f43b7f6b0721f37cd15685b5c124958e944", func := "athanor/athanorlaw01.LimbsRest", spec := "limbsRest", named := ["math/bits.overflowError"], apart := false, narrowed := true }
def LimbsRestUptoSaid : Prop := limbsRestUptoRow.holds Try.pinned (OpenSpec.upto limbsRestSpec)

/-- 'athanorlaw01.LimbsRing', WHERE WHAT IT READS IS OF BULK AT MOST 1048576: true; the input reads as it did. -/
def limbsRingUptoRow : OpenClaim := { program := "ytaenegcnobindab", sum := "c738a4c101a1fc563cb5ceb91d5e5f43b7f6b0721f37cd15685b5c124958e944", func := "athanor/athanorlaw01.LimbsRing", spec := "limbsRing", named := ["math/bits.overflowError"], apart := false, narrowed := true }
def LimbsRingUptoSaid : Prop := limbsRingUptoRow.holds Try.pinned (OpenSpec.upto limbsRingSpec)

/-- 'athanorlaw01.LimbsPrints', WHERE WHAT IT READS IS OF BULK AT MOST 1048576: true; the input reads as it did. -/
def limbsPrintsUptoRow : OpenClaim := { program := "ytaenegcnobindab", sum := "c738a4c101a1fc563cb5ceb91d5e5f43b7f6b0721f37cd15685b5c124958e944", func := "athanor/athanorlaw01.LimbsPrints", spec := "limbsPrints", named := ["math/bits.overflowError"], apart := false, narrowed := true }
def LimbsPrintsUptoSaid : Prop := limbsPrintsUptoRow.holds Try.pinned (OpenSpec.upto limbsPrintsSpec)

/-- 'athanorlaw01.LimbsParses', WHERE WHAT IT READS IS OF BULK AT MOST 1048576: true; the input reads as it did. -/
def limbsParsesUptoRow : OpenClaim := { program := "ytaenegcnobindab", sum := "c738a4c101a1fc563cb5ceb91d5e5f43b7f6b0721f37cd15685b5c124958e944", func := "athanor/athanorlaw01.LimbsParses", spec := "limbsParses", named := ["math/bits.overflowError"], apart := false, narrowed := true }
def LimbsParsesUptoSaid : Prop := limbsParsesUptoRow.holds Try.pinned (OpenSpec.upto limbsParsesSpec)

/-- 'athanorlaw01.LimbsBack', WHERE WHAT IT READS IS OF BULK AT MOST 1048576: true; the input reads as it did. -/
def limbsBackUptoRow : OpenClaim := { program := "ytaenegcnobindab", sum := "c738a4c101a1fc563cb5ceb91d5e5f43b7f6b0721f37cd15685b5c124958e944", func := "athanor/athanorlaw01.LimbsBack", spec := "limbsBack", named := ["math/bits.overflowError"], apart := false, narrowed := true }
def LimbsBackUptoSaid : Prop := limbsBackUptoRow.holds Try.pinned (OpenSpec.upto limbsBackSpec)

end Rows
end Go.Proofs.Ytaenegcnobindab
