/-
  No cell of these rows narrows 'for every input' (looked for: loops, veiled, ifaces, maps, wideKeys, modest, calm, conditions, laid).
  DERIVED. THE GIVEN ROWS OF THIS SEAT. 4 by the template 'for every input the law returns true; each argument reads behind the call as it read before'; 0 by the template 'total and deterministic' (their statements: YtdekkieajffblaaTotals.lean).
  GIVEN WITH THE SEED: the statements are not yours to turn. If you find one false, say at which input.
  Laid BY PROGRAM, IN A SANDBOX (cutbox-rows.mjs): the forced cells as the released guide's own fill.sh prints them over the translation fb374a97c10dd228… (all of the seat's roots in one cut). By AI agents, Wed Nov 11 2026. No macro, syntax, notation, axiom, sorry.
-/
import Derived.Test.YtdekkieajffblaaChecked
import GoSem.Claim
import GoSem.ClaimJoined
import GoSem.ClaimMapViews
import Derived.JoinedTies
import Derived.KernelRfl
namespace Go.Proofs.Ytdekkieajffblaa
/- THE CELL 'sum', in the pinned program and in every row, IS THE sha256 OF THE DUMP (.gsa) THAT YtdekkieajffblaaProg.lean LOADS. Nothing in Lean hashes anything: it is a label: what it is worth is what the hold of that sum in a sandbox is worth. -/
noncomputable def Try.pinned : Pinned := { name := "ytdekkieajffblaa", sum := "fb374a97c10dd22885dea905fd939256d5f107669152f667028852484de2298c", checked := Try.checked }
namespace Rows
def none {H : Type} : Left H := { results := [], args := [] }

/-- 'athanorlaw11.ArithReckons': WHATEVER THE INPUT: true; the input reads as it did. -/
def arithReckonsSpec : ChangeSpec := { name := "arithReckons", fn := fun _ => fun
  | [d1, d2, d3] => { results := [.lit (.bool true)], args := [d1, d2, d3] }
  | _ => none }
def arithReckonsRow : OpenClaim := { program := "ytdekkieajffblaa", sum := "fb374a97c10dd22885dea905fd939256d5f107669152f667028852484de2298c", func := "athanor/athanorlaw11.ArithReckons", spec := "arithReckons", unfollowed := true, recurses := true, named := ["math/bits.overflowError"], apart := false }
def ArithReckonsSaid : Prop := arithReckonsRow.holds Try.pinned (OpenSpec.ofChange arithReckonsSpec)

/-- ITS FALSE NEIGHBOUR: 'it returns false'. Refute it at one input. -/
def arithReckonsWrong : ChangeSpec := { name := "arithReckons", fn := fun _ => fun
  | [d1, d2, d3] => { results := [.lit (.bool false)], args := [d1, d2, d3] }
  | _ => none }
def ArithReckonsWrongFalsely : Prop := arithReckonsRow.holds Try.pinned (OpenSpec.ofChange arithReckonsWrong)

/-- 'athanorlaw11.ArithLays': WHATEVER THE INPUT: true; the input reads as it did. -/
def arithLaysSpec : ChangeSpec := { name := "arithLays", fn := fun _ => fun
  | [d] => { results := [.lit (.bool true)], args := [d] }
  | _ => none }
def arithLaysRow : OpenClaim := { program := "ytdekkieajffblaa", sum := "fb374a97c10dd22885dea905fd939256d5f107669152f667028852484de2298c", func := "athanor/athanorlaw11.ArithLays", spec := "arithLays", unfollowed := true, recurses := true, named := ["math/bits.overflowError"], apart := false }
def ArithLaysSaid : Prop := arithLaysRow.holds Try.pinned (OpenSpec.ofChange arithLaysSpec)

/-- ITS FALSE NEIGHBOUR: 'it returns false'. Refute it at one input. -/
def arithLaysWrong : ChangeSpec := { name := "arithLays", fn := fun _ => fun
  | [d] => { results := [.lit (.bool false)], args := [d] }
  | _ => none }
def ArithLaysWrongFalsely : Prop := arithLaysRow.holds Try.pinned (OpenSpec.ofChange arithLaysWrong)

/-- 'athanorlaw11.ArithParts': WHATEVER THE INPUT: true; the input reads as it did. -/
def arithPartsSpec : ChangeSpec := { name := "arithParts", fn := fun _ => fun
  | [d1, d2] => { results := [.lit (.bool true)], args := [d1, d2] }
  | _ => none }
def arithPartsRow : OpenClaim := { program := "ytdekkieajffblaa", sum := "fb374a97c10dd22885dea905fd939256d5f107669152f667028852484de2298c", func := "athanor/athanorlaw11.ArithParts", spec := "arithParts", unfollowed := true, recurses := true, named := ["math/bits.overflowError"], apart := false }
def ArithPartsSaid : Prop := arithPartsRow.holds Try.pinned (OpenSpec.ofChange arithPartsSpec)

/-- ITS FALSE NEIGHBOUR: 'it returns false'. Refute it at one input. -/
def arithPartsWrong : ChangeSpec := { name := "arithParts", fn := fun _ => fun
  | [d1, d2] => { results := [.lit (.bool false)], args := [d1, d2] }
  | _ => none }
def ArithPartsWrongFalsely : Prop := arithPartsRow.holds Try.pinned (OpenSpec.ofChange arithPartsWrong)

/-- 'athanorlaw11.ArithFull': WHATEVER THE INPUT: true; the input reads as it did. -/
def arithFullSpec : ChangeSpec := { name := "arithFull", fn := fun _ => fun
  | [d1, d2, d3] => { results := [.lit (.bool true)], args := [d1, d2, d3] }
  | _ => none }
def arithFullRow : OpenClaim := { program := "ytdekkieajffblaa", sum := "fb374a97c10dd22885dea905fd939256d5f107669152f667028852484de2298c", func := "athanor/athanorlaw11.ArithFull", spec := "arithFull", unfollowed := true, recurses := true, named := ["math/bits.overflowError"], apart := false }
def ArithFullSaid : Prop := arithFullRow.holds Try.pinned (OpenSpec.ofChange arithFullSpec)

/-- ITS FALSE NEIGHBOUR: 'it returns false'. Refute it at one input. -/
def arithFullWrong : ChangeSpec := { name := "arithFull", fn := fun _ => fun
  | [d1, d2, d3] => { results := [.lit (.bool false)], args := [d1, d2, d3] }
  | _ => none }
def ArithFullWrongFalsely : Prop := arithFullRow.holds Try.pinned (OpenSpec.ofChange arithFullWrong)

/- THE SECOND FORM. 'bulk': how many values and letters a reading holds, each counted each time it is reached (what is shared counts as often as it is met; a slice's spare places count too). A statement '..UptoSaid' is the law's where the arguments, and the package variables that the reading takes, are together of bulk at most 1048576: NARROWER than '..Said'. Prove '..Said' where nothing that the law and all that it calls make is longer than what came in: it says more and counts as full. Else prove '..UptoSaid'. A law counts once. -/
mutual
def uptoBulk {H : Type} : DataW H → Nat
  | .lit (.string bytes) => bytes.length + 1
  | .lit _ => 1
  | .nil => 1
  | .ptr d => uptoBulk d + 1
  | .slice elems spare => uptoBulkAll elems + uptoBulkAll spare + 1
  | .agg parts => uptoBulkAll parts + 1
  | .iface _ d => uptoBulk d + 1
  | .map entries => uptoBulkEntries entries + 1
  | .held _ => 1
def uptoBulkAll {H : Type} : List (DataW H) → Nat
  | [] => 0
  | d :: r => uptoBulk d + uptoBulkAll r
def uptoBulkEntries {H : Type} : List (Lit × DataW H) → Nat
  | [] => 0
  | x :: r => uptoBulkEntry x + uptoBulkEntries r
def uptoBulkEntry {H : Type} : Lit × DataW H → Nat
  | (.string bytes, d) => bytes.length + uptoBulk d + 1
  | (_, d) => uptoBulk d + 1
 end
def uptoSmall : (H : Type) → List (DataW H) → Bool := fun _ ds => decide (uptoBulkAll ds ≤ 1048576)
def OpenSpec.upto (s : _root_.Go.ChangeSpec) : _root_.Go.OpenSpec := { _root_.Go.OpenSpec.ofChange s with cond := some uptoSmall }

/-- 'athanorlaw11.ArithReckons', WHERE WHAT IT READS IS OF BULK AT MOST 1048576: true; the input reads as it did. -/
def arithReckonsUptoRow : OpenClaim := { program := "ytdekkieajffblaa", sum := "fb374a97c10dd22885dea905fd939256d5f107669152f667028852484de2298c", func := "athanor/athanorlaw11.ArithReckons", spec := "arithReckons", unfollowed := true, recurses := true, named := ["math/bits.overflowError"], apart := false, narrowed := true }
def ArithReckonsUptoSaid : Prop := arithReckonsUptoRow.holds Try.pinned (OpenSpec.upto arithReckonsSpec)

/-- 'athanorlaw11.ArithLays', WHERE WHAT IT READS IS OF BULK AT MOST 1048576: true; the input reads as it did. -/
def arithLaysUptoRow : OpenClaim := { program := "ytdekkieajffblaa", sum := "fb374a97c10dd22885dea905fd939256d5f107669152f667028852484de2298c", func := "athanor/athanorlaw11.ArithLays", spec := "arithLays", unfollowed := true, recurses := true, named := ["math/bits.overflowError"], apart := false, narrowed := true }
def ArithLaysUptoSaid : Prop := arithLaysUptoRow.holds Try.pinned (OpenSpec.upto arithLaysSpec)

/-- 'athanorlaw11.ArithParts', WHERE WHAT IT READS IS OF BULK AT MOST 1048576: true; the input reads as it did. -/
def arithPartsUptoRow : OpenClaim := { program := "ytdekkieajffblaa", sum := "fb374a97c10dd22885dea905fd939256d5f107669152f667028852484de2298c", func := "athanor/athanorlaw11.ArithParts", spec := "arithParts", unfollowed := true, recurses := true, named := ["math/bits.overflowError"], apart := false, narrowed := true }
def ArithPartsUptoSaid : Prop := arithPartsUptoRow.holds Try.pinned (OpenSpec.upto arithPartsSpec)

/-- 'athanorlaw11.ArithFull', WHERE WHAT IT READS IS OF BULK AT MOST 1048576: true; the input reads as it did. -/
def arithFullUptoRow : OpenClaim := { program := "ytdekkieajffblaa", sum := "fb374a97c10dd22885dea905fd939256d5f107669152f667028852484de2298c", func := "athanor/athanorlaw11.ArithFull", spec := "arithFull", unfollowed := true, recurses := true, named := ["math/bits.overflowError"], apart := false, narrowed := true }
def ArithFullUptoSaid : Prop := arithFullUptoRow.holds Try.pinned (OpenSpec.upto arithFullSpec)

end Rows
end Go.Proofs.Ytdekkieajffblaa
