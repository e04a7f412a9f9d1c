/-
  No cell of these rows narrows 'for every input' (looked for: loops, veiled, ifaces, maps, wideKeys, modest, calm, conditions, laid).
  DERIVED. THE GIVEN ROWS OF THIS SEAT. 6 by the template 'for every input the law returns true; each argument reads behind the call as it read before'; 0 by the template 'total and deterministic' (their statements: YthgkonjglappjaaTotals.lean).
  GIVEN WITH THE SEED: the statements are not yours to turn. If you find one false, say at which input.
  Laid BY PROGRAM, IN A SANDBOX (cutbox-rows.mjs): the forced cells as the released guide's own fill.sh prints them over the translation 2080dab1cb71d43c… (all of the seat's roots in one cut). By AI agents, Wed Nov 11 2026. No macro, syntax, notation, axiom, sorry.
-/
import Derived.Test.YthgkonjglappjaaChecked
import GoSem.Claim
import GoSem.ClaimJoined
import GoSem.ClaimMapViews
import Derived.JoinedTies
import Derived.KernelRfl
namespace Go.Proofs.Ythgkonjglappjaa
/- THE CELL 'sum', in the pinned program and in every row, IS THE sha256 OF THE DUMP (.gsa) THAT YthgkonjglappjaaProg.lean LOADS. Nothing in Lean hashes anything: it is a label: what it is worth is what the hold of that sum in a sandbox is worth. -/
noncomputable def Try.pinned : Pinned := { name := "ythgkonjglappjaa", sum := "2080dab1cb71d43cc54c24fcdaff9d9b60308f18998ff0e709420af4fc938907", checked := Try.checked }
namespace Rows
def none {H : Type} : Left H := { results := [], args := [] }

/-- 'athanorlaw08.GcCollects': WHATEVER THE INPUT: true; the input reads as it did. -/
def gcCollectsSpec : ChangeSpec := { name := "gcCollects", fn := fun _ => fun
  | [d1, d2] => { results := [.lit (.bool true)], args := [d1, d2] }
  | _ => none }
def gcCollectsRow : OpenClaim := { program := "ythgkonjglappjaa", sum := "2080dab1cb71d43cc54c24fcdaff9d9b60308f18998ff0e709420af4fc938907", func := "athanor/athanorlaw08.GcCollects", spec := "gcCollects", unfollowed := true, recurses := true, apart := false }
def GcCollectsSaid : Prop := gcCollectsRow.holds Try.pinned (OpenSpec.ofChange gcCollectsSpec)

/-- ITS FALSE NEIGHBOUR: 'it returns false'. Refute it at one input. -/
def gcCollectsWrong : ChangeSpec := { name := "gcCollects", fn := fun _ => fun
  | [d1, d2] => { results := [.lit (.bool false)], args := [d1, d2] }
  | _ => none }
def GcCollectsWrongFalsely : Prop := gcCollectsRow.holds Try.pinned (OpenSpec.ofChange gcCollectsWrong)

/-- 'athanorlaw08.GcLive': WHATEVER THE INPUT: true; the input reads as it did. -/
def gcLiveSpec : ChangeSpec := { name := "gcLive", fn := fun _ => fun
  | [d1, d2] => { results := [.lit (.bool true)], args := [d1, d2] }
  | _ => none }
def gcLiveRow : OpenClaim := { program := "ythgkonjglappjaa", sum := "2080dab1cb71d43cc54c24fcdaff9d9b60308f18998ff0e709420af4fc938907", func := "athanor/athanorlaw08.GcLive", spec := "gcLive", unfollowed := true, recurses := true, apart := false }
def GcLiveSaid : Prop := gcLiveRow.holds Try.pinned (OpenSpec.ofChange gcLiveSpec)

/-- ITS FALSE NEIGHBOUR: 'it returns false'. Refute it at one input. -/
def gcLiveWrong : ChangeSpec := { name := "gcLive", fn := fun _ => fun
  | [d1, d2] => { results := [.lit (.bool false)], args := [d1, d2] }
  | _ => none }
def GcLiveWrongFalsely : Prop := gcLiveRow.holds Try.pinned (OpenSpec.ofChange gcLiveWrong)

/-- 'athanorlaw08.GcKeeps': WHATEVER THE INPUT: true; the input reads as it did. -/
def gcKeepsSpec : ChangeSpec := { name := "gcKeeps", fn := fun _ => fun
  | [d1, d2] => { results := [.lit (.bool true)], args := [d1, d2] }
  | _ => none }
def gcKeepsRow : OpenClaim := { program := "ythgkonjglappjaa", sum := "2080dab1cb71d43cc54c24fcdaff9d9b60308f18998ff0e709420af4fc938907", func := "athanor/athanorlaw08.GcKeeps", spec := "gcKeeps", unfollowed := true, recurses := true, apart := false }
def GcKeepsSaid : Prop := gcKeepsRow.holds Try.pinned (OpenSpec.ofChange gcKeepsSpec)

/-- ITS FALSE NEIGHBOUR: 'it returns false'. Refute it at one input. -/
def gcKeepsWrong : ChangeSpec := { name := "gcKeeps", fn := fun _ => fun
  | [d1, d2] => { results := [.lit (.bool false)], args := [d1, d2] }
  | _ => none }
def GcKeepsWrongFalsely : Prop := gcKeepsRow.holds Try.pinned (OpenSpec.ofChange gcKeepsWrong)

/-- 'athanorlaw08.GcTwice': WHATEVER THE INPUT: true; the input reads as it did. -/
def gcTwiceSpec : ChangeSpec := { name := "gcTwice", fn := fun _ => fun
  | [d1, d2] => { results := [.lit (.bool true)], args := [d1, d2] }
  | _ => none }
def gcTwiceRow : OpenClaim := { program := "ythgkonjglappjaa", sum := "2080dab1cb71d43cc54c24fcdaff9d9b60308f18998ff0e709420af4fc938907", func := "athanor/athanorlaw08.GcTwice", spec := "gcTwice", unfollowed := true, recurses := true, apart := false }
def GcTwiceSaid : Prop := gcTwiceRow.holds Try.pinned (OpenSpec.ofChange gcTwiceSpec)

/-- ITS FALSE NEIGHBOUR: 'it returns false'. Refute it at one input. -/
def gcTwiceWrong : ChangeSpec := { name := "gcTwice", fn := fun _ => fun
  | [d1, d2] => { results := [.lit (.bool false)], args := [d1, d2] }
  | _ => none }
def GcTwiceWrongFalsely : Prop := gcTwiceRow.holds Try.pinned (OpenSpec.ofChange gcTwiceWrong)

/-- 'athanorlaw08.GcOrder': WHATEVER THE INPUT: true; the input reads as it did. -/
def gcOrderSpec : ChangeSpec := { name := "gcOrder", fn := fun _ => fun
  | [d1, d2] => { results := [.lit (.bool true)], args := [d1, d2] }
  | _ => none }
def gcOrderRow : OpenClaim := { program := "ythgkonjglappjaa", sum := "2080dab1cb71d43cc54c24fcdaff9d9b60308f18998ff0e709420af4fc938907", func := "athanor/athanorlaw08.GcOrder", spec := "gcOrder", unfollowed := true, recurses := true, apart := false }
def GcOrderSaid : Prop := gcOrderRow.holds Try.pinned (OpenSpec.ofChange gcOrderSpec)

/-- ITS FALSE NEIGHBOUR: 'it returns false'. Refute it at one input. -/
def gcOrderWrong : ChangeSpec := { name := "gcOrder", fn := fun _ => fun
  | [d1, d2] => { results := [.lit (.bool false)], args := [d1, d2] }
  | _ => none }
def GcOrderWrongFalsely : Prop := gcOrderRow.holds Try.pinned (OpenSpec.ofChange gcOrderWrong)

/-- 'athanorlaw08.GcAll': WHATEVER THE INPUT: true; the input reads as it did. -/
def gcAllSpec : ChangeSpec := { name := "gcAll", fn := fun _ => fun
  | [d] => { results := [.lit (.bool true)], args := [d] }
  | _ => none }
def gcAllRow : OpenClaim := { program := "ythgkonjglappjaa", sum := "2080dab1cb71d43cc54c24fcdaff9d9b60308f18998ff0e709420af4fc938907", func := "athanor/athanorlaw08.GcAll", spec := "gcAll", unfollowed := true, recurses := true, apart := false }
def GcAllSaid : Prop := gcAllRow.holds Try.pinned (OpenSpec.ofChange gcAllSpec)

/-- ITS FALSE NEIGHBOUR: 'it returns false'. Refute it at one input. -/
def gcAllWrong : ChangeSpec := { name := "gcAll", fn := fun _ => fun
  | [d] => { results := [.lit (.bool false)], args := [d] }
  | _ => none }
def GcAllWrongFalsely : Prop := gcAllRow.holds Try.pinned (OpenSpec.ofChange gcAllWrong)

/- THE SECOND FORM. 'bulk': how many values and letters a reading holds, each counted each time it is reached (what is shared counts as often as it is met; a slice's spare places count too). A statement '..UptoSaid' is the law's where the arguments, and the package variables that the reading takes, are together of bulk at most 1048576: NARROWER than '..Said'. Prove '..Said' where nothing that the law and all that it calls make is longer than what came in: it says more and counts as full. Else prove '..UptoSaid'. A law counts once. -/
mutual
def uptoBulk {H : Type} : DataW H → Nat
  | .lit (.string bytes) => bytes.length + 1
  | .lit _ => 1
  | .nil => 1
  | .ptr d => uptoBulk d + 1
  | .slice elems spare => uptoBulkAll elems + uptoBulkAll spare + 1
  | .agg parts => uptoBulkAll parts + 1
  | .iface _ d => uptoBulk d + 1
  | .map entries => uptoBulkEntries entries + 1
  | .held _ => 1
def uptoBulkAll {H : Type} : List (DataW H) → Nat
  | [] => 0
  | d :: r => uptoBulk d + uptoBulkAll r
def uptoBulkEntries {H : Type} : List (Lit × DataW H) → Nat
  | [] => 0
  | x :: r => uptoBulkEntry x + uptoBulkEntries r
def uptoBulkEntry {H : Type} : Lit × DataW H → Nat
  | (.string bytes, d) => bytes.length + uptoBulk d + 1
  | (_, d) => uptoBulk d + 1
 end
def uptoSmall : (H : Type) → List (DataW H) → Bool := fun _ ds => decide (uptoBulkAll ds ≤ 1048576)
def OpenSpec.upto (s : _root_.Go.ChangeSpec) : _root_.Go.OpenSpec := { _root_.Go.OpenSpec.ofChange s with cond := some uptoSmall }

/-- 'athanorlaw08.GcCollects', WHERE WHAT IT READS IS OF BULK AT MOST 1048576: true; the input reads as it did. -/
def gcCollectsUptoRow : OpenClaim := { program := "ythgkonjglappjaa", sum := "2080dab1cb71d43cc54c24fcdaff9d9b60308f18998ff0e709420af4fc938907", func := "athanor/athanorlaw08.GcCollects", spec := "gcCollects", unfollowed := true, recurses := true, apart := false, narrowed := true }
def GcCollectsUptoSaid : Prop := gcCollectsUptoRow.holds Try.pinned (OpenSpec.upto gcCollectsSpec)

/-- 'athanorlaw08.GcLive', WHERE WHAT IT READS IS OF BULK AT MOST 1048576: true; the input reads as it did. -/
def gcLiveUptoRow : OpenClaim := { program := "ythgkonjglappjaa", sum := "2080dab1cb71d43cc54c24fcdaff9d9b60308f18998ff0e709420af4fc938907", func := "athanor/athanorlaw08.GcLive", spec := "gcLive", unfollowed := true, recurses := true, apart := false, narrowed := true }
def GcLiveUptoSaid : Prop := gcLiveUptoRow.holds Try.pinned (OpenSpec.upto gcLiveSpec)

/-- 'athanorlaw08.GcKeeps', WHERE WHAT IT READS IS OF BULK AT MOST 1048576: true; the input reads as it did. -/
def gcKeepsUptoRow : OpenClaim := { program := "ythgkonjglappjaa", sum := "2080dab1cb71d43cc54c24fcdaff9d9b60308f18998ff0e709420af4fc938907", func := "athanor/athanorlaw08.GcKeeps", spec := "gcKeeps", unfollowed := true, recurses := true, apart := false, narrowed := true }
def GcKeepsUptoSaid : Prop := gcKeepsUptoRow.holds Try.pinned (OpenSpec.upto gcKeepsSpec)

/-- 'athanorlaw08.GcTwice', WHERE WHAT IT READS IS OF BULK AT MOST 1048576: true; the input reads as it did. -/
def gcTwiceUptoRow : OpenClaim := { program := "ythgkonjglappjaa", sum := "2080dab1cb71d43cc54c24fcdaff9d9b60308f18998ff0e709420af4fc938907", func := "athanor/athanorlaw08.GcTwice", spec := "gcTwice", unfollowed := true, recurses := true, apart := false, narrowed := true }
def GcTwiceUptoSaid : Prop := gcTwiceUptoRow.holds Try.pinned (OpenSpec.upto gcTwiceSpec)

/-- 'athanorlaw08.GcOrder', WHERE WHAT IT READS IS OF BULK AT MOST 1048576: true; the input reads as it did. -/
def gcOrderUptoRow : OpenClaim := { program := "ythgkonjglappjaa", sum := "2080dab1cb71d43cc54c24fcdaff9d9b60308f18998ff0e709420af4fc938907", func := "athanor/athanorlaw08.GcOrder", spec := "gcOrder", unfollowed := true, recurses := true, apart := false, narrowed := true }
def GcOrderUptoSaid : Prop := gcOrderUptoRow.holds Try.pinned (OpenSpec.upto gcOrderSpec)

/-- 'athanorlaw08.GcAll', WHERE WHAT IT READS IS OF BULK AT MOST 1048576: true; the input reads as it did. -/
def gcAllUptoRow : OpenClaim := { program := "ythgkonjglappjaa", sum := "2080dab1cb71d43cc54c24fcdaff9d9b60308f18998ff0e709420af4fc938907", func := "athanor/athanorlaw08.GcAll", spec := "gcAll", unfollowed := true, recurses := true, apart := false, narrowed := true }
def GcAllUptoSaid : Prop := gcAllUptoRow.holds Try.pinned (OpenSpec.upto gcAllSpec)

end Rows
end Go.Proofs.Ythgkonjglappjaa
