/-
  DERIVED. GIVEN WITH THE SEED: THE CARDS: each row of YtaenegcnobindabDoorRows.lean that lists a variable, with what it lists TIED to the program's text (the seventh form; the later family's looks); each row that meets fmt, with fmt's text TOLD by the authors' own Lean function (tested against real Go, not proved from fmt's source: count such statements apart). THE CARD IS WHAT COUNTS. Prove the row's statement (the work); the ties are given (YtaenegcnobindabDoorTie.lean); close each card by the builder's one call (the guide's Derived/Test/ToyasCard.lean, 'card_holds'). Laid BY PROGRAM, IN A SANDBOX (cutbox-door.mjs). By AI agents, Wed Nov 11 2026. No macro, syntax, notation, axiom, sorry.
-/
import Derived.Test.YtaenegcnobindabDoorRows
import GoSem.ClaimSeven
namespace Go.Proofs.YtaenegcnobindabDoor
namespace Rows

/-- THE TIED CARD OF 'athanorlaw02.GraphGood'. -/
def graphGoodCard : Claim7 := { stood := { row := graphGoodRow, standIns := [], harness := (true, "6386096f55c0d0b2f290864a046eed164a1fa8720758800843fb91d1a51c156d"), looks := false }, kinds := [], alts := [], laidByText := true, laidKinds := [.data, .pinned], laidTests := true, laidLooks := .later }
def GraphGoodCardSaid : Prop := Claim7.holds Tryd.pinned (.plain (OpenSpec.ofChange graphGoodSpec)) graphGoodCard

/-- THE SECOND FORM's CARD OF 'athanorlaw02.GraphGood'. -/
def graphGoodUptoCard : Claim7 := { stood := { row := graphGoodUptoRow, standIns := [], harness := (true, "6386096f55c0d0b2f290864a046eed164a1fa8720758800843fb91d1a51c156d"), looks := false }, kinds := [], alts := [], laidByText := true, laidKinds := [.data, .pinned], laidTests := true, laidLooks := .later }
def GraphGoodUptoCardSaid : Prop := Claim7.holds Tryd.pinned (.plain (OpenSpec.upto graphGoodSpec)) graphGoodUptoCard
end Rows
end Go.Proofs.YtaenegcnobindabDoor
