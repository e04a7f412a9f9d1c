/-
  DERIVED. GIVEN WITH THE SEED: THE CARDS: each row of YtbkfinjajkjhaabGreatDoorRows.lean that lists a variable, with what it lists TIED to the program's text (the seventh form; the later family's looks); each row that meets fmt, with fmt's text TOLD by the authors' own Lean function (tested against real Go, not proved from fmt's source: count such statements apart). THE CARD IS WHAT COUNTS. Prove the row's statement (the work); the ties are given (YtbkfinjajkjhaabGreatDoorTie.lean); close each card by the builder's one call (the guide's Derived/Test/ToyasCard.lean, 'card_holds'). Laid BY PROGRAM, IN A SANDBOX (cutbox-door.mjs). By AI agents, Wed Nov 11 2026. No macro, syntax, notation, axiom, sorry.
-/
import Derived.Test.YtbkfinjajkjhaabGreatDoorRows
import GoSem.ClaimSeven
namespace Go.Proofs.YtbkfinjajkjhaabGreatDoor
namespace Rows

/-- THE TIED CARD OF 'athanorlaw03.LexLong'. -/
def lexLongCard : Claim7 := { stood := { row := lexLongRow, standIns := [], harness := (true, "2d6053ce36cde0009829080092d638ab507b97f42d32a85fe2fb43b6e9c1fb46"), looks := true }, kinds := [], alts := [], laidByText := true, laidKinds := [.data, .data, .data, .data, .sentinel, .sentinel, .data, .pinned], laidTests := true, laidLooks := .later }
def LexLongCardSaid : Prop := Claim7.holds Tryz.pinned (.plain (OpenSpec.ofChange lexLongSpec)) lexLongCard

/-- THE TIED CARD OF 'athanorlaw03.LexSteps'. -/
def lexStepsCard : Claim7 := { stood := { row := lexStepsRow, standIns := [], harness := (true, "2d6053ce36cde0009829080092d638ab507b97f42d32a85fe2fb43b6e9c1fb46"), looks := true }, kinds := [], alts := [], laidByText := true, laidKinds := [.data, .data, .data, .data, .sentinel, .sentinel, .data, .pinned], laidTests := true, laidLooks := .later }
def LexStepsCardSaid : Prop := Claim7.holds Tryz.pinned (.plain (OpenSpec.ofChange lexStepsSpec)) lexStepsCard

/-- THE SECOND FORM's CARD OF 'athanorlaw03.LexLong'. -/
def lexLongUptoCard : Claim7 := { stood := { row := lexLongUptoRow, standIns := [], harness := (true, "2d6053ce36cde0009829080092d638ab507b97f42d32a85fe2fb43b6e9c1fb46"), looks := true }, kinds := [], alts := [], laidByText := true, laidKinds := [.data, .data, .data, .data, .sentinel, .sentinel, .data, .pinned], laidTests := true, laidLooks := .later }
def LexLongUptoCardSaid : Prop := Claim7.holds Tryz.pinned (.plain (OpenSpec.upto lexLongSpec)) lexLongUptoCard

/-- THE SECOND FORM's CARD OF 'athanorlaw03.LexSteps'. -/
def lexStepsUptoCard : Claim7 := { stood := { row := lexStepsUptoRow, standIns := [], harness := (true, "2d6053ce36cde0009829080092d638ab507b97f42d32a85fe2fb43b6e9c1fb46"), looks := true }, kinds := [], alts := [], laidByText := true, laidKinds := [.data, .data, .data, .data, .sentinel, .sentinel, .data, .pinned], laidTests := true, laidLooks := .later }
def LexStepsUptoCardSaid : Prop := Claim7.holds Tryz.pinned (.plain (OpenSpec.upto lexStepsSpec)) lexStepsUptoCard
end Rows
end Go.Proofs.YtbkfinjajkjhaabGreatDoor
