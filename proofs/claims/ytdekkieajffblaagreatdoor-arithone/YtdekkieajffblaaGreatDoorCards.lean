/-
  DERIVED. GIVEN WITH THE SEED: THE CARDS: each row of YtdekkieajffblaaGreatDoorRows.lean that lists a variable, with what it lists TIED to the program's text (the seventh form; the later family's looks); each row that meets fmt, with fmt's text TOLD by the authors' own Lean function (tested against real Go, not proved from fmt's source: count such statements apart). THE CARD IS WHAT COUNTS. Prove the row's statement (the work); the ties are given (YtdekkieajffblaaGreatDoorTie.lean); close each card by the builder's one call (the guide's Derived/Test/ToyasCard.lean, 'card_holds'). Laid BY PROGRAM, IN A SANDBOX (cutbox-door.mjs). By AI agents, Wed Nov 11 2026. No macro, syntax, notation, axiom, sorry.
-/
import Derived.Test.YtdekkieajffblaaGreatDoorRows
import GoSem.ClaimSeven
namespace Go.Proofs.YtdekkieajffblaaGreatDoor
namespace Rows

/-- THE TIED CARD OF 'athanorlaw11.ArithOne'. -/
def arithOneCard : Claim7 := { stood := { row := arithOneRow, standIns := [], harness := (true, "389d1896c55fa98c2df8ece22a54dffe5074d22e415b076d29824177d2f2864e"), looks := false }, kinds := [], alts := [], laidByText := true, laidKinds := [.data, .data, .data, .data, .pinned], laidTests := true, laidLooks := .later }
def ArithOneCardSaid : Prop := Claim7.holds Tryz.pinned (.plain (OpenSpec.ofChange arithOneSpec)) arithOneCard

/-- THE SECOND FORM's CARD OF 'athanorlaw11.ArithOne'. -/
def arithOneUptoCard : Claim7 := { stood := { row := arithOneUptoRow, standIns := [], harness := (true, "389d1896c55fa98c2df8ece22a54dffe5074d22e415b076d29824177d2f2864e"), looks := false }, kinds := [], alts := [], laidByText := true, laidKinds := [.data, .data, .data, .data, .pinned], laidTests := true, laidLooks := .later }
def ArithOneUptoCardSaid : Prop := Claim7.holds Tryz.pinned (.plain (OpenSpec.upto arithOneSpec)) arithOneUptoCard
end Rows
end Go.Proofs.YtdekkieajffblaaGreatDoor
