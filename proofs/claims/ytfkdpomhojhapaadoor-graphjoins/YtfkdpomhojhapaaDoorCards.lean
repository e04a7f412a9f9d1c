/-
  DERIVED. GIVEN WITH THE SEED: THE CARDS: each row of YtfkdpomhojhapaaDoorRows.lean that lists a variable, with what it lists TIED to the program's text (the seventh form; the later family's looks); each row that meets fmt, with fmt's text TOLD by the authors' own Lean function (tested against real Go, not proved from fmt's source: count such statements apart). THE CARD IS WHAT COUNTS. Prove the row's statement (the work); the ties are given (YtfkdpomhojhapaaDoorTie.lean); close each card by the builder's one call (the guide's Derived/Test/ToyasCard.lean, 'card_holds'). Laid BY PROGRAM, IN A SANDBOX (cutbox-door.mjs). By AI agents, Wed Nov 11 2026. No macro, syntax, notation, axiom, sorry.
-/
import Derived.Test.YtfkdpomhojhapaaDoorRows
import GoSem.ClaimSeven
namespace Go.Proofs.YtfkdpomhojhapaaDoor
namespace Rows

/-- THE TIED CARD OF 'athanorlaw02.GraphJoins'. -/
def graphJoinsCard : Claim7 := { stood := { row := graphJoinsRow, standIns := [], harness := (true, "6ba6a9acf5999f469f5390021a1e4dc72830a8ba8b135fad9b13b1d7f6d4e296"), looks := false }, kinds := [], alts := [], laidByText := true, laidKinds := [.data, .pinned], laidTests := true, laidLooks := .later }
def GraphJoinsCardSaid : Prop := Claim7.holds Tryd.pinned (.plain (OpenSpec.ofChange graphJoinsSpec)) graphJoinsCard

/-- THE SECOND FORM's CARD OF 'athanorlaw02.GraphJoins'. -/
def graphJoinsUptoCard : Claim7 := { stood := { row := graphJoinsUptoRow, standIns := [], harness := (true, "6ba6a9acf5999f469f5390021a1e4dc72830a8ba8b135fad9b13b1d7f6d4e296"), looks := false }, kinds := [], alts := [], laidByText := true, laidKinds := [.data, .pinned], laidTests := true, laidLooks := .later }
def GraphJoinsUptoCardSaid : Prop := Claim7.holds Tryd.pinned (.plain (OpenSpec.upto graphJoinsSpec)) graphJoinsUptoCard
end Rows
end Go.Proofs.YtfkdpomhojhapaaDoor
