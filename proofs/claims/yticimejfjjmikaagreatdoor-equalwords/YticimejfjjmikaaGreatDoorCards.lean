/-
  DERIVED. GIVEN WITH THE SEED: THE CARDS: each row of YticimejfjjmikaaGreatDoorRows.lean that lists a variable, with what it lists TIED to the program's text (the seventh form; the later family's looks); each row that meets fmt, with fmt's text TOLD by the authors' own Lean function (tested against real Go, not proved from fmt's source: count such statements apart). THE CARD IS WHAT COUNTS. Prove the row's statement (the work); the ties are given (YticimejfjjmikaaGreatDoorTie.lean); close each card by the builder's one call (the guide's Derived/Test/ToyasCard.lean, 'card_holds'). Laid BY PROGRAM, IN A SANDBOX (cutbox-door.mjs). By AI agents, Wed Nov 11 2026. No macro, syntax, notation, axiom, sorry.
-/
import Derived.Test.YticimejfjjmikaaGreatDoorRows
import GoSem.ClaimSeven
namespace Go.Proofs.YticimejfjjmikaaGreatDoor
namespace Rows

/-- THE TIED CARD OF 'athanorlaw09.StoreGood'. -/
def storeGoodCard : Claim7 := { stood := { row := storeGoodRow, standIns := [], harness := (true, "464b8a482cb397ed03b158cde52e3c137baac5aa39d630b388b77d5c2d2df87c"), looks := false }, kinds := [], alts := [], laidByText := true, laidKinds := [.data, .data, .data, .data, .pinned], laidTests := true, laidLooks := .later }
def StoreGoodCardSaid : Prop := Claim7.holds Tryz.pinned (.plain (OpenSpec.ofChange storeGoodSpec)) storeGoodCard

/-- THE TIED CARD OF 'athanorlaw10.EqualWords'. -/
def equalWordsCard : Claim7 := { stood := { row := equalWordsRow, standIns := [], harness := (true, "464b8a482cb397ed03b158cde52e3c137baac5aa39d630b388b77d5c2d2df87c"), looks := false }, kinds := [], alts := [], laidByText := true, laidKinds := [.data, .data, .data, .data, .pinned], laidTests := true, laidLooks := .later }
def EqualWordsCardSaid : Prop := Claim7.holds Tryz.pinned (.plain (OpenSpec.ofChange equalWordsSpec)) equalWordsCard

/-- THE TIED CARD OF 'athanorlaw10.EqualRelation'. -/
def equalRelationCard : Claim7 := { stood := { row := equalRelationRow, standIns := [], harness := (true, "464b8a482cb397ed03b158cde52e3c137baac5aa39d630b388b77d5c2d2df87c"), looks := false }, kinds := [], alts := [], laidByText := true, laidKinds := [.data, .data, .data, .data, .pinned], laidTests := true, laidLooks := .later }
def EqualRelationCardSaid : Prop := Claim7.holds Tryz.pinned (.plain (OpenSpec.ofChange equalRelationSpec)) equalRelationCard

/-- THE TIED CARD OF 'athanorlaw10.EqualTwins'. -/
def equalTwinsCard : Claim7 := { stood := { row := equalTwinsRow, standIns := [], harness := (true, "464b8a482cb397ed03b158cde52e3c137baac5aa39d630b388b77d5c2d2df87c"), looks := false }, kinds := [], alts := [], laidByText := true, laidKinds := [.data, .data, .data, .data, .pinned], laidTests := true, laidLooks := .later }
def EqualTwinsCardSaid : Prop := Claim7.holds Tryz.pinned (.plain (OpenSpec.ofChange equalTwinsSpec)) equalTwinsCard

/-- THE TIED CARD OF 'athanorlaw10.EqualMoves'. -/
def equalMovesCard : Claim7 := { stood := { row := equalMovesRow, standIns := [], harness := (true, "464b8a482cb397ed03b158cde52e3c137baac5aa39d630b388b77d5c2d2df87c"), looks := false }, kinds := [], alts := [], laidByText := true, laidKinds := [.data, .data, .data, .data, .pinned], laidTests := true, laidLooks := .later }
def EqualMovesCardSaid : Prop := Claim7.holds Tryz.pinned (.plain (OpenSpec.ofChange equalMovesSpec)) equalMovesCard

/-- THE TIED CARD OF 'athanorlaw10.EqualLists'. -/
def equalListsCard : Claim7 := { stood := { row := equalListsRow, standIns := [], harness := (true, "464b8a482cb397ed03b158cde52e3c137baac5aa39d630b388b77d5c2d2df87c"), looks := false }, kinds := [], alts := [], laidByText := true, laidKinds := [.data, .data, .data, .data, .pinned], laidTests := true, laidLooks := .later }
def EqualListsCardSaid : Prop := Claim7.holds Tryz.pinned (.plain (OpenSpec.ofChange equalListsSpec)) equalListsCard

/-- THE SECOND FORM's CARD OF 'athanorlaw09.StoreGood'. -/
def storeGoodUptoCard : Claim7 := { stood := { row := storeGoodUptoRow, standIns := [], harness := (true, "464b8a482cb397ed03b158cde52e3c137baac5aa39d630b388b77d5c2d2df87c"), looks := false }, kinds := [], alts := [], laidByText := true, laidKinds := [.data, .data, .data, .data, .pinned], laidTests := true, laidLooks := .later }
def StoreGoodUptoCardSaid : Prop := Claim7.holds Tryz.pinned (.plain (OpenSpec.upto storeGoodSpec)) storeGoodUptoCard

/-- THE SECOND FORM's CARD OF 'athanorlaw10.EqualWords'. -/
def equalWordsUptoCard : Claim7 := { stood := { row := equalWordsUptoRow, standIns := [], harness := (true, "464b8a482cb397ed03b158cde52e3c137baac5aa39d630b388b77d5c2d2df87c"), looks := false }, kinds := [], alts := [], laidByText := true, laidKinds := [.data, .data, .data, .data, .pinned], laidTests := true, laidLooks := .later }
def EqualWordsUptoCardSaid : Prop := Claim7.holds Tryz.pinned (.plain (OpenSpec.upto equalWordsSpec)) equalWordsUptoCard

/-- THE SECOND FORM's CARD OF 'athanorlaw10.EqualRelation'. -/
def equalRelationUptoCard : Claim7 := { stood := { row := equalRelationUptoRow, standIns := [], harness := (true, "464b8a482cb397ed03b158cde52e3c137baac5aa39d630b388b77d5c2d2df87c"), looks := false }, kinds := [], alts := [], laidByText := true, laidKinds := [.data, .data, .data, .data, .pinned], laidTests := true, laidLooks := .later }
def EqualRelationUptoCardSaid : Prop := Claim7.holds Tryz.pinned (.plain (OpenSpec.upto equalRelationSpec)) equalRelationUptoCard

/-- THE SECOND FORM's CARD OF 'athanorlaw10.EqualTwins'. -/
def equalTwinsUptoCard : Claim7 := { stood := { row := equalTwinsUptoRow, standIns := [], harness := (true, "464b8a482cb397ed03b158cde52e3c137baac5aa39d630b388b77d5c2d2df87c"), looks := false }, kinds := [], alts := [], laidByText := true, laidKinds := [.data, .data, .data, .data, .pinned], laidTests := true, laidLooks := .later }
def EqualTwinsUptoCardSaid : Prop := Claim7.holds Tryz.pinned (.plain (OpenSpec.upto equalTwinsSpec)) equalTwinsUptoCard

/-- THE SECOND FORM's CARD OF 'athanorlaw10.EqualMoves'. -/
def equalMovesUptoCard : Claim7 := { stood := { row := equalMovesUptoRow, standIns := [], harness := (true, "464b8a482cb397ed03b158cde52e3c137baac5aa39d630b388b77d5c2d2df87c"), looks := false }, kinds := [], alts := [], laidByText := true, laidKinds := [.data, .data, .data, .data, .pinned], laidTests := true, laidLooks := .later }
def EqualMovesUptoCardSaid : Prop := Claim7.holds Tryz.pinned (.plain (OpenSpec.upto equalMovesSpec)) equalMovesUptoCard

/-- THE SECOND FORM's CARD OF 'athanorlaw10.EqualLists'. -/
def equalListsUptoCard : Claim7 := { stood := { row := equalListsUptoRow, standIns := [], harness := (true, "464b8a482cb397ed03b158cde52e3c137baac5aa39d630b388b77d5c2d2df87c"), looks := false }, kinds := [], alts := [], laidByText := true, laidKinds := [.data, .data, .data, .data, .pinned], laidTests := true, laidLooks := .later }
def EqualListsUptoCardSaid : Prop := Claim7.holds Tryz.pinned (.plain (OpenSpec.upto equalListsSpec)) equalListsUptoCard
end Rows
end Go.Proofs.YticimejfjjmikaaGreatDoor
