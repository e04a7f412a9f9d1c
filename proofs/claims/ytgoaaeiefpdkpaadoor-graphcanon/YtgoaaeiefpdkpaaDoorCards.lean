/-
  DERIVED. GIVEN WITH THE SEED: THE CARDS: each row of YtgoaaeiefpdkpaaDoorRows.lean that lists a variable, with what it lists TIED to the program's text (the seventh form; the later family's looks); each row that meets fmt, with fmt's text TOLD by the authors' own Lean function (tested against real Go, not proved from fmt's source: count such statements apart). THE CARD IS WHAT COUNTS. Prove the row's statement (the work); the ties are given (YtgoaaeiefpdkpaaDoorTie.lean); close each card by the builder's one call (the guide's Derived/Test/ToyasCard.lean, 'card_holds'). Laid BY PROGRAM, IN A SANDBOX (cutbox-door.mjs). By AI agents, Wed Nov 11 2026. No macro, syntax, notation, axiom, sorry.
-/
import Derived.Test.YtgoaaeiefpdkpaaDoorRows
import GoSem.ClaimSeven
namespace Go.Proofs.YtgoaaeiefpdkpaaDoor
namespace Rows

/-- THE TIED CARD OF 'athanorlaw02.GraphCanon'. -/
def graphCanonCard : Claim7 := { stood := { row := graphCanonRow, standIns := [], harness := (true, "c81e12143978952ecc0465b0abe9964342d36f0725f3f2c2c35faad43ccbc5b5"), looks := false }, kinds := [], alts := [], laidByText := true, laidKinds := [.data, .pinned], laidTests := true, laidLooks := .later }
def GraphCanonCardSaid : Prop := Claim7.holds Tryd.pinned (.plain (OpenSpec.ofChange graphCanonSpec)) graphCanonCard

/-- THE TIED CARD OF 'athanorlaw02.GraphJoins'. -/
def graphJoinsCard : Claim7 := { stood := { row := graphJoinsRow, standIns := [], harness := (true, "c81e12143978952ecc0465b0abe9964342d36f0725f3f2c2c35faad43ccbc5b5"), looks := false }, kinds := [], alts := [], laidByText := true, laidKinds := [.data, .pinned], laidTests := true, laidLooks := .later }
def GraphJoinsCardSaid : Prop := Claim7.holds Tryd.pinned (.plain (OpenSpec.ofChange graphJoinsSpec)) graphJoinsCard

/-- THE TIED CARD OF 'athanorlaw02.GraphOnce'. -/
def graphOnceCard : Claim7 := { stood := { row := graphOnceRow, standIns := [], harness := (true, "c81e12143978952ecc0465b0abe9964342d36f0725f3f2c2c35faad43ccbc5b5"), looks := false }, kinds := [], alts := [], laidByText := true, laidKinds := [.data, .pinned], laidTests := true, laidLooks := .later }
def GraphOnceCardSaid : Prop := Claim7.holds Tryd.pinned (.plain (OpenSpec.ofChange graphOnceSpec)) graphOnceCard

/-- THE TIED CARD OF 'athanorlaw02.GraphTurns'. -/
def graphTurnsCard : Claim7 := { stood := { row := graphTurnsRow, standIns := [], harness := (true, "c81e12143978952ecc0465b0abe9964342d36f0725f3f2c2c35faad43ccbc5b5"), looks := false }, kinds := [], alts := [], laidByText := true, laidKinds := [.data, .pinned], laidTests := true, laidLooks := .later }
def GraphTurnsCardSaid : Prop := Claim7.holds Tryd.pinned (.plain (OpenSpec.ofChange graphTurnsSpec)) graphTurnsCard

/-- THE TIED CARD OF 'athanorlaw02.GraphShares'. -/
def graphSharesCard : Claim7 := { stood := { row := graphSharesRow, standIns := [], harness := (true, "c81e12143978952ecc0465b0abe9964342d36f0725f3f2c2c35faad43ccbc5b5"), looks := false }, kinds := [], alts := [], laidByText := true, laidKinds := [.data, .pinned], laidTests := true, laidLooks := .later }
def GraphSharesCardSaid : Prop := Claim7.holds Tryd.pinned (.plain (OpenSpec.ofChange graphSharesSpec)) graphSharesCard

/-- THE SECOND FORM's CARD OF 'athanorlaw02.GraphCanon'. -/
def graphCanonUptoCard : Claim7 := { stood := { row := graphCanonUptoRow, standIns := [], harness := (true, "c81e12143978952ecc0465b0abe9964342d36f0725f3f2c2c35faad43ccbc5b5"), looks := false }, kinds := [], alts := [], laidByText := true, laidKinds := [.data, .pinned], laidTests := true, laidLooks := .later }
def GraphCanonUptoCardSaid : Prop := Claim7.holds Tryd.pinned (.plain (OpenSpec.upto graphCanonSpec)) graphCanonUptoCard

/-- THE SECOND FORM's CARD OF 'athanorlaw02.GraphJoins'. -/
def graphJoinsUptoCard : Claim7 := { stood := { row := graphJoinsUptoRow, standIns := [], harness := (true, "c81e12143978952ecc0465b0abe9964342d36f0725f3f2c2c35faad43ccbc5b5"), looks := false }, kinds := [], alts := [], laidByText := true, laidKinds := [.data, .pinned], laidTests := true, laidLooks := .later }
def GraphJoinsUptoCardSaid : Prop := Claim7.holds Tryd.pinned (.plain (OpenSpec.upto graphJoinsSpec)) graphJoinsUptoCard

/-- THE SECOND FORM's CARD OF 'athanorlaw02.GraphOnce'. -/
def graphOnceUptoCard : Claim7 := { stood := { row := graphOnceUptoRow, standIns := [], harness := (true, "c81e12143978952ecc0465b0abe9964342d36f0725f3f2c2c35faad43ccbc5b5"), looks := false }, kinds := [], alts := [], laidByText := true, laidKinds := [.data, .pinned], laidTests := true, laidLooks := .later }
def GraphOnceUptoCardSaid : Prop := Claim7.holds Tryd.pinned (.plain (OpenSpec.upto graphOnceSpec)) graphOnceUptoCard

/-- THE SECOND FORM's CARD OF 'athanorlaw02.GraphTurns'. -/
def graphTurnsUptoCard : Claim7 := { stood := { row := graphTurnsUptoRow, standIns := [], harness := (true, "c81e12143978952ecc0465b0abe9964342d36f0725f3f2c2c35faad43ccbc5b5"), looks := false }, kinds := [], alts := [], laidByText := true, laidKinds := [.data, .pinned], laidTests := true, laidLooks := .later }
def GraphTurnsUptoCardSaid : Prop := Claim7.holds Tryd.pinned (.plain (OpenSpec.upto graphTurnsSpec)) graphTurnsUptoCard

/-- THE SECOND FORM's CARD OF 'athanorlaw02.GraphShares'. -/
def graphSharesUptoCard : Claim7 := { stood := { row := graphSharesUptoRow, standIns := [], harness := (true, "c81e12143978952ecc0465b0abe9964342d36f0725f3f2c2c35faad43ccbc5b5"), looks := false }, kinds := [], alts := [], laidByText := true, laidKinds := [.data, .pinned], laidTests := true, laidLooks := .later }
def GraphSharesUptoCardSaid : Prop := Claim7.holds Tryd.pinned (.plain (OpenSpec.upto graphSharesSpec)) graphSharesUptoCard
end Rows
end Go.Proofs.YtgoaaeiefpdkpaaDoor
