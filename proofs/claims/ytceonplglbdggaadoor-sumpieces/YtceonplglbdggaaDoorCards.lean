/-
  DERIVED. GIVEN WITH THE SEED: THE CARDS: each row of YtceonplglbdggaaDoorRows.lean that lists a variable, with what it lists TIED to the program's text (the seventh form; the later family's looks); each row that meets fmt, with fmt's text TOLD by the authors' own Lean function (tested against real Go, not proved from fmt's source: count such statements apart). THE CARD IS WHAT COUNTS. Prove the row's statement (the work); the ties are given (YtceonplglbdggaaDoorTie.lean); close each card by the builder's one call (the guide's Derived/Test/ToyasCard.lean, 'card_holds'). Laid BY PROGRAM, IN A SANDBOX (cutbox-door.mjs). By AI agents, Wed Nov 11 2026. No macro, syntax, notation, axiom, sorry.
-/
import Derived.Test.YtceonplglbdggaaDoorRows
import GoSem.ClaimSeven
namespace Go.Proofs.YtceonplglbdggaaDoor
namespace Rows

/-- THE TIED CARD OF 'pharoslaw11.SumOfs'. -/
def sumOfsCard : Claim7 := { stood := { row := sumOfsRow, standIns := [], harness := (true, "63c8e3b31f7b82269f31e493deb7b9e38f17ede74615336185a86b8dbf345543"), looks := false }, kinds := [], alts := [], laidByText := true, laidKinds := [.sentinel, .data, .data], laidTests := true, laidLooks := .later }
def SumOfsCardSaid : Prop := Claim7.holds Tryd.pinned (.plain (OpenSpec.ofChange sumOfsSpec)) sumOfsCard

/-- THE TIED CARD OF 'pharoslaw11.SumTags'. -/
def sumTagsCard : Claim7 := { stood := { row := sumTagsRow, standIns := [], harness := (true, "63c8e3b31f7b82269f31e493deb7b9e38f17ede74615336185a86b8dbf345543"), looks := false }, kinds := [], alts := [], laidByText := true, laidKinds := [.sentinel, .data, .data], laidTests := true, laidLooks := .later }
def SumTagsCardSaid : Prop := Claim7.holds Tryd.pinned (.plain (OpenSpec.ofChange sumTagsSpec)) sumTagsCard

/-- THE TIED CARD OF 'pharoslaw11.SumPieces'. -/
def sumPiecesCard : Claim7 := { stood := { row := sumPiecesRow, standIns := [], harness := (true, "63c8e3b31f7b82269f31e493deb7b9e38f17ede74615336185a86b8dbf345543"), looks := false }, kinds := [], alts := [], laidByText := true, laidKinds := [.sentinel, .data, .data], laidTests := true, laidLooks := .later }
def SumPiecesCardSaid : Prop := Claim7.holds Tryd.pinned (.plain (OpenSpec.ofChange sumPiecesSpec)) sumPiecesCard

/-- THE TIED CARD OF 'pharoslaw11.SumNil'. -/
def sumNilCard : Claim7 := { stood := { row := sumNilRow, standIns := [], harness := (true, "63c8e3b31f7b82269f31e493deb7b9e38f17ede74615336185a86b8dbf345543"), looks := false }, kinds := [], alts := [], laidByText := true, laidKinds := [.sentinel, .data, .data], laidTests := true, laidLooks := .later }
def SumNilCardSaid : Prop := Claim7.holds Tryd.pinned (.plain (OpenSpec.ofChange sumNilSpec)) sumNilCard

/-- THE SECOND FORM's CARD OF 'pharoslaw11.SumOfs'. -/
def sumOfsUptoCard : Claim7 := { stood := { row := sumOfsUptoRow, standIns := [], harness := (true, "63c8e3b31f7b82269f31e493deb7b9e38f17ede74615336185a86b8dbf345543"), looks := false }, kinds := [], alts := [], laidByText := true, laidKinds := [.sentinel, .data, .data], laidTests := true, laidLooks := .later }
def SumOfsUptoCardSaid : Prop := Claim7.holds Tryd.pinned (.plain (OpenSpec.upto sumOfsSpec)) sumOfsUptoCard

/-- THE SECOND FORM's CARD OF 'pharoslaw11.SumTags'. -/
def sumTagsUptoCard : Claim7 := { stood := { row := sumTagsUptoRow, standIns := [], harness := (true, "63c8e3b31f7b82269f31e493deb7b9e38f17ede74615336185a86b8dbf345543"), looks := false }, kinds := [], alts := [], laidByText := true, laidKinds := [.sentinel, .data, .data], laidTests := true, laidLooks := .later }
def SumTagsUptoCardSaid : Prop := Claim7.holds Tryd.pinned (.plain (OpenSpec.upto sumTagsSpec)) sumTagsUptoCard

/-- THE SECOND FORM's CARD OF 'pharoslaw11.SumPieces'. -/
def sumPiecesUptoCard : Claim7 := { stood := { row := sumPiecesUptoRow, standIns := [], harness := (true, "63c8e3b31f7b82269f31e493deb7b9e38f17ede74615336185a86b8dbf345543"), looks := false }, kinds := [], alts := [], laidByText := true, laidKinds := [.sentinel, .data, .data], laidTests := true, laidLooks := .later }
def SumPiecesUptoCardSaid : Prop := Claim7.holds Tryd.pinned (.plain (OpenSpec.upto sumPiecesSpec)) sumPiecesUptoCard

/-- THE SECOND FORM's CARD OF 'pharoslaw11.SumNil'. -/
def sumNilUptoCard : Claim7 := { stood := { row := sumNilUptoRow, standIns := [], harness := (true, "63c8e3b31f7b82269f31e493deb7b9e38f17ede74615336185a86b8dbf345543"), looks := false }, kinds := [], alts := [], laidByText := true, laidKinds := [.sentinel, .data, .data], laidTests := true, laidLooks := .later }
def SumNilUptoCardSaid : Prop := Claim7.holds Tryd.pinned (.plain (OpenSpec.upto sumNilSpec)) sumNilUptoCard
end Rows
end Go.Proofs.YtceonplglbdggaaDoor
