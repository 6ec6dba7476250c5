/-
  DERIVED. GIVEN WITH THE SEED: THE CARDS: each row of YtpdagpjjlnncbaaDoorRows.lean that lists a variable, with what it lists TIED to the program's text (the seventh form; the later family's looks); each row that meets fmt, with fmt's text TOLD by the authors' own Lean function (tested against real Go, not proved from fmt's source: count such statements apart). THE CARD IS WHAT COUNTS. Prove the row's statement (the work); the ties are given (YtpdagpjjlnncbaaDoorTie.lean); close each card by the builder's one call (the guide's Derived/Test/ToyasCard.lean, 'card_holds'). Laid BY PROGRAM, IN A SANDBOX (cutbox-door.mjs). By AI agents, Wed Nov 11 2026. No macro, syntax, notation, axiom, sorry.
-/
import Derived.Test.YtpdagpjjlnncbaaDoorRows
import GoSem.ClaimSeven
namespace Go.Proofs.YtpdagpjjlnncbaaDoor
namespace Rows

/-- THE TIED CARD OF 'pharoslaw09.EdwReads'. -/
def edwReadsCard : Claim7 := { stood := { row := edwReadsRow, standIns := [], harness := (true, "a7268bc2ae1b7b804854ede774894baa32dd97a7153a0b3067892e74de0208eb"), looks := false }, kinds := [], alts := [], laidByText := true, laidKinds := [.data, .data], laidTests := true, laidLooks := .later }
def EdwReadsCardSaid : Prop := Claim7.holds Tryd.pinned (.plain (OpenSpec.ofChange edwReadsSpec)) edwReadsCard

/-- THE TIED CARD OF 'pharoslaw09.EdwReckons'. -/
def edwReckonsCard : Claim7 := { stood := { row := edwReckonsRow, standIns := [], harness := (true, "a7268bc2ae1b7b804854ede774894baa32dd97a7153a0b3067892e74de0208eb"), looks := false }, kinds := [], alts := [], laidByText := true, laidKinds := [.data, .data, .data], laidTests := true, laidLooks := .later }
def EdwReckonsCardSaid : Prop := Claim7.holds Tryd.pinned (.plain (OpenSpec.ofChange edwReckonsSpec)) edwReckonsCard

/-- THE TIED CARD OF 'pharoslaw09.EdwRows'. -/
def edwRowsCard : Claim7 := { stood := { row := edwRowsRow, standIns := [], harness := (true, "a7268bc2ae1b7b804854ede774894baa32dd97a7153a0b3067892e74de0208eb"), looks := false }, kinds := [], alts := [], laidByText := true, laidKinds := [.data, .data], laidTests := true, laidLooks := .later }
def EdwRowsCardSaid : Prop := Claim7.holds Tryd.pinned (.plain (OpenSpec.ofChange edwRowsSpec)) edwRowsCard

/-- THE TIED CARD OF 'pharoslaw09.EdwLaws'. -/
def edwLawsCard : Claim7 := { stood := { row := edwLawsRow, standIns := [], harness := (true, "a7268bc2ae1b7b804854ede774894baa32dd97a7153a0b3067892e74de0208eb"), looks := false }, kinds := [], alts := [], laidByText := true, laidKinds := [.data, .data, .data], laidTests := true, laidLooks := .later }
def EdwLawsCardSaid : Prop := Claim7.holds Tryd.pinned (.plain (OpenSpec.ofChange edwLawsSpec)) edwLawsCard

/-- THE TIED CARD OF 'pharoslaw09.EdwNone'. -/
def edwNoneCard : Claim7 := { stood := { row := edwNoneRow, standIns := [], harness := (true, "a7268bc2ae1b7b804854ede774894baa32dd97a7153a0b3067892e74de0208eb"), looks := false }, kinds := [], alts := [], laidByText := true, laidKinds := [.data, .data, .data], laidTests := true, laidLooks := .later }
def EdwNoneCardSaid : Prop := Claim7.holds Tryd.pinned (.plain (OpenSpec.ofChange edwNoneSpec)) edwNoneCard

/-- THE SECOND FORM's CARD OF 'pharoslaw09.EdwReads'. -/
def edwReadsUptoCard : Claim7 := { stood := { row := edwReadsUptoRow, standIns := [], harness := (true, "a7268bc2ae1b7b804854ede774894baa32dd97a7153a0b3067892e74de0208eb"), looks := false }, kinds := [], alts := [], laidByText := true, laidKinds := [.data, .data], laidTests := true, laidLooks := .later }
def EdwReadsUptoCardSaid : Prop := Claim7.holds Tryd.pinned (.plain (OpenSpec.upto edwReadsSpec)) edwReadsUptoCard

/-- THE SECOND FORM's CARD OF 'pharoslaw09.EdwReckons'. -/
def edwReckonsUptoCard : Claim7 := { stood := { row := edwReckonsUptoRow, standIns := [], harness := (true, "a7268bc2ae1b7b804854ede774894baa32dd97a7153a0b3067892e74de0208eb"), looks := false }, kinds := [], alts := [], laidByText := true, laidKinds := [.data, .data, .data], laidTests := true, laidLooks := .later }
def EdwReckonsUptoCardSaid : Prop := Claim7.holds Tryd.pinned (.plain (OpenSpec.upto edwReckonsSpec)) edwReckonsUptoCard

/-- THE SECOND FORM's CARD OF 'pharoslaw09.EdwRows'. -/
def edwRowsUptoCard : Claim7 := { stood := { row := edwRowsUptoRow, standIns := [], harness := (true, "a7268bc2ae1b7b804854ede774894baa32dd97a7153a0b3067892e74de0208eb"), looks := false }, kinds := [], alts := [], laidByText := true, laidKinds := [.data, .data], laidTests := true, laidLooks := .later }
def EdwRowsUptoCardSaid : Prop := Claim7.holds Tryd.pinned (.plain (OpenSpec.upto edwRowsSpec)) edwRowsUptoCard

/-- THE SECOND FORM's CARD OF 'pharoslaw09.EdwLaws'. -/
def edwLawsUptoCard : Claim7 := { stood := { row := edwLawsUptoRow, standIns := [], harness := (true, "a7268bc2ae1b7b804854ede774894baa32dd97a7153a0b3067892e74de0208eb"), looks := false }, kinds := [], alts := [], laidByText := true, laidKinds := [.data, .data, .data], laidTests := true, laidLooks := .later }
def EdwLawsUptoCardSaid : Prop := Claim7.holds Tryd.pinned (.plain (OpenSpec.upto edwLawsSpec)) edwLawsUptoCard

/-- THE SECOND FORM's CARD OF 'pharoslaw09.EdwNone'. -/
def edwNoneUptoCard : Claim7 := { stood := { row := edwNoneUptoRow, standIns := [], harness := (true, "a7268bc2ae1b7b804854ede774894baa32dd97a7153a0b3067892e74de0208eb"), looks := false }, kinds := [], alts := [], laidByText := true, laidKinds := [.data, .data, .data], laidTests := true, laidLooks := .later }
def EdwNoneUptoCardSaid : Prop := Claim7.holds Tryd.pinned (.plain (OpenSpec.upto edwNoneSpec)) edwNoneUptoCard
end Rows
end Go.Proofs.YtpdagpjjlnncbaaDoor
