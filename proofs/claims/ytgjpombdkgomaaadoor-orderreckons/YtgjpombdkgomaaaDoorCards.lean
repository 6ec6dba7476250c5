/-
  DERIVED. GIVEN WITH THE SEED: THE CARDS: each row of YtgjpombdkgomaaaDoorRows.lean that lists a variable, with what it lists TIED to the program's text (the seventh form; the later family's looks); each row that meets fmt, with fmt's text TOLD by the authors' own Lean function (tested against real Go, not proved from fmt's source: count such statements apart). THE CARD IS WHAT COUNTS. Prove the row's statement (the work); the ties are given (YtgjpombdkgomaaaDoorTie.lean); close each card by the builder's one call (the guide's Derived/Test/ToyasCard.lean, 'card_holds'). Laid BY PROGRAM, IN A SANDBOX (cutbox-door.mjs). By AI agents, Wed Nov 11 2026. No macro, syntax, notation, axiom, sorry.
-/
import Derived.Test.YtgjpombdkgomaaaDoorRows
import GoSem.ClaimSeven
namespace Go.Proofs.YtgjpombdkgomaaaDoor
namespace Rows

/-- THE TIED CARD OF 'pharoslaw07.OrderReads'. -/
def orderReadsCard : Claim7 := { stood := { row := orderReadsRow, standIns := [], harness := (true, "6f368f7991427d93a97ab65a566da90d4a9cbea77cd4e0685ca4ce1bbe6515f6"), looks := false }, kinds := [], alts := [], laidByText := true, laidKinds := [.data], laidTests := true, laidLooks := .later }
def OrderReadsCardSaid : Prop := Claim7.holds Tryd.pinned (.plain (OpenSpec.ofChange orderReadsSpec)) orderReadsCard

/-- THE TIED CARD OF 'pharoslaw07.OrderReckons'. -/
def orderReckonsCard : Claim7 := { stood := { row := orderReckonsRow, standIns := [], harness := (true, "6f368f7991427d93a97ab65a566da90d4a9cbea77cd4e0685ca4ce1bbe6515f6"), looks := false }, kinds := [], alts := [], laidByText := true, laidKinds := [.data], laidTests := true, laidLooks := .later }
def OrderReckonsCardSaid : Prop := Claim7.holds Tryd.pinned (.plain (OpenSpec.ofChange orderReckonsSpec)) orderReckonsCard

/-- THE TIED CARD OF 'pharoslaw07.OrderLaws'. -/
def orderLawsCard : Claim7 := { stood := { row := orderLawsRow, standIns := [], harness := (true, "6f368f7991427d93a97ab65a566da90d4a9cbea77cd4e0685ca4ce1bbe6515f6"), looks := false }, kinds := [], alts := [], laidByText := true, laidKinds := [.data], laidTests := true, laidLooks := .later }
def OrderLawsCardSaid : Prop := Claim7.holds Tryd.pinned (.plain (OpenSpec.ofChange orderLawsSpec)) orderLawsCard

/-- THE SECOND FORM's CARD OF 'pharoslaw07.OrderReads'. -/
def orderReadsUptoCard : Claim7 := { stood := { row := orderReadsUptoRow, standIns := [], harness := (true, "6f368f7991427d93a97ab65a566da90d4a9cbea77cd4e0685ca4ce1bbe6515f6"), looks := false }, kinds := [], alts := [], laidByText := true, laidKinds := [.data], laidTests := true, laidLooks := .later }
def OrderReadsUptoCardSaid : Prop := Claim7.holds Tryd.pinned (.plain (OpenSpec.upto orderReadsSpec)) orderReadsUptoCard

/-- THE SECOND FORM's CARD OF 'pharoslaw07.OrderReckons'. -/
def orderReckonsUptoCard : Claim7 := { stood := { row := orderReckonsUptoRow, standIns := [], harness := (true, "6f368f7991427d93a97ab65a566da90d4a9cbea77cd4e0685ca4ce1bbe6515f6"), looks := false }, kinds := [], alts := [], laidByText := true, laidKinds := [.data], laidTests := true, laidLooks := .later }
def OrderReckonsUptoCardSaid : Prop := Claim7.holds Tryd.pinned (.plain (OpenSpec.upto orderReckonsSpec)) orderReckonsUptoCard

/-- THE SECOND FORM's CARD OF 'pharoslaw07.OrderLaws'. -/
def orderLawsUptoCard : Claim7 := { stood := { row := orderLawsUptoRow, standIns := [], harness := (true, "6f368f7991427d93a97ab65a566da90d4a9cbea77cd4e0685ca4ce1bbe6515f6"), looks := false }, kinds := [], alts := [], laidByText := true, laidKinds := [.data], laidTests := true, laidLooks := .later }
def OrderLawsUptoCardSaid : Prop := Claim7.holds Tryd.pinned (.plain (OpenSpec.upto orderLawsSpec)) orderLawsUptoCard
end Rows
end Go.Proofs.YtgjpombdkgomaaaDoor
