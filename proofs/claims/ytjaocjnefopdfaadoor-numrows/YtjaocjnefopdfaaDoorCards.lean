/-
  DERIVED. GIVEN WITH THE SEED: THE CARDS: each row of YtjaocjnefopdfaaDoorRows.lean that lists a variable, with what it lists TIED to the program's text (the seventh form; the later family's looks); each row that meets fmt, with fmt's text TOLD by the authors' own Lean function (tested against real Go, not proved from fmt's source: count such statements apart). THE CARD IS WHAT COUNTS. Prove the row's statement (the work); the ties are given (YtjaocjnefopdfaaDoorTie.lean); close each card by the builder's one call (the guide's Derived/Test/ToyasCard.lean, 'card_holds'). Laid BY PROGRAM, IN A SANDBOX (cutbox-door.mjs). By AI agents, Wed Nov 11 2026. No macro, syntax, notation, axiom, sorry.
-/
import Derived.Test.YtjaocjnefopdfaaDoorRows
import GoSem.ClaimSeven
namespace Go.Proofs.YtjaocjnefopdfaaDoor
namespace Rows

/-- THE TIED CARD OF 'pharoslaw06.NumReads'. -/
def numReadsCard : Claim7 := { stood := { row := numReadsRow, standIns := [], harness := (true, "12316ed29e75ee016ee495aa19cf9ca77e9c06eff8cfcde32bf7918839b0e7e5"), looks := false }, kinds := [], alts := [], laidByText := true, laidKinds := [.data, .data], laidTests := true, laidLooks := .later }
def NumReadsCardSaid : Prop := Claim7.holds Tryd.pinned (.plain (OpenSpec.ofChange numReadsSpec)) numReadsCard

/-- THE TIED CARD OF 'pharoslaw06.NumReckons'. -/
def numReckonsCard : Claim7 := { stood := { row := numReckonsRow, standIns := [], harness := (true, "12316ed29e75ee016ee495aa19cf9ca77e9c06eff8cfcde32bf7918839b0e7e5"), looks := false }, kinds := [], alts := [], laidByText := true, laidKinds := [.data, .data], laidTests := true, laidLooks := .later }
def NumReckonsCardSaid : Prop := Claim7.holds Tryd.pinned (.plain (OpenSpec.ofChange numReckonsSpec)) numReckonsCard

/-- THE TIED CARD OF 'pharoslaw06.NumInverts'. -/
def numInvertsCard : Claim7 := { stood := { row := numInvertsRow, standIns := [], harness := (true, "12316ed29e75ee016ee495aa19cf9ca77e9c06eff8cfcde32bf7918839b0e7e5"), looks := false }, kinds := [], alts := [], laidByText := true, laidKinds := [.data, .data], laidTests := true, laidLooks := .later }
def NumInvertsCardSaid : Prop := Claim7.holds Tryd.pinned (.plain (OpenSpec.ofChange numInvertsSpec)) numInvertsCard

/-- THE TIED CARD OF 'pharoslaw06.NumRows'. -/
def numRowsCard : Claim7 := { stood := { row := numRowsRow, standIns := [], harness := (true, "12316ed29e75ee016ee495aa19cf9ca77e9c06eff8cfcde32bf7918839b0e7e5"), looks := false }, kinds := [], alts := [], laidByText := true, laidKinds := [.data, .data], laidTests := true, laidLooks := .later }
def NumRowsCardSaid : Prop := Claim7.holds Tryd.pinned (.plain (OpenSpec.ofChange numRowsSpec)) numRowsCard

/-- THE TIED CARD OF 'pharoslaw06.NumLaws'. -/
def numLawsCard : Claim7 := { stood := { row := numLawsRow, standIns := [], harness := (true, "12316ed29e75ee016ee495aa19cf9ca77e9c06eff8cfcde32bf7918839b0e7e5"), looks := false }, kinds := [], alts := [], laidByText := true, laidKinds := [.data, .data], laidTests := true, laidLooks := .later }
def NumLawsCardSaid : Prop := Claim7.holds Tryd.pinned (.plain (OpenSpec.ofChange numLawsSpec)) numLawsCard

/-- THE SECOND FORM's CARD OF 'pharoslaw06.NumReads'. -/
def numReadsUptoCard : Claim7 := { stood := { row := numReadsUptoRow, standIns := [], harness := (true, "12316ed29e75ee016ee495aa19cf9ca77e9c06eff8cfcde32bf7918839b0e7e5"), looks := false }, kinds := [], alts := [], laidByText := true, laidKinds := [.data, .data], laidTests := true, laidLooks := .later }
def NumReadsUptoCardSaid : Prop := Claim7.holds Tryd.pinned (.plain (OpenSpec.upto numReadsSpec)) numReadsUptoCard

/-- THE SECOND FORM's CARD OF 'pharoslaw06.NumReckons'. -/
def numReckonsUptoCard : Claim7 := { stood := { row := numReckonsUptoRow, standIns := [], harness := (true, "12316ed29e75ee016ee495aa19cf9ca77e9c06eff8cfcde32bf7918839b0e7e5"), looks := false }, kinds := [], alts := [], laidByText := true, laidKinds := [.data, .data], laidTests := true, laidLooks := .later }
def NumReckonsUptoCardSaid : Prop := Claim7.holds Tryd.pinned (.plain (OpenSpec.upto numReckonsSpec)) numReckonsUptoCard

/-- THE SECOND FORM's CARD OF 'pharoslaw06.NumInverts'. -/
def numInvertsUptoCard : Claim7 := { stood := { row := numInvertsUptoRow, standIns := [], harness := (true, "12316ed29e75ee016ee495aa19cf9ca77e9c06eff8cfcde32bf7918839b0e7e5"), looks := false }, kinds := [], alts := [], laidByText := true, laidKinds := [.data, .data], laidTests := true, laidLooks := .later }
def NumInvertsUptoCardSaid : Prop := Claim7.holds Tryd.pinned (.plain (OpenSpec.upto numInvertsSpec)) numInvertsUptoCard

/-- THE SECOND FORM's CARD OF 'pharoslaw06.NumRows'. -/
def numRowsUptoCard : Claim7 := { stood := { row := numRowsUptoRow, standIns := [], harness := (true, "12316ed29e75ee016ee495aa19cf9ca77e9c06eff8cfcde32bf7918839b0e7e5"), looks := false }, kinds := [], alts := [], laidByText := true, laidKinds := [.data, .data], laidTests := true, laidLooks := .later }
def NumRowsUptoCardSaid : Prop := Claim7.holds Tryd.pinned (.plain (OpenSpec.upto numRowsSpec)) numRowsUptoCard

/-- THE SECOND FORM's CARD OF 'pharoslaw06.NumLaws'. -/
def numLawsUptoCard : Claim7 := { stood := { row := numLawsUptoRow, standIns := [], harness := (true, "12316ed29e75ee016ee495aa19cf9ca77e9c06eff8cfcde32bf7918839b0e7e5"), looks := false }, kinds := [], alts := [], laidByText := true, laidKinds := [.data, .data], laidTests := true, laidLooks := .later }
def NumLawsUptoCardSaid : Prop := Claim7.holds Tryd.pinned (.plain (OpenSpec.upto numLawsSpec)) numLawsUptoCard
end Rows
end Go.Proofs.YtjaocjnefopdfaaDoor
