/-
  DERIVED. GIVEN WITH THE SEED: THE CARDS: each row of YthbkhbfcocbnoaaDoorRows.lean that lists a variable, with what it lists TIED to the program's text (the seventh form; the later family's looks); each row that meets fmt, with fmt's text TOLD by the authors' own Lean function (tested against real Go, not proved from fmt's source: count such statements apart). THE CARD IS WHAT COUNTS. Prove the row's statement (the work); the ties are given (YthbkhbfcocbnoaaDoorTie.lean); close each card by the builder's one call (the guide's Derived/Test/ToyasCard.lean, 'card_holds'). Laid BY PROGRAM, IN A SANDBOX (cutbox-door.mjs). By AI agents, Wed Nov 11 2026. No macro, syntax, notation, axiom, sorry.
-/
import Derived.Test.YthbkhbfcocbnoaaDoorRows
import GoSem.ClaimSeven
namespace Go.Proofs.YthbkhbfcocbnoaaDoor
namespace Rows

/-- THE TIED CARD OF 'pharoslaw08.MontShared'. -/
def montSharedCard : Claim7 := { stood := { row := montSharedRow, standIns := [], harness := (true, "e63b5222f34068adadd748681483f2ead1af9cc5823911bf15fd88f41b1b2385"), looks := false }, kinds := [], alts := [], laidByText := true, laidKinds := [.data], laidTests := true, laidLooks := .later }
def MontSharedCardSaid : Prop := Claim7.holds Tryd.pinned (.plain (OpenSpec.ofChange montSharedSpec)) montSharedCard

/-- THE TIED CARD OF 'pharoslaw08.MontBoth'. -/
def montBothCard : Claim7 := { stood := { row := montBothRow, standIns := [], harness := (true, "e63b5222f34068adadd748681483f2ead1af9cc5823911bf15fd88f41b1b2385"), looks := false }, kinds := [], alts := [], laidByText := true, laidKinds := [.data], laidTests := true, laidLooks := .later }
def MontBothCardSaid : Prop := Claim7.holds Tryd.pinned (.plain (OpenSpec.ofChange montBothSpec)) montBothCard

/-- THE TIED CARD OF 'pharoslaw08.MontKeys'. -/
def montKeysCard : Claim7 := { stood := { row := montKeysRow, standIns := [], harness := (true, "e63b5222f34068adadd748681483f2ead1af9cc5823911bf15fd88f41b1b2385"), looks := false }, kinds := [], alts := [], laidByText := true, laidKinds := [.data], laidTests := true, laidLooks := .later }
def MontKeysCardSaid : Prop := Claim7.holds Tryd.pinned (.plain (OpenSpec.ofChange montKeysSpec)) montKeysCard

/-- THE SECOND FORM's CARD OF 'pharoslaw08.MontShared'. -/
def montSharedUptoCard : Claim7 := { stood := { row := montSharedUptoRow, standIns := [], harness := (true, "e63b5222f34068adadd748681483f2ead1af9cc5823911bf15fd88f41b1b2385"), looks := false }, kinds := [], alts := [], laidByText := true, laidKinds := [.data], laidTests := true, laidLooks := .later }
def MontSharedUptoCardSaid : Prop := Claim7.holds Tryd.pinned (.plain (OpenSpec.upto montSharedSpec)) montSharedUptoCard

/-- THE SECOND FORM's CARD OF 'pharoslaw08.MontBoth'. -/
def montBothUptoCard : Claim7 := { stood := { row := montBothUptoRow, standIns := [], harness := (true, "e63b5222f34068adadd748681483f2ead1af9cc5823911bf15fd88f41b1b2385"), looks := false }, kinds := [], alts := [], laidByText := true, laidKinds := [.data], laidTests := true, laidLooks := .later }
def MontBothUptoCardSaid : Prop := Claim7.holds Tryd.pinned (.plain (OpenSpec.upto montBothSpec)) montBothUptoCard

/-- THE SECOND FORM's CARD OF 'pharoslaw08.MontKeys'. -/
def montKeysUptoCard : Claim7 := { stood := { row := montKeysUptoRow, standIns := [], harness := (true, "e63b5222f34068adadd748681483f2ead1af9cc5823911bf15fd88f41b1b2385"), looks := false }, kinds := [], alts := [], laidByText := true, laidKinds := [.data], laidTests := true, laidLooks := .later }
def MontKeysUptoCardSaid : Prop := Claim7.holds Tryd.pinned (.plain (OpenSpec.upto montKeysSpec)) montKeysUptoCard
end Rows
end Go.Proofs.YthbkhbfcocbnoaaDoor
