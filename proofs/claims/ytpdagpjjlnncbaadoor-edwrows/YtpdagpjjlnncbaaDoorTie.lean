/-
  DERIVED. GIVEN WITH THE SEED: THE PROGRAM's TIES (one call each: nine closed facts by the kernel) AND EACH ROW's TIE, after the 31st guide's Derived/Test/Toyas{Tie, Card}.lean. No idea stands in it: it is a product of the set-up. Laid BY PROGRAM, IN A SANDBOX (cutbox-door.mjs). By AI agents, Wed Nov 11 2026. No macro, syntax, notation, axiom, sorry.
-/
import Derived.Test.YtpdagpjjlnncbaaDoorRows
import Derived.LaidByTextLater
import Derived.SevenTiedAt
import Derived.LaidSub
import Derived.LaidOnce
namespace Go.Proofs.YtpdagpjjlnncbaaDoor
open Go
set_option maxRecDepth 100000
theorem seatTie1 : Tryd.prog.laidByTextLater [("pharos/num.rootOfMinusOne", Rows.laid_pharos_num_rootOfMinusOne), ("pharos/num.prime", Rows.laid_pharos_num_prime), ("pharos/order.whole", Rows.laid_pharos_order_whole)] [.data, .data, .data] true :=
  Program.laidByTextLater_by_one 24 8 5 (by kernel_rfl) (by kernel_rfl) (by kernel_rfl) (by kernel_rfl) (by kernel_rfl) (by kernel_rfl) (fun _ _ => by kernel_rfl)
theorem noOwnUnsafe : Tryd.pinned.checked.prog.headLifts.contains "ownunsafe" = false := by kernel_rfl
theorem tie : Tryd.prog.laidByTextLater [("pharos/num.rootOfMinusOne", Rows.laid_pharos_num_rootOfMinusOne), ("pharos/num.prime", Rows.laid_pharos_num_prime)] [.data, .data] true :=
  Program.laidByTextLater.sub seatTie1 ["pharos/num.rootOfMinusOne", "pharos/num.prime"] (by kernel_rfl) (by kernel_rfl)
theorem edwReads_row_tie : Rows.edwReadsRow.laidByTextAt .later Tryd.pinned [.data, .data] true :=
  OpenClaim.laidByTextAt_later rfl rfl tie noOwnUnsafe
theorem edwRows_row_tie : Rows.edwRowsRow.laidByTextAt .later Tryd.pinned [.data, .data] true :=
  OpenClaim.laidByTextAt_later rfl rfl tie noOwnUnsafe
theorem tie2 : Tryd.prog.laidByTextLater [("pharos/num.rootOfMinusOne", Rows.laid_pharos_num_rootOfMinusOne), ("pharos/num.prime", Rows.laid_pharos_num_prime), ("pharos/order.whole", Rows.laid_pharos_order_whole)] [.data, .data, .data] true :=
  Program.laidByTextLater.sub seatTie1 ["pharos/num.rootOfMinusOne", "pharos/num.prime", "pharos/order.whole"] (by kernel_rfl) (by kernel_rfl)
theorem edwReckons_row_tie : Rows.edwReckonsRow.laidByTextAt .later Tryd.pinned [.data, .data, .data] true :=
  OpenClaim.laidByTextAt_later rfl rfl tie2 noOwnUnsafe
theorem edwLaws_row_tie : Rows.edwLawsRow.laidByTextAt .later Tryd.pinned [.data, .data, .data] true :=
  OpenClaim.laidByTextAt_later rfl rfl tie2 noOwnUnsafe
theorem edwNone_row_tie : Rows.edwNoneRow.laidByTextAt .later Tryd.pinned [.data, .data, .data] true :=
  OpenClaim.laidByTextAt_later rfl rfl tie2 noOwnUnsafe
theorem edwReadsUpto_row_tie : Rows.edwReadsUptoRow.laidByTextAt .later Tryd.pinned [.data, .data] true :=
  OpenClaim.laidByTextAt_later rfl rfl tie noOwnUnsafe
theorem edwReckonsUpto_row_tie : Rows.edwReckonsUptoRow.laidByTextAt .later Tryd.pinned [.data, .data, .data] true :=
  OpenClaim.laidByTextAt_later rfl rfl tie2 noOwnUnsafe
theorem edwRowsUpto_row_tie : Rows.edwRowsUptoRow.laidByTextAt .later Tryd.pinned [.data, .data] true :=
  OpenClaim.laidByTextAt_later rfl rfl tie noOwnUnsafe
theorem edwLawsUpto_row_tie : Rows.edwLawsUptoRow.laidByTextAt .later Tryd.pinned [.data, .data, .data] true :=
  OpenClaim.laidByTextAt_later rfl rfl tie2 noOwnUnsafe
theorem edwNoneUpto_row_tie : Rows.edwNoneUptoRow.laidByTextAt .later Tryd.pinned [.data, .data, .data] true :=
  OpenClaim.laidByTextAt_later rfl rfl tie2 noOwnUnsafe
end Go.Proofs.YtpdagpjjlnncbaaDoor
