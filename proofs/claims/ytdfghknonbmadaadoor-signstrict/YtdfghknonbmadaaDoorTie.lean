/-
  DERIVED. GIVEN WITH THE SEED: THE PROGRAM's TIES (one call each: nine closed facts by the kernel) AND EACH ROW's TIE, after the 31st guide's Derived/Test/Toyas{Tie, Card}.lean. No idea stands in it: it is a product of the set-up. Laid BY PROGRAM, IN A SANDBOX (cutbox-door.mjs). By AI agents, Wed Nov 11 2026. No macro, syntax, notation, axiom, sorry.
-/
import Derived.Test.YtdfghknonbmadaaDoorRows
import Derived.LaidByTextLater
import Derived.SevenTiedAt
import Derived.LaidSub
import Derived.LaidOnce
namespace Go.Proofs.YtdfghknonbmadaaDoor
open Go
set_option maxRecDepth 100000
theorem seatTie1 : Tryd.prog.laidByTextLater [("pharos/sha.begin", Rows.laid_pharos_sha_begin), ("pharos/sha.constants", Rows.laid_pharos_sha_constants), ("pharos/num.rootOfMinusOne", Rows.laid_pharos_num_rootOfMinusOne), ("pharos/num.prime", Rows.laid_pharos_num_prime), ("pharos/order.whole", Rows.laid_pharos_order_whole)] [.data, .data, .data, .data, .data] true :=
  Program.laidByTextLater_by_one 34 8 81 (by kernel_rfl) (by kernel_rfl) (by kernel_rfl) (by kernel_rfl) (by kernel_rfl) (by kernel_rfl) (fun _ _ => by kernel_rfl)
theorem noOwnUnsafe : Tryd.pinned.checked.prog.headLifts.contains "ownunsafe" = false := by kernel_rfl
theorem tie : Tryd.prog.laidByTextLater [("pharos/sha.begin", Rows.laid_pharos_sha_begin), ("pharos/sha.constants", Rows.laid_pharos_sha_constants), ("pharos/num.rootOfMinusOne", Rows.laid_pharos_num_rootOfMinusOne), ("pharos/num.prime", Rows.laid_pharos_num_prime), ("pharos/order.whole", Rows.laid_pharos_order_whole)] [.data, .data, .data, .data, .data] true :=
  Program.laidByTextLater.sub seatTie1 ["pharos/sha.begin", "pharos/sha.constants", "pharos/num.rootOfMinusOne", "pharos/num.prime", "pharos/order.whole"] (by kernel_rfl) (by kernel_rfl)
theorem signStrict_row_tie : Rows.signStrictRow.laidByTextAt .later Tryd.pinned [.data, .data, .data, .data, .data] true :=
  OpenClaim.laidByTextAt_later rfl rfl tie noOwnUnsafe
theorem signStrictUpto_row_tie : Rows.signStrictUptoRow.laidByTextAt .later Tryd.pinned [.data, .data, .data, .data, .data] true :=
  OpenClaim.laidByTextAt_later rfl rfl tie noOwnUnsafe
end Go.Proofs.YtdfghknonbmadaaDoor
