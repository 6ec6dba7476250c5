/-
  NARROWER THAN 'FOR EVERY INPUT', by the rows' own cells (each row's printed sentence says how): EdwReads: laid · EdwReckons: laid · EdwRows: laid · EdwLaws: laid · EdwNone: laid.
  DERIVED. THE GIVEN ROWS OF THIS SEAT. 5 by the template 'for every input the law returns true; each argument reads behind the call as it read before'; 0 by the template 'total and deterministic' (their statements: YtpdagpjjlnncbaaDoorTotals.lean).
  GIVEN WITH THE SEED: the statements are not yours to turn. If you find one false, say at which input.
  Laid BY PROGRAM, IN A SANDBOX (cutbox-rows.mjs): the forced cells as the released guide's own fill.sh prints them over the translation bc7e75bfcb84ceb0… (all of the seat's roots in one cut). By AI agents, Wed Nov 11 2026. No macro, syntax, notation, axiom, sorry.
-/
import Derived.Test.YtpdagpjjlnncbaaDoorChecked
import GoSem.Claim
import GoSem.ClaimJoined
import GoSem.ClaimMapViews
import Derived.JoinedTies
import Derived.KernelRfl
namespace Go.Proofs.YtpdagpjjlnncbaaDoor
/- THE CELL 'sum', in the pinned program and in every row, IS THE sha256 OF THE DUMP (.gsa) THAT YtpdagpjjlnncbaaDoorProg.lean LOADS. Nothing in Lean hashes anything: it is a label: what it is worth is what the hold of that sum in a sandbox is worth. -/
noncomputable def Tryd.pinned : Pinned := { name := "ytpdagpjjlnncbaadoor", sum := "bc7e75bfcb84ceb0fcb4119c5208bf5a8e5b63a6570bae861bbefd964f1e46e0", checked := Tryd.checked }
namespace Rows
def none {H : Type} : Left H := { results := [], args := [] }

/- WHAT THE LISTED PACKAGE-LEVEL VARIABLES READ AS WHEN THE CALL BEGINS. Each datum BY PROGRAM (the guide's laid-datum.mjs) off the statement by which the dump's own 'gosem.cut.vars' lays the variable. In a bare row this is a premise. The card (YtpdagpjjlnncbaaDoorCards.lean) ties it to the program's text. -/
def laid_pharos_num_rootOfMinusOne {H : Type} : DataW H := .agg [.lit (.int .u64 14190309331451158704), .lit (.int .u64 3405592160176694392), .lit (.int .u64 3120150775007532967), .lit (.int .u64 3135389899092516619)]
def laid_pharos_num_prime {H : Type} : DataW H := .agg [.lit (.int .u64 18446744073709551597), .lit (.int .u64 18446744073709551615), .lit (.int .u64 18446744073709551615), .lit (.int .u64 9223372036854775807)]
def laid_pharos_order_whole {H : Type} : DataW H := .agg [.lit (.int .u64 6346243789798364141), .lit (.int .u64 1503914060200516822), .lit (.int .u64 0), .lit (.int .u64 1152921504606846976)]

/-- 'pharoslaw09.EdwReads': WHATEVER THE INPUT: true; the input reads as it did. -/
def edwReadsSpec : ChangeSpec := { name := "edwReads", fn := fun _ => fun
  | [d] => { results := [.lit (.bool true)], args := [d] }
  | _ => none }
def edwReadsRow : OpenClaim := { program := "ytpdagpjjlnncbaadoor", sum := "bc7e75bfcb84ceb0fcb4119c5208bf5a8e5b63a6570bae861bbefd964f1e46e0", func := "pharos/pharoslaw09.EdwReads", spec := "edwReads", inPlace := ["math/bits.Add64", "math/bits.Sub64"], named := ["pharos/num.prime", "pharos/num.rootOfMinusOne"], apart := false, laid := [("pharos/num.rootOfMinusOne", laid_pharos_num_rootOfMinusOne), ("pharos/num.prime", laid_pharos_num_prime)] }
def EdwReadsSaid : Prop := edwReadsRow.holds Tryd.pinned (OpenSpec.ofChange edwReadsSpec)

/-- ITS FALSE NEIGHBOUR: 'it returns false'. Refute it at one input. -/
def edwReadsWrong : ChangeSpec := { name := "edwReads", fn := fun _ => fun
  | [d] => { results := [.lit (.bool false)], args := [d] }
  | _ => none }
def EdwReadsWrongFalsely : Prop := edwReadsRow.holds Tryd.pinned (OpenSpec.ofChange edwReadsWrong)

/-- 'pharoslaw09.EdwReckons': WHATEVER THE INPUT: true; the input reads as it did. -/
def edwReckonsSpec : ChangeSpec := { name := "edwReckons", fn := fun _ => fun
  | [d1, d2, d3, d4] => { results := [.lit (.bool true)], args := [d1, d2, d3, d4] }
  | _ => none }
def edwReckonsRow : OpenClaim := { program := "ytpdagpjjlnncbaadoor", sum := "bc7e75bfcb84ceb0fcb4119c5208bf5a8e5b63a6570bae861bbefd964f1e46e0", func := "pharos/pharoslaw09.EdwReckons", spec := "edwReckons", inPlace := ["math/bits.Sub64", "math/bits.Add64"], named := ["pharos/num.prime", "pharos/num.rootOfMinusOne", "pharos/order.whole"], apart := false, laid := [("pharos/num.rootOfMinusOne", laid_pharos_num_rootOfMinusOne), ("pharos/num.prime", laid_pharos_num_prime), ("pharos/order.whole", laid_pharos_order_whole)] }
def EdwReckonsSaid : Prop := edwReckonsRow.holds Tryd.pinned (OpenSpec.ofChange edwReckonsSpec)

/-- ITS FALSE NEIGHBOUR: 'it returns false'. Refute it at one input. -/
def edwReckonsWrong : ChangeSpec := { name := "edwReckons", fn := fun _ => fun
  | [d1, d2, d3, d4] => { results := [.lit (.bool false)], args := [d1, d2, d3, d4] }
  | _ => none }
def EdwReckonsWrongFalsely : Prop := edwReckonsRow.holds Tryd.pinned (OpenSpec.ofChange edwReckonsWrong)

/-- 'pharoslaw09.EdwRows': WHATEVER THE INPUT: true; the input reads as it did. -/
def edwRowsSpec : ChangeSpec := { name := "edwRows", fn := fun _ => fun
  | [d1, d2] => { results := [.lit (.bool true)], args := [d1, d2] }
  | _ => none }
def edwRowsRow : OpenClaim := { program := "ytpdagpjjlnncbaadoor", sum := "bc7e75bfcb84ceb0fcb4119c5208bf5a8e5b63a6570bae861bbefd964f1e46e0", func := "pharos/pharoslaw09.EdwRows", spec := "edwRows", inPlace := ["math/bits.Sub64", "math/bits.Add64"], named := ["pharos/num.prime", "pharos/num.rootOfMinusOne"], apart := false, laid := [("pharos/num.rootOfMinusOne", laid_pharos_num_rootOfMinusOne), ("pharos/num.prime", laid_pharos_num_prime)] }
def EdwRowsSaid : Prop := edwRowsRow.holds Tryd.pinned (OpenSpec.ofChange edwRowsSpec)

/-- ITS FALSE NEIGHBOUR: 'it returns false'. Refute it at one input. -/
def edwRowsWrong : ChangeSpec := { name := "edwRows", fn := fun _ => fun
  | [d1, d2] => { results := [.lit (.bool false)], args := [d1, d2] }
  | _ => none }
def EdwRowsWrongFalsely : Prop := edwRowsRow.holds Tryd.pinned (OpenSpec.ofChange edwRowsWrong)

/-- 'pharoslaw09.EdwLaws': WHATEVER THE INPUT: true; the input reads as it did. -/
def edwLawsSpec : ChangeSpec := { name := "edwLaws", fn := fun _ => fun
  | [d1, d2, d3, d4, d5] => { results := [.lit (.bool true)], args := [d1, d2, d3, d4, d5] }
  | _ => none }
def edwLawsRow : OpenClaim := { program := "ytpdagpjjlnncbaadoor", sum := "bc7e75bfcb84ceb0fcb4119c5208bf5a8e5b63a6570bae861bbefd964f1e46e0", func := "pharos/pharoslaw09.EdwLaws", spec := "edwLaws", inPlace := ["math/bits.Sub64", "math/bits.Add64"], named := ["pharos/num.prime", "pharos/num.rootOfMinusOne", "pharos/order.whole"], apart := false, laid := [("pharos/num.rootOfMinusOne", laid_pharos_num_rootOfMinusOne), ("pharos/num.prime", laid_pharos_num_prime), ("pharos/order.whole", laid_pharos_order_whole)] }
def EdwLawsSaid : Prop := edwLawsRow.holds Tryd.pinned (OpenSpec.ofChange edwLawsSpec)

/-- ITS FALSE NEIGHBOUR: 'it returns false'. Refute it at one input. -/
def edwLawsWrong : ChangeSpec := { name := "edwLaws", fn := fun _ => fun
  | [d1, d2, d3, d4, d5] => { results := [.lit (.bool false)], args := [d1, d2, d3, d4, d5] }
  | _ => none }
def EdwLawsWrongFalsely : Prop := edwLawsRow.holds Tryd.pinned (OpenSpec.ofChange edwLawsWrong)

/-- 'pharoslaw09.EdwNone': WHATEVER THE INPUT: true; the input reads as it did. -/
def edwNoneSpec : ChangeSpec := { name := "edwNone", fn := fun _ => fun
  | [d] => { results := [.lit (.bool true)], args := [d] }
  | _ => none }
def edwNoneRow : OpenClaim := { program := "ytpdagpjjlnncbaadoor", sum := "bc7e75bfcb84ceb0fcb4119c5208bf5a8e5b63a6570bae861bbefd964f1e46e0", func := "pharos/pharoslaw09.EdwNone", spec := "edwNone", inPlace := ["math/bits.Add64", "math/bits.Sub64"], named := ["pharos/order.whole", "pharos/num.prime", "pharos/num.rootOfMinusOne"], apart := false, laid := [("pharos/num.rootOfMinusOne", laid_pharos_num_rootOfMinusOne), ("pharos/num.prime", laid_pharos_num_prime), ("pharos/order.whole", laid_pharos_order_whole)] }
def EdwNoneSaid : Prop := edwNoneRow.holds Tryd.pinned (OpenSpec.ofChange edwNoneSpec)

/-- ITS FALSE NEIGHBOUR: 'it returns false'. Refute it at one input. -/
def edwNoneWrong : ChangeSpec := { name := "edwNone", fn := fun _ => fun
  | [d] => { results := [.lit (.bool false)], args := [d] }
  | _ => none }
def EdwNoneWrongFalsely : Prop := edwNoneRow.holds Tryd.pinned (OpenSpec.ofChange edwNoneWrong)

/- THE SECOND FORM. 'bulk': how many values and letters a reading holds, each counted each time it is reached (what is shared counts as often as it is met; a slice's spare places count too). A statement '..UptoSaid' is the law's where the arguments, and the package variables that the reading takes, are together of bulk at most 1048576: NARROWER than '..Said'. Prove '..Said' where nothing that the law and all that it calls make is longer than what came in: it says more and counts as full. Else prove '..UptoSaid'. A law counts once. -/
mutual
def uptoBulk {H : Type} : DataW H → Nat
  | .lit (.string bytes) => bytes.length + 1
  | .lit _ => 1
  | .nil => 1
  | .ptr d => uptoBulk d + 1
  | .slice elems spare => uptoBulkAll elems + uptoBulkAll spare + 1
  | .agg parts => uptoBulkAll parts + 1
  | .iface _ d => uptoBulk d + 1
  | .map entries => uptoBulkEntries entries + 1
  | .held _ => 1
def uptoBulkAll {H : Type} : List (DataW H) → Nat
  | [] => 0
  | d :: r => uptoBulk d + uptoBulkAll r
def uptoBulkEntries {H : Type} : List (Lit × DataW H) → Nat
  | [] => 0
  | x :: r => uptoBulkEntry x + uptoBulkEntries r
def uptoBulkEntry {H : Type} : Lit × DataW H → Nat
  | (.string bytes, d) => bytes.length + uptoBulk d + 1
  | (_, d) => uptoBulk d + 1
 end
def uptoSmall : (H : Type) → List (DataW H) → Bool := fun _ ds => decide (uptoBulkAll ds ≤ 1048576)
def OpenSpec.upto (s : _root_.Go.ChangeSpec) : _root_.Go.OpenSpec := { _root_.Go.OpenSpec.ofChange s with cond := some uptoSmall }

/-- 'pharoslaw09.EdwReads', WHERE WHAT IT READS IS OF BULK AT MOST 1048576: true; the input reads as it did. -/
def edwReadsUptoRow : OpenClaim := { program := "ytpdagpjjlnncbaadoor", sum := "bc7e75bfcb84ceb0fcb4119c5208bf5a8e5b63a6570bae861bbefd964f1e46e0", func := "pharos/pharoslaw09.EdwReads", spec := "edwReads", inPlace := ["math/bits.Add64", "math/bits.Sub64"], named := ["pharos/num.prime", "pharos/num.rootOfMinusOne"], apart := false, laid := [("pharos/num.rootOfMinusOne", laid_pharos_num_rootOfMinusOne), ("pharos/num.prime", laid_pharos_num_prime)], narrowed := true }
def EdwReadsUptoSaid : Prop := edwReadsUptoRow.holds Tryd.pinned (OpenSpec.upto edwReadsSpec)

/-- 'pharoslaw09.EdwReckons', WHERE WHAT IT READS IS OF BULK AT MOST 1048576: true; the input reads as it did. -/
def edwReckonsUptoRow : OpenClaim := { program := "ytpdagpjjlnncbaadoor", sum := "bc7e75bfcb84ceb0fcb4119c5208bf5a8e5b63a6570bae861bbefd964f1e46e0", func := "pharos/pharoslaw09.EdwReckons", spec := "edwReckons", inPlace := ["math/bits.Sub64", "math/bits.Add64"], named := ["pharos/num.prime", "pharos/num.rootOfMinusOne", "pharos/order.whole"], apart := false, laid := [("pharos/num.rootOfMinusOne", laid_pharos_num_rootOfMinusOne), ("pharos/num.prime", laid_pharos_num_prime), ("pharos/order.whole", laid_pharos_order_whole)], narrowed := true }
def EdwReckonsUptoSaid : Prop := edwReckonsUptoRow.holds Tryd.pinned (OpenSpec.upto edwReckonsSpec)

/-- 'pharoslaw09.EdwRows', WHERE WHAT IT READS IS OF BULK AT MOST 1048576: true; the input reads as it did. -/
def edwRowsUptoRow : OpenClaim := { program := "ytpdagpjjlnncbaadoor", sum := "bc7e75bfcb84ceb0fcb4119c5208bf5a8e5b63a6570bae861bbefd964f1e46e0", func := "pharos/pharoslaw09.EdwRows", spec := "edwRows", inPlace := ["math/bits.Sub64", "math/bits.Add64"], named := ["pharos/num.prime", "pharos/num.rootOfMinusOne"], apart := false, laid := [("pharos/num.rootOfMinusOne", laid_pharos_num_rootOfMinusOne), ("pharos/num.prime", laid_pharos_num_prime)], narrowed := true }
def EdwRowsUptoSaid : Prop := edwRowsUptoRow.holds Tryd.pinned (OpenSpec.upto edwRowsSpec)

/-- 'pharoslaw09.EdwLaws', WHERE WHAT IT READS IS OF BULK AT MOST 1048576: true; the input reads as it did. -/
def edwLawsUptoRow : OpenClaim := { program := "ytpdagpjjlnncbaadoor", sum := "bc7e75bfcb84ceb0fcb4119c5208bf5a8e5b63a6570bae861bbefd964f1e46e0", func := "pharos/pharoslaw09.EdwLaws", spec := "edwLaws", inPlace := ["math/bits.Sub64", "math/bits.Add64"], named := ["pharos/num.prime", "pharos/num.rootOfMinusOne", "pharos/order.whole"], apart := false, laid := [("pharos/num.rootOfMinusOne", laid_pharos_num_rootOfMinusOne), ("pharos/num.prime", laid_pharos_num_prime), ("pharos/order.whole", laid_pharos_order_whole)], narrowed := true }
def EdwLawsUptoSaid : Prop := edwLawsUptoRow.holds Tryd.pinned (OpenSpec.upto edwLawsSpec)

/-- 'pharoslaw09.EdwNone', WHERE WHAT IT READS IS OF BULK AT MOST 1048576: true; the input reads as it did. -/
def edwNoneUptoRow : OpenClaim := { program := "ytpdagpjjlnncbaadoor", sum := "bc7e75bfcb84ceb0fcb4119c5208bf5a8e5b63a6570bae861bbefd964f1e46e0", func := "pharos/pharoslaw09.EdwNone", spec := "edwNone", inPlace := ["math/bits.Add64", "math/bits.Sub64"], named := ["pharos/order.whole", "pharos/num.prime", "pharos/num.rootOfMinusOne"], apart := false, laid := [("pharos/num.rootOfMinusOne", laid_pharos_num_rootOfMinusOne), ("pharos/num.prime", laid_pharos_num_prime), ("pharos/order.whole", laid_pharos_order_whole)], narrowed := true }
def EdwNoneUptoSaid : Prop := edwNoneUptoRow.holds Tryd.pinned (OpenSpec.upto edwNoneSpec)

end Rows
end Go.Proofs.YtpdagpjjlnncbaaDoor
