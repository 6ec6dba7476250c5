/-
  NARROWER THAN 'FOR EVERY INPUT', by the rows' own cells (each row's printed sentence says how): OrderReads: laid · OrderReckons: laid · OrderLaws: laid.
  DERIVED. THE GIVEN ROWS OF THIS SEAT. 3 by the template 'for every input the law returns true; each argument reads behind the call as it read before'; 0 by the template 'total and deterministic' (their statements: YtgjpombdkgomaaaDoorTotals.lean).
  GIVEN WITH THE SEED: the statements are not yours to turn. If you find one false, say at which input.
  Laid BY PROGRAM, IN A SANDBOX (cutbox-rows.mjs): the forced cells as the released guide's own fill.sh prints them over the translation bac668ab5738200e… (all of the seat's roots in one cut). By AI agents, Wed Nov 11 2026. No macro, syntax, notation, axiom, sorry.
-/
import Derived.Test.YtgjpombdkgomaaaDoorChecked
import GoSem.Claim
import GoSem.ClaimJoined
import GoSem.ClaimMapViews
import Derived.JoinedTies
import Derived.KernelRfl
namespace Go.Proofs.YtgjpombdkgomaaaDoor
/- THE CELL 'sum', in the pinned program and in every row, IS THE sha256 OF THE DUMP (.gsa) THAT YtgjpombdkgomaaaDoorProg.lean LOADS. Nothing in Lean hashes anything: it is a label: what it is worth is what the hold of that sum in a sandbox is worth. -/
noncomputable def Tryd.pinned : Pinned := { name := "ytgjpombdkgomaaadoor", sum := "bac668ab5738200e81721f2ead2ab02f7005c1db01a3a8d9f2752fb84fb38a8e", checked := Tryd.checked }
namespace Rows
def none {H : Type} : Left H := { results := [], args := [] }

/- WHAT THE LISTED PACKAGE-LEVEL VARIABLES READ AS WHEN THE CALL BEGINS. Each datum BY PROGRAM (the guide's laid-datum.mjs) off the statement by which the dump's own 'gosem.cut.vars' lays the variable. In a bare row this is a premise. The card (YtgjpombdkgomaaaDoorCards.lean) ties it to the program's text. -/
def laid_pharos_order_whole {H : Type} : DataW H := .agg [.lit (.int .u64 6346243789798364141), .lit (.int .u64 1503914060200516822), .lit (.int .u64 0), .lit (.int .u64 1152921504606846976)]

/-- 'pharoslaw07.OrderReads': WHATEVER THE INPUT: true; the input reads as it did. -/
def orderReadsSpec : ChangeSpec := { name := "orderReads", fn := fun _ => fun
  | [d] => { results := [.lit (.bool true)], args := [d] }
  | _ => none }
def orderReadsRow : OpenClaim := { program := "ytgjpombdkgomaaadoor", sum := "bac668ab5738200e81721f2ead2ab02f7005c1db01a3a8d9f2752fb84fb38a8e", func := "pharos/pharoslaw07.OrderReads", spec := "orderReads", inPlace := ["math/bits.Add64", "math/bits.Sub64"], named := ["pharos/order.whole"], apart := false, laid := [("pharos/order.whole", laid_pharos_order_whole)] }
def OrderReadsSaid : Prop := orderReadsRow.holds Tryd.pinned (OpenSpec.ofChange orderReadsSpec)

/-- ITS FALSE NEIGHBOUR: 'it returns false'. Refute it at one input. -/
def orderReadsWrong : ChangeSpec := { name := "orderReads", fn := fun _ => fun
  | [d] => { results := [.lit (.bool false)], args := [d] }
  | _ => none }
def OrderReadsWrongFalsely : Prop := orderReadsRow.holds Tryd.pinned (OpenSpec.ofChange orderReadsWrong)

/-- 'pharoslaw07.OrderReckons': WHATEVER THE INPUT: true; the input reads as it did. -/
def orderReckonsSpec : ChangeSpec := { name := "orderReckons", fn := fun _ => fun
  | [d1, d2, d3] => { results := [.lit (.bool true)], args := [d1, d2, d3] }
  | _ => none }
def orderReckonsRow : OpenClaim := { program := "ytgjpombdkgomaaadoor", sum := "bac668ab5738200e81721f2ead2ab02f7005c1db01a3a8d9f2752fb84fb38a8e", func := "pharos/pharoslaw07.OrderReckons", spec := "orderReckons", inPlace := ["math/bits.Add64", "math/bits.Sub64"], named := ["pharos/order.whole"], apart := false, laid := [("pharos/order.whole", laid_pharos_order_whole)] }
def OrderReckonsSaid : Prop := orderReckonsRow.holds Tryd.pinned (OpenSpec.ofChange orderReckonsSpec)

/-- ITS FALSE NEIGHBOUR: 'it returns false'. Refute it at one input. -/
def orderReckonsWrong : ChangeSpec := { name := "orderReckons", fn := fun _ => fun
  | [d1, d2, d3] => { results := [.lit (.bool false)], args := [d1, d2, d3] }
  | _ => none }
def OrderReckonsWrongFalsely : Prop := orderReckonsRow.holds Tryd.pinned (OpenSpec.ofChange orderReckonsWrong)

/-- 'pharoslaw07.OrderLaws': WHATEVER THE INPUT: true; the input reads as it did. -/
def orderLawsSpec : ChangeSpec := { name := "orderLaws", fn := fun _ => fun
  | [d1, d2, d3] => { results := [.lit (.bool true)], args := [d1, d2, d3] }
  | _ => none }
def orderLawsRow : OpenClaim := { program := "ytgjpombdkgomaaadoor", sum := "bac668ab5738200e81721f2ead2ab02f7005c1db01a3a8d9f2752fb84fb38a8e", func := "pharos/pharoslaw07.OrderLaws", spec := "orderLaws", inPlace := ["math/bits.Add64", "math/bits.Sub64"], named := ["pharos/order.whole"], apart := false, laid := [("pharos/order.whole", laid_pharos_order_whole)] }
def OrderLawsSaid : Prop := orderLawsRow.holds Tryd.pinned (OpenSpec.ofChange orderLawsSpec)

/-- ITS FALSE NEIGHBOUR: 'it returns false'. Refute it at one input. -/
def orderLawsWrong : ChangeSpec := { name := "orderLaws", fn := fun _ => fun
  | [d1, d2, d3] => { results := [.lit (.bool false)], args := [d1, d2, d3] }
  | _ => none }
def OrderLawsWrongFalsely : Prop := orderLawsRow.holds Tryd.pinned (OpenSpec.ofChange orderLawsWrong)

/- THE SECOND FORM. 'bulk': how many values and letters a reading holds, each counted each time it is reached (what is shared counts as often as it is met; a slice's spare places count too). A statement '..UptoSaid' is the law's where the arguments, and the package variables that the reading takes, are together of bulk at most 1048576: NARROWER than '..Said'. Prove '..Said' where nothing that the law and all that it calls make is longer than what came in: it says more and counts as full. Else prove '..UptoSaid'. A law counts once. -/
mutual
def uptoBulk {H : Type} : DataW H → Nat
  | .lit (.string bytes) => bytes.length + 1
  | .lit _ => 1
  | .nil => 1
  | .ptr d => uptoBulk d + 1
  | .slice elems spare => uptoBulkAll elems + uptoBulkAll spare + 1
  | .agg parts => uptoBulkAll parts + 1
  | .iface _ d => uptoBulk d + 1
  | .map entries => uptoBulkEntries entries + 1
  | .held _ => 1
def uptoBulkAll {H : Type} : List (DataW H) → Nat
  | [] => 0
  | d :: r => uptoBulk d + uptoBulkAll r
def uptoBulkEntries {H : Type} : List (Lit × DataW H) → Nat
  | [] => 0
  | x :: r => uptoBulkEntry x + uptoBulkEntries r
def uptoBulkEntry {H : Type} : Lit × DataW H → Nat
  | (.string bytes, d) => bytes.length + uptoBulk d + 1
  | (_, d) => uptoBulk d + 1
 end
def uptoSmall : (H : Type) → List (DataW H) → Bool := fun _ ds => decide (uptoBulkAll ds ≤ 1048576)
def OpenSpec.upto (s : _root_.Go.ChangeSpec) : _root_.Go.OpenSpec := { _root_.Go.OpenSpec.ofChange s with cond := some uptoSmall }

/-- 'pharoslaw07.OrderReads', WHERE WHAT IT READS IS OF BULK AT MOST 1048576: true; the input reads as it did. -/
def orderReadsUptoRow : OpenClaim := { program := "ytgjpombdkgomaaadoor", sum := "bac668ab5738200e81721f2ead2ab02f7005c1db01a3a8d9f2752fb84fb38a8e", func := "pharos/pharoslaw07.OrderReads", spec := "orderReads", inPlace := ["math/bits.Add64", "math/bits.Sub64"], named := ["pharos/order.whole"], apart := false, laid := [("pharos/order.whole", laid_pharos_order_whole)], narrowed := true }
def OrderReadsUptoSaid : Prop := orderReadsUptoRow.holds Tryd.pinned (OpenSpec.upto orderReadsSpec)

/-- 'pharoslaw07.OrderReckons', WHERE WHAT IT READS IS OF BULK AT MOST 1048576: true; the input reads as it did. -/
def orderReckonsUptoRow : OpenClaim := { program := "ytgjpombdkgomaaadoor", sum := "bac668ab5738200e81721f2ead2ab02f7005c1db01a3a8d9f2752fb84fb38a8e", func := "pharos/pharoslaw07.OrderReckons", spec := "orderReckons", inPlace := ["math/bits.Add64", "math/bits.Sub64"], named := ["pharos/order.whole"], apart := false, laid := [("pharos/order.whole", laid_pharos_order_whole)], narrowed := true }
def OrderReckonsUptoSaid : Prop := orderReckonsUptoRow.holds Tryd.pinned (OpenSpec.upto orderReckonsSpec)

/-- 'pharoslaw07.OrderLaws', WHERE WHAT IT READS IS OF BULK AT MOST 1048576: true; the input reads as it did. -/
def orderLawsUptoRow : OpenClaim := { program := "ytgjpombdkgomaaadoor", sum := "bac668ab5738200e81721f2ead2ab02f7005c1db01a3a8d9f2752fb84fb38a8e", func := "pharos/pharoslaw07.OrderLaws", spec := "orderLaws", inPlace := ["math/bits.Add64", "math/bits.Sub64"], named := ["pharos/order.whole"], apart := false, laid := [("pharos/order.whole", laid_pharos_order_whole)], narrowed := true }
def OrderLawsUptoSaid : Prop := orderLawsUptoRow.holds Tryd.pinned (OpenSpec.upto orderLawsSpec)

end Rows
end Go.Proofs.YtgjpombdkgomaaaDoor
