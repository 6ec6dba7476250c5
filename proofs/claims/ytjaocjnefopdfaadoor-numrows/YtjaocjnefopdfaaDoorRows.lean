/-
  NARROWER THAN 'FOR EVERY INPUT', by the rows' own cells (each row's printed sentence says how): NumReads: laid · NumReckons: laid · NumInverts: laid · NumRows: laid · NumLaws: laid.
  DERIVED. THE GIVEN ROWS OF THIS SEAT. 5 by the template 'for every input the law returns true; each argument reads behind the call as it read before'; 0 by the template 'total and deterministic' (their statements: YtjaocjnefopdfaaDoorTotals.lean).
  GIVEN WITH THE SEED: the statements are not yours to turn. If you find one false, say at which input.
  Laid BY PROGRAM, IN A SANDBOX (cutbox-rows.mjs): the forced cells as the released guide's own fill.sh prints them over the translation 83cb2b5cdf64e953… (all of the seat's roots in one cut). By AI agents, Wed Nov 11 2026. No macro, syntax, notation, axiom, sorry.
-/
import Derived.Test.YtjaocjnefopdfaaDoorChecked
import GoSem.Claim
import GoSem.ClaimJoined
import GoSem.ClaimMapViews
import Derived.JoinedTies
import Derived.KernelRfl
namespace Go.Proofs.YtjaocjnefopdfaaDoor
/- THE CELL 'sum', in the pinned program and in every row, IS THE sha256 OF THE DUMP (.gsa) THAT YtjaocjnefopdfaaDoorProg.lean LOADS. Nothing in Lean hashes anything: it is a label: what it is worth is what the hold of that sum in a sandbox is worth. -/
noncomputable def Tryd.pinned : Pinned := { name := "ytjaocjnefopdfaadoor", sum := "83cb2b5cdf64e9537e4caa7c0f43735d79789fa09b8fec15d449a176b01ab87d", checked := Tryd.checked }
namespace Rows
def none {H : Type} : Left H := { results := [], args := [] }

/- WHAT THE LISTED PACKAGE-LEVEL VARIABLES READ AS WHEN THE CALL BEGINS. Each datum BY PROGRAM (the guide's laid-datum.mjs) off the statement by which the dump's own 'gosem.cut.vars' lays the variable. In a bare row this is a premise. The card (YtjaocjnefopdfaaDoorCards.lean) ties it to the program's text. -/
def laid_pharos_num_rootOfMinusOne {H : Type} : DataW H := .agg [.lit (.int .u64 14190309331451158704), .lit (.int .u64 3405592160176694392), .lit (.int .u64 3120150775007532967), .lit (.int .u64 3135389899092516619)]
def laid_pharos_num_prime {H : Type} : DataW H := .agg [.lit (.int .u64 18446744073709551597), .lit (.int .u64 18446744073709551615), .lit (.int .u64 18446744073709551615), .lit (.int .u64 9223372036854775807)]

/-- 'pharoslaw06.NumReads': WHATEVER THE INPUT: true; the input reads as it did. -/
def numReadsSpec : ChangeSpec := { name := "numReads", fn := fun _ => fun
  | [d1, d2] => { results := [.lit (.bool true)], args := [d1, d2] }
  | _ => none }
def numReadsRow : OpenClaim := { program := "ytjaocjnefopdfaadoor", sum := "83cb2b5cdf64e9537e4caa7c0f43735d79789fa09b8fec15d449a176b01ab87d", func := "pharos/pharoslaw06.NumReads", spec := "numReads", inPlace := ["math/bits.Add64", "math/bits.Sub64"], named := ["pharos/num.rootOfMinusOne", "pharos/num.prime"], apart := false, laid := [("pharos/num.rootOfMinusOne", laid_pharos_num_rootOfMinusOne), ("pharos/num.prime", laid_pharos_num_prime)] }
def NumReadsSaid : Prop := numReadsRow.holds Tryd.pinned (OpenSpec.ofChange numReadsSpec)

/-- ITS FALSE NEIGHBOUR: 'it returns false'. Refute it at one input. -/
def numReadsWrong : ChangeSpec := { name := "numReads", fn := fun _ => fun
  | [d1, d2] => { results := [.lit (.bool false)], args := [d1, d2] }
  | _ => none }
def NumReadsWrongFalsely : Prop := numReadsRow.holds Tryd.pinned (OpenSpec.ofChange numReadsWrong)

/-- 'pharoslaw06.NumReckons': WHATEVER THE INPUT: true; the input reads as it did. -/
def numReckonsSpec : ChangeSpec := { name := "numReckons", fn := fun _ => fun
  | [d1, d2, d3] => { results := [.lit (.bool true)], args := [d1, d2, d3] }
  | _ => none }
def numReckonsRow : OpenClaim := { program := "ytjaocjnefopdfaadoor", sum := "83cb2b5cdf64e9537e4caa7c0f43735d79789fa09b8fec15d449a176b01ab87d", func := "pharos/pharoslaw06.NumReckons", spec := "numReckons", inPlace := ["math/bits.Add64", "math/bits.Sub64"], named := ["pharos/num.prime", "pharos/num.rootOfMinusOne"], apart := false, laid := [("pharos/num.rootOfMinusOne", laid_pharos_num_rootOfMinusOne), ("pharos/num.prime", laid_pharos_num_prime)] }
def NumReckonsSaid : Prop := numReckonsRow.holds Tryd.pinned (OpenSpec.ofChange numReckonsSpec)

/-- ITS FALSE NEIGHBOUR: 'it returns false'. Refute it at one input. -/
def numReckonsWrong : ChangeSpec := { name := "numReckons", fn := fun _ => fun
  | [d1, d2, d3] => { results := [.lit (.bool false)], args := [d1, d2, d3] }
  | _ => none }
def NumReckonsWrongFalsely : Prop := numReckonsRow.holds Tryd.pinned (OpenSpec.ofChange numReckonsWrong)

/-- 'pharoslaw06.NumInverts': WHATEVER THE INPUT: true; the input reads as it did. -/
def numInvertsSpec : ChangeSpec := { name := "numInverts", fn := fun _ => fun
  | [d1, d2] => { results := [.lit (.bool true)], args := [d1, d2] }
  | _ => none }
def numInvertsRow : OpenClaim := { program := "ytjaocjnefopdfaadoor", sum := "83cb2b5cdf64e9537e4caa7c0f43735d79789fa09b8fec15d449a176b01ab87d", func := "pharos/pharoslaw06.NumInverts", spec := "numInverts", inPlace := ["math/bits.Add64", "math/bits.Sub64"], named := ["pharos/num.prime", "pharos/num.rootOfMinusOne"], apart := false, laid := [("pharos/num.rootOfMinusOne", laid_pharos_num_rootOfMinusOne), ("pharos/num.prime", laid_pharos_num_prime)] }
def NumInvertsSaid : Prop := numInvertsRow.holds Tryd.pinned (OpenSpec.ofChange numInvertsSpec)

/-- ITS FALSE NEIGHBOUR: 'it returns false'. Refute it at one input. -/
def numInvertsWrong : ChangeSpec := { name := "numInverts", fn := fun _ => fun
  | [d1, d2] => { results := [.lit (.bool false)], args := [d1, d2] }
  | _ => none }
def NumInvertsWrongFalsely : Prop := numInvertsRow.holds Tryd.pinned (OpenSpec.ofChange numInvertsWrong)

/-- 'pharoslaw06.NumRows': WHATEVER THE INPUT: true; the input reads as it did. -/
def numRowsSpec : ChangeSpec := { name := "numRows", fn := fun _ => fun
  | [d1, d2] => { results := [.lit (.bool true)], args := [d1, d2] }
  | _ => none }
def numRowsRow : OpenClaim := { program := "ytjaocjnefopdfaadoor", sum := "83cb2b5cdf64e9537e4caa7c0f43735d79789fa09b8fec15d449a176b01ab87d", func := "pharos/pharoslaw06.NumRows", spec := "numRows", inPlace := ["math/bits.Add64", "math/bits.Sub64"], named := ["pharos/num.prime", "pharos/num.rootOfMinusOne"], apart := false, laid := [("pharos/num.rootOfMinusOne", laid_pharos_num_rootOfMinusOne), ("pharos/num.prime", laid_pharos_num_prime)] }
def NumRowsSaid : Prop := numRowsRow.holds Tryd.pinned (OpenSpec.ofChange numRowsSpec)

/-- ITS FALSE NEIGHBOUR: 'it returns false'. Refute it at one input. -/
def numRowsWrong : ChangeSpec := { name := "numRows", fn := fun _ => fun
  | [d1, d2] => { results := [.lit (.bool false)], args := [d1, d2] }
  | _ => none }
def NumRowsWrongFalsely : Prop := numRowsRow.holds Tryd.pinned (OpenSpec.ofChange numRowsWrong)

/-- 'pharoslaw06.NumLaws': WHATEVER THE INPUT: true; the input reads as it did. -/
def numLawsSpec : ChangeSpec := { name := "numLaws", fn := fun _ => fun
  | [d1, d2, d3] => { results := [.lit (.bool true)], args := [d1, d2, d3] }
  | _ => none }
def numLawsRow : OpenClaim := { program := "ytjaocjnefopdfaadoor", sum := "83cb2b5cdf64e9537e4caa7c0f43735d79789fa09b8fec15d449a176b01ab87d", func := "pharos/pharoslaw06.NumLaws", spec := "numLaws", inPlace := ["math/bits.Add64", "math/bits.Sub64"], named := ["pharos/num.prime", "pharos/num.rootOfMinusOne"], apart := false, laid := [("pharos/num.rootOfMinusOne", laid_pharos_num_rootOfMinusOne), ("pharos/num.prime", laid_pharos_num_prime)] }
def NumLawsSaid : Prop := numLawsRow.holds Tryd.pinned (OpenSpec.ofChange numLawsSpec)

/-- ITS FALSE NEIGHBOUR: 'it returns false'. Refute it at one input. -/
def numLawsWrong : ChangeSpec := { name := "numLaws", fn := fun _ => fun
  | [d1, d2, d3] => { results := [.lit (.bool false)], args := [d1, d2, d3] }
  | _ => none }
def NumLawsWrongFalsely : Prop := numLawsRow.holds Tryd.pinned (OpenSpec.ofChange numLawsWrong)

/- THE SECOND FORM. 'bulk': how many values and letters a reading holds, each counted each time it is reached (what is shared counts as often as it is met; a slice's spare places count too). A statement '..UptoSaid' is the law's where the arguments, and the package variables that the reading takes, are together of bulk at most 1048576: NARROWER than '..Said'. Prove '..Said' where nothing that the law and all that it calls make is longer than what came in: it says more and counts as full. Else prove '..UptoSaid'. A law counts once. -/
mutual
def uptoBulk {H : Type} : DataW H → Nat
  | .lit (.string bytes) => bytes.length + 1
  | .lit _ => 1
  | .nil => 1
  | .ptr d => uptoBulk d + 1
  | .slice elems spare => uptoBulkAll elems + uptoBulkAll spare + 1
  | .agg parts => uptoBulkAll parts + 1
  | .iface _ d => uptoBulk d + 1
  | .map entries => uptoBulkEntries entries + 1
  | .held _ => 1
def uptoBulkAll {H : Type} : List (DataW H) → Nat
  | [] => 0
  | d :: r => uptoBulk d + uptoBulkAll r
def uptoBulkEntries {H : Type} : List (Lit × DataW H) → Nat
  | [] => 0
  | x :: r => uptoBulkEntry x + uptoBulkEntries r
def uptoBulkEntry {H : Type} : Lit × DataW H → Nat
  | (.string bytes, d) => bytes.length + uptoBulk d + 1
  | (_, d) => uptoBulk d + 1
 end
def uptoSmall : (H : Type) → List (DataW H) → Bool := fun _ ds => decide (uptoBulkAll ds ≤ 1048576)
def OpenSpec.upto (s : _root_.Go.ChangeSpec) : _root_.Go.OpenSpec := { _root_.Go.OpenSpec.ofChange s with cond := some uptoSmall }

/-- 'pharoslaw06.NumReads', WHERE WHAT IT READS IS OF BULK AT MOST 1048576: true; the input reads as it did. -/
def numReadsUptoRow : OpenClaim := { program := "ytjaocjnefopdfaadoor", sum := "83cb2b5cdf64e9537e4caa7c0f43735d79789fa09b8fec15d449a176b01ab87d", func := "pharos/pharoslaw06.NumReads", spec := "numReads", inPlace := ["math/bits.Add64", "math/bits.Sub64"], named := ["pharos/num.rootOfMinusOne", "pharos/num.prime"], apart := false, laid := [("pharos/num.rootOfMinusOne", laid_pharos_num_rootOfMinusOne), ("pharos/num.prime", laid_pharos_num_prime)], narrowed := true }
def NumReadsUptoSaid : Prop := numReadsUptoRow.holds Tryd.pinned (OpenSpec.upto numReadsSpec)

/-- 'pharoslaw06.NumReckons', WHERE WHAT IT READS IS OF BULK AT MOST 1048576: true; the input reads as it did. -/
def numReckonsUptoRow : OpenClaim := { program := "ytjaocjnefopdfaadoor", sum := "83cb2b5cdf64e9537e4caa7c0f43735d79789fa09b8fec15d449a176b01ab87d", func := "pharos/pharoslaw06.NumReckons", spec := "numReckons", inPlace := ["math/bits.Add64", "math/bits.Sub64"], named := ["pharos/num.prime", "pharos/num.rootOfMinusOne"], apart := false, laid := [("pharos/num.rootOfMinusOne", laid_pharos_num_rootOfMinusOne), ("pharos/num.prime", laid_pharos_num_prime)], narrowed := true }
def NumReckonsUptoSaid : Prop := numReckonsUptoRow.holds Tryd.pinned (OpenSpec.upto numReckonsSpec)

/-- 'pharoslaw06.NumInverts', WHERE WHAT IT READS IS OF BULK AT MOST 1048576: true; the input reads as it did. -/
def numInvertsUptoRow : OpenClaim := { program := "ytjaocjnefopdfaadoor", sum := "83cb2b5cdf64e9537e4caa7c0f43735d79789fa09b8fec15d449a176b01ab87d", func := "pharos/pharoslaw06.NumInverts", spec := "numInverts", inPlace := ["math/bits.Add64", "math/bits.Sub64"], named := ["pharos/num.prime", "pharos/num.rootOfMinusOne"], apart := false, laid := [("pharos/num.rootOfMinusOne", laid_pharos_num_rootOfMinusOne), ("pharos/num.prime", laid_pharos_num_prime)], narrowed := true }
def NumInvertsUptoSaid : Prop := numInvertsUptoRow.holds Tryd.pinned (OpenSpec.upto numInvertsSpec)

/-- 'pharoslaw06.NumRows', WHERE WHAT IT READS IS OF BULK AT MOST 1048576: true; the input reads as it did. -/
def numRowsUptoRow : OpenClaim := { program := "ytjaocjnefopdfaadoor", sum := "83cb2b5cdf64e9537e4caa7c0f43735d79789fa09b8fec15d449a176b01ab87d", func := "pharos/pharoslaw06.NumRows", spec := "numRows", inPlace := ["math/bits.Add64", "math/bits.Sub64"], named := ["pharos/num.prime", "pharos/num.rootOfMinusOne"], apart := false, laid := [("pharos/num.rootOfMinusOne", laid_pharos_num_rootOfMinusOne), ("pharos/num.prime", laid_pharos_num_prime)], narrowed := true }
def NumRowsUptoSaid : Prop := numRowsUptoRow.holds Tryd.pinned (OpenSpec.upto numRowsSpec)

/-- 'pharoslaw06.NumLaws', WHERE WHAT IT READS IS OF BULK AT MOST 1048576: true; the input reads as it did. -/
def numLawsUptoRow : OpenClaim := { program := "ytjaocjnefopdfaadoor", sum := "83cb2b5cdf64e9537e4caa7c0f43735d79789fa09b8fec15d449a176b01ab87d", func := "pharos/pharoslaw06.NumLaws", spec := "numLaws", inPlace := ["math/bits.Add64", "math/bits.Sub64"], named := ["pharos/num.prime", "pharos/num.rootOfMinusOne"], apart := false, laid := [("pharos/num.rootOfMinusOne", laid_pharos_num_rootOfMinusOne), ("pharos/num.prime", laid_pharos_num_prime)], narrowed := true }
def NumLawsUptoSaid : Prop := numLawsUptoRow.holds Tryd.pinned (OpenSpec.upto numLawsSpec)

end Rows
end Go.Proofs.YtjaocjnefopdfaaDoor
