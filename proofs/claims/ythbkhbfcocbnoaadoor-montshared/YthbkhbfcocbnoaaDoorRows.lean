/-
  NARROWER THAN 'FOR EVERY INPUT', by the rows' own cells (each row's printed sentence says how): MontShared: laid · MontBoth: laid · MontKeys: laid.
  DERIVED. THE GIVEN ROWS OF THIS SEAT. 3 by the template 'for every input the law returns true; each argument reads behind the call as it read before'; 0 by the template 'total and deterministic' (their statements: YthbkhbfcocbnoaaDoorTotals.lean).
  GIVEN WITH THE SEED: the statements are not yours to turn. If you find one false, say at which input.
  Laid BY PROGRAM, IN A SANDBOX (cutbox-rows.mjs): the forced cells as the released guide's own fill.sh prints them over the translation 0cf0a5fa4c3208d8… (all of the seat's roots in one cut). By AI agents, Wed Nov 11 2026. No macro, syntax, notation, axiom, sorry.
-/
import Derived.Test.YthbkhbfcocbnoaaDoorChecked
import GoSem.Claim
import GoSem.ClaimJoined
import GoSem.ClaimMapViews
import Derived.JoinedTies
import Derived.KernelRfl
namespace Go.Proofs.YthbkhbfcocbnoaaDoor
/- THE CELL 'sum', in the pinned program and in every row, IS THE sha256 OF THE DUMP (.gsa) THAT YthbkhbfcocbnoaaDoorProg.lean LOADS. Nothing in Lean hashes anything: it is a label: what it is worth is what the hold of that sum in a sandbox is worth. -/
noncomputable def Tryd.pinned : Pinned := { name := "ythbkhbfcocbnoaadoor", sum := "0cf0a5fa4c3208d8f63d4daa6701d766aaaf49815055336624390f11906221d4", checked := Tryd.checked }
namespace Rows
def none {H : Type} : Left H := { results := [], args := [] }

/- WHAT THE LISTED PACKAGE-LEVEL VARIABLES READ AS WHEN THE CALL BEGINS. Each datum BY PROGRAM (the guide's laid-datum.mjs) off the statement by which the dump's own 'gosem.cut.vars' lays the variable. In a bare row this is a premise. The card (YthbkhbfcocbnoaaDoorCards.lean) ties it to the program's text. -/
def laid_pharos_num_prime {H : Type} : DataW H := .agg [.lit (.int .u64 18446744073709551597), .lit (.int .u64 18446744073709551615), .lit (.int .u64 18446744073709551615), .lit (.int .u64 9223372036854775807)]

/-- 'pharoslaw08.MontShared': WHATEVER THE INPUT: true; the input reads as it did. -/
def montSharedSpec : ChangeSpec := { name := "montShared", fn := fun _ => fun
  | [d1, d2] => { results := [.lit (.bool true)], args := [d1, d2] }
  | _ => none }
def montSharedRow : OpenClaim := { program := "ythbkhbfcocbnoaadoor", sum := "0cf0a5fa4c3208d8f63d4daa6701d766aaaf49815055336624390f11906221d4", func := "pharos/pharoslaw08.MontShared", spec := "montShared", inPlace := ["math/bits.Add64", "math/bits.Sub64"], named := ["pharos/num.prime"], apart := false, laid := [("pharos/num.prime", laid_pharos_num_prime)] }
def MontSharedSaid : Prop := montSharedRow.holds Tryd.pinned (OpenSpec.ofChange montSharedSpec)

/-- ITS FALSE NEIGHBOUR: 'it returns false'. Refute it at one input. -/
def montSharedWrong : ChangeSpec := { name := "montShared", fn := fun _ => fun
  | [d1, d2] => { results := [.lit (.bool false)], args := [d1, d2] }
  | _ => none }
def MontSharedWrongFalsely : Prop := montSharedRow.holds Tryd.pinned (OpenSpec.ofChange montSharedWrong)

/-- 'pharoslaw08.MontBoth': WHATEVER THE INPUT: true; the input reads as it did. -/
def montBothSpec : ChangeSpec := { name := "montBoth", fn := fun _ => fun
  | [d1, d2, d3] => { results := [.lit (.bool true)], args := [d1, d2, d3] }
  | _ => none }
def montBothRow : OpenClaim := { program := "ythbkhbfcocbnoaadoor", sum := "0cf0a5fa4c3208d8f63d4daa6701d766aaaf49815055336624390f11906221d4", func := "pharos/pharoslaw08.MontBoth", spec := "montBoth", inPlace := ["math/bits.Add64", "math/bits.Sub64"], named := ["pharos/num.prime"], apart := false, laid := [("pharos/num.prime", laid_pharos_num_prime)] }
def MontBothSaid : Prop := montBothRow.holds Tryd.pinned (OpenSpec.ofChange montBothSpec)

/-- ITS FALSE NEIGHBOUR: 'it returns false'. Refute it at one input. -/
def montBothWrong : ChangeSpec := { name := "montBoth", fn := fun _ => fun
  | [d1, d2, d3] => { results := [.lit (.bool false)], args := [d1, d2, d3] }
  | _ => none }
def MontBothWrongFalsely : Prop := montBothRow.holds Tryd.pinned (OpenSpec.ofChange montBothWrong)

/-- 'pharoslaw08.MontKeys': WHATEVER THE INPUT: true; the input reads as it did. -/
def montKeysSpec : ChangeSpec := { name := "montKeys", fn := fun _ => fun
  | [d1, d2, d3] => { results := [.lit (.bool true)], args := [d1, d2, d3] }
  | _ => none }
def montKeysRow : OpenClaim := { program := "ythbkhbfcocbnoaadoor", sum := "0cf0a5fa4c3208d8f63d4daa6701d766aaaf49815055336624390f11906221d4", func := "pharos/pharoslaw08.MontKeys", spec := "montKeys", inPlace := ["math/bits.Add64", "math/bits.Sub64"], named := ["pharos/num.prime"], apart := false, laid := [("pharos/num.prime", laid_pharos_num_prime)] }
def MontKeysSaid : Prop := montKeysRow.holds Tryd.pinned (OpenSpec.ofChange montKeysSpec)

/-- ITS FALSE NEIGHBOUR: 'it returns false'. Refute it at one input. -/
def montKeysWrong : ChangeSpec := { name := "montKeys", fn := fun _ => fun
  | [d1, d2, d3] => { results := [.lit (.bool false)], args := [d1, d2, d3] }
  | _ => none }
def MontKeysWrongFalsely : Prop := montKeysRow.holds Tryd.pinned (OpenSpec.ofChange montKeysWrong)

/- THE SECOND FORM. 'bulk': how many values and letters a reading holds, each counted each time it is reached (what is shared counts as often as it is met; a slice's spare places count too). A statement '..UptoSaid' is the law's where the arguments, and the package variables that the reading takes, are together of bulk at most 1048576: NARROWER than '..Said'. Prove '..Said' where nothing that the law and all that it calls make is longer than what came in: it says more and counts as full. Else prove '..UptoSaid'. A law counts once. -/
mutual
def uptoBulk {H : Type} : DataW H → Nat
  | .lit (.string bytes) => bytes.length + 1
  | .lit _ => 1
  | .nil => 1
  | .ptr d => uptoBulk d + 1
  | .slice elems spare => uptoBulkAll elems + uptoBulkAll spare + 1
  | .agg parts => uptoBulkAll parts + 1
  | .iface _ d => uptoBulk d + 1
  | .map entries => uptoBulkEntries entries + 1
  | .held _ => 1
def uptoBulkAll {H : Type} : List (DataW H) → Nat
  | [] => 0
  | d :: r => uptoBulk d + uptoBulkAll r
def uptoBulkEntries {H : Type} : List (Lit × DataW H) → Nat
  | [] => 0
  | x :: r => uptoBulkEntry x + uptoBulkEntries r
def uptoBulkEntry {H : Type} : Lit × DataW H → Nat
  | (.string bytes, d) => bytes.length + uptoBulk d + 1
  | (_, d) => uptoBulk d + 1
 end
def uptoSmall : (H : Type) → List (DataW H) → Bool := fun _ ds => decide (uptoBulkAll ds ≤ 1048576)
def OpenSpec.upto (s : _root_.Go.ChangeSpec) : _root_.Go.OpenSpec := { _root_.Go.OpenSpec.ofChange s with cond := some uptoSmall }

/-- 'pharoslaw08.MontShared', WHERE WHAT IT READS IS OF BULK AT MOST 1048576: true; the input reads as it did. -/
def montSharedUptoRow : OpenClaim := { program := "ythbkhbfcocbnoaadoor", sum := "0cf0a5fa4c3208d8f63d4daa6701d766aaaf49815055336624390f11906221d4", func := "pharos/pharoslaw08.MontShared", spec := "montShared", inPlace := ["math/bits.Add64", "math/bits.Sub64"], named := ["pharos/num.prime"], apart := false, laid := [("pharos/num.prime", laid_pharos_num_prime)], narrowed := true }
def MontSharedUptoSaid : Prop := montSharedUptoRow.holds Tryd.pinned (OpenSpec.upto montSharedSpec)

/-- 'pharoslaw08.MontBoth', WHERE WHAT IT READS IS OF BULK AT MOST 1048576: true; the input reads as it did. -/
def montBothUptoRow : OpenClaim := { program := "ythbkhbfcocbnoaadoor", sum := "0cf0a5fa4c3208d8f63d4daa6701d766aaaf49815055336624390f11906221d4", func := "pharos/pharoslaw08.MontBoth", spec := "montBoth", inPlace := ["math/bits.Add64", "math/bits.Sub64"], named := ["pharos/num.prime"], apart := false, laid := [("pharos/num.prime", laid_pharos_num_prime)], narrowed := true }
def MontBothUptoSaid : Prop := montBothUptoRow.holds Tryd.pinned (OpenSpec.upto montBothSpec)

/-- 'pharoslaw08.MontKeys', WHERE WHAT IT READS IS OF BULK AT MOST 1048576: true; the input reads as it did. -/
def montKeysUptoRow : OpenClaim := { program := "ythbkhbfcocbnoaadoor", sum := "0cf0a5fa4c3208d8f63d4daa6701d766aaaf49815055336624390f11906221d4", func := "pharos/pharoslaw08.MontKeys", spec := "montKeys", inPlace := ["math/bits.Add64", "math/bits.Sub64"], named := ["pharos/num.prime"], apart := false, laid := [("pharos/num.prime", laid_pharos_num_prime)], narrowed := true }
def MontKeysUptoSaid : Prop := montKeysUptoRow.holds Tryd.pinned (OpenSpec.upto montKeysSpec)

end Rows
end Go.Proofs.YthbkhbfcocbnoaaDoor
