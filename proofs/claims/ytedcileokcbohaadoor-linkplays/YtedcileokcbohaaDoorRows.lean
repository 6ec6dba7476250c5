/-
  NARROWER THAN 'FOR EVERY INPUT', by the rows' own cells (each row's printed sentence says how): LinkCodes: laid · LinkBack: laid · LinkPlays: laid · LinkLast: laid · LinkNone: laid.
  DERIVED. THE GIVEN ROWS OF THIS SEAT. 5 by the template 'for every input the law returns true; each argument reads behind the call as it read before'; 0 by the template 'total and deterministic' (their statements: YtedcileokcbohaaDoorTotals.lean).
  GIVEN WITH THE SEED: the statements are not yours to turn. If you find one false, say at which input.
  Laid BY PROGRAM, IN A SANDBOX (cutbox-rows.mjs): the forced cells as the released guide's own fill.sh prints them over the translation 6ced024fb85857c6… (all of the seat's roots in one cut). By AI agents, Wed Nov 11 2026. No macro, syntax, notation, axiom, sorry.
-/
import Derived.Test.YtedcileokcbohaaDoorChecked
import GoSem.Claim
import GoSem.ClaimJoined
import GoSem.ClaimMapViews
import Derived.JoinedTies
import Derived.KernelRfl
namespace Go.Proofs.YtedcileokcbohaaDoor
/- THE CELL 'sum', in the pinned program and in every row, IS THE sha256 OF THE DUMP (.gsa) THAT YtedcileokcbohaaDoorProg.lean LOADS. Nothing in Lean hashes anything: it is a label: what it is worth is what the hold of that sum in a sandbox is worth. -/
noncomputable def Tryd.pinned : Pinned := { name := "ytedcileokcbohaadoor", sum := "6ced024fb85857c63829bab42ec4c401c3186da09f7351e07550a1021428d2f6", checked := Tryd.checked }
namespace Rows
def none {H : Type} : Left H := { results := [], args := [] }

/- WHAT THE LISTED PACKAGE-LEVEL VARIABLES READ AS WHEN THE CALL BEGINS. Each datum BY PROGRAM (the guide's laid-datum.mjs) off the statement by which the dump's own 'gosem.cut.vars' lays the variable. In a bare row this is a premise. The card (YtedcileokcbohaaDoorCards.lean) ties it to the program's text. -/
def laid_pharos_link_arpHead {H : Type} : DataW H := .agg [.lit (.int .u8 0), .lit (.int .u8 1), .lit (.int .u8 8), .lit (.int .u8 0), .lit (.int .u8 6), .lit (.int .u8 4)]

/-- 'pharoslaw17.LinkCodes': WHATEVER THE INPUT: true; the input reads as it did. -/
def linkCodesSpec : ChangeSpec := { name := "linkCodes", fn := fun _ => fun
  | [d1, d2, d3] => { results := [.lit (.bool true)], args := [d1, d2, d3] }
  | _ => none }
def linkCodesRow : OpenClaim := { program := "ytedcileokcbohaadoor", sum := "6ced024fb85857c63829bab42ec4c401c3186da09f7351e07550a1021428d2f6", func := "pharos/pharoslaw17.LinkCodes", spec := "linkCodes", inPlace := ["slices.overlaps[pharos/api.Near]", "internal/abi.NoEscape", "internal/bytealg.MakeNoZero"], unfollowed := true, recurses := true, named := ["pharos/link.arpHead"], apart := false, laid := [("pharos/link.arpHead", laid_pharos_link_arpHead)] }
def LinkCodesSaid : Prop := linkCodesRow.holds Tryd.pinned (OpenSpec.ofChange linkCodesSpec)

/-- ITS FALSE NEIGHBOUR: 'it returns false'. Refute it at one input. -/
def linkCodesWrong : ChangeSpec := { name := "linkCodes", fn := fun _ => fun
  | [d1, d2, d3] => { results := [.lit (.bool false)], args := [d1, d2, d3] }
  | _ => none }
def LinkCodesWrongFalsely : Prop := linkCodesRow.holds Tryd.pinned (OpenSpec.ofChange linkCodesWrong)

/-- 'pharoslaw17.LinkBack': WHATEVER THE INPUT: true; the input reads as it did. -/
def linkBackSpec : ChangeSpec := { name := "linkBack", fn := fun _ => fun
  | [d1, d2, d3] => { results := [.lit (.bool true)], args := [d1, d2, d3] }
  | _ => none }
def linkBackRow : OpenClaim := { program := "ytedcileokcbohaadoor", sum := "6ced024fb85857c63829bab42ec4c401c3186da09f7351e07550a1021428d2f6", func := "pharos/pharoslaw17.LinkBack", spec := "linkBack", inPlace := ["slices.overlaps[pharos/api.Near]", "internal/abi.NoEscape", "internal/bytealg.MakeNoZero"], unfollowed := true, recurses := true, named := ["pharos/link.arpHead"], apart := false, laid := [("pharos/link.arpHead", laid_pharos_link_arpHead)] }
def LinkBackSaid : Prop := linkBackRow.holds Tryd.pinned (OpenSpec.ofChange linkBackSpec)

/-- ITS FALSE NEIGHBOUR: 'it returns false'. Refute it at one input. -/
def linkBackWrong : ChangeSpec := { name := "linkBack", fn := fun _ => fun
  | [d1, d2, d3] => { results := [.lit (.bool false)], args := [d1, d2, d3] }
  | _ => none }
def LinkBackWrongFalsely : Prop := linkBackRow.holds Tryd.pinned (OpenSpec.ofChange linkBackWrong)

/-- 'pharoslaw17.LinkPlays': WHATEVER THE INPUT: true; the input reads as it did. -/
def linkPlaysSpec : ChangeSpec := { name := "linkPlays", fn := fun _ => fun
  | [d1, d2, d3, d4, d5] => { results := [.lit (.bool true)], args := [d1, d2, d3, d4, d5] }
  | _ => none }
def linkPlaysRow : OpenClaim := { program := "ytedcileokcbohaadoor", sum := "6ced024fb85857c63829bab42ec4c401c3186da09f7351e07550a1021428d2f6", func := "pharos/pharoslaw17.LinkPlays", spec := "linkPlays", inPlace := ["slices.overlaps[pharos/api.Near]"], unfollowed := true, recurses := true, named := ["pharos/link.arpHead"], apart := false, laid := [("pharos/link.arpHead", laid_pharos_link_arpHead)] }
def LinkPlaysSaid : Prop := linkPlaysRow.holds Tryd.pinned (OpenSpec.ofChange linkPlaysSpec)

/-- ITS FALSE NEIGHBOUR: 'it returns false'. Refute it at one input. -/
def linkPlaysWrong : ChangeSpec := { name := "linkPlays", fn := fun _ => fun
  | [d1, d2, d3, d4, d5] => { results := [.lit (.bool false)], args := [d1, d2, d3, d4, d5] }
  | _ => none }
def LinkPlaysWrongFalsely : Prop := linkPlaysRow.holds Tryd.pinned (OpenSpec.ofChange linkPlaysWrong)

/-- 'pharoslaw17.LinkLast': WHATEVER THE INPUT: true; the input reads as it did. -/
def linkLastSpec : ChangeSpec := { name := "linkLast", fn := fun _ => fun
  | [d1, d2, d3] => { results := [.lit (.bool true)], args := [d1, d2, d3] }
  | _ => none }
def linkLastRow : OpenClaim := { program := "ytedcileokcbohaadoor", sum := "6ced024fb85857c63829bab42ec4c401c3186da09f7351e07550a1021428d2f6", func := "pharos/pharoslaw17.LinkLast", spec := "linkLast", inPlace := ["slices.overlaps[pharos/api.Near]"], unfollowed := true, recurses := true, named := ["pharos/link.arpHead"], apart := false, laid := [("pharos/link.arpHead", laid_pharos_link_arpHead)] }
def LinkLastSaid : Prop := linkLastRow.holds Tryd.pinned (OpenSpec.ofChange linkLastSpec)

/-- ITS FALSE NEIGHBOUR: 'it returns false'. Refute it at one input. -/
def linkLastWrong : ChangeSpec := { name := "linkLast", fn := fun _ => fun
  | [d1, d2, d3] => { results := [.lit (.bool false)], args := [d1, d2, d3] }
  | _ => none }
def LinkLastWrongFalsely : Prop := linkLastRow.holds Tryd.pinned (OpenSpec.ofChange linkLastWrong)

/-- 'pharoslaw17.LinkNone': WHATEVER THE INPUT: true; the input reads as it did. -/
def linkNoneSpec : ChangeSpec := { name := "linkNone", fn := fun _ => fun
  | [d1, d2] => { results := [.lit (.bool true)], args := [d1, d2] }
  | _ => none }
def linkNoneRow : OpenClaim := { program := "ytedcileokcbohaadoor", sum := "6ced024fb85857c63829bab42ec4c401c3186da09f7351e07550a1021428d2f6", func := "pharos/pharoslaw17.LinkNone", spec := "linkNone", inPlace := ["slices.overlaps[pharos/api.Near]"], unfollowed := true, recurses := true, named := ["pharos/link.arpHead"], apart := false, laid := [("pharos/link.arpHead", laid_pharos_link_arpHead)] }
def LinkNoneSaid : Prop := linkNoneRow.holds Tryd.pinned (OpenSpec.ofChange linkNoneSpec)

/-- ITS FALSE NEIGHBOUR: 'it returns false'. Refute it at one input. -/
def linkNoneWrong : ChangeSpec := { name := "linkNone", fn := fun _ => fun
  | [d1, d2] => { results := [.lit (.bool false)], args := [d1, d2] }
  | _ => none }
def LinkNoneWrongFalsely : Prop := linkNoneRow.holds Tryd.pinned (OpenSpec.ofChange linkNoneWrong)

/- THE SECOND FORM. 'bulk': how many values and letters a reading holds, each counted each time it is reached (what is shared counts as often as it is met; a slice's spare places count too). A statement '..UptoSaid' is the law's where the arguments, and the package variables that the reading takes, are together of bulk at most 1048576: NARROWER than '..Said'. Prove '..Said' where nothing that the law and all that it calls make is longer than what came in: it says more and counts as full. Else prove '..UptoSaid'. A law counts once. -/
mutual
def uptoBulk {H : Type} : DataW H → Nat
  | .lit (.string bytes) => bytes.length + 1
  | .lit _ => 1
  | .nil => 1
  | .ptr d => uptoBulk d + 1
  | .slice elems spare => uptoBulkAll elems + uptoBulkAll spare + 1
  | .agg parts => uptoBulkAll parts + 1
  | .iface _ d => uptoBulk d + 1
  | .map entries => uptoBulkEntries entries + 1
  | .held _ => 1
def uptoBulkAll {H : Type} : List (DataW H) → Nat
  | [] => 0
  | d :: r => uptoBulk d + uptoBulkAll r
def uptoBulkEntries {H : Type} : List (Lit × DataW H) → Nat
  | [] => 0
  | x :: r => uptoBulkEntry x + uptoBulkEntries r
def uptoBulkEntry {H : Type} : Lit × DataW H → Nat
  | (.string bytes, d) => bytes.length + uptoBulk d + 1
  | (_, d) => uptoBulk d + 1
 end
def uptoSmall : (H : Type) → List (DataW H) → Bool := fun _ ds => decide (uptoBulkAll ds ≤ 1048576)
def OpenSpec.upto (s : _root_.Go.ChangeSpec) : _root_.Go.OpenSpec := { _root_.Go.OpenSpec.ofChange s with cond := some uptoSmall }

/-- 'pharoslaw17.LinkCodes', WHERE WHAT IT READS IS OF BULK AT MOST 1048576: true; the input reads as it did. -/
def linkCodesUptoRow : OpenClaim := { program := "ytedcileokcbohaadoor", sum := "6ced024fb85857c63829bab42ec4c401c3186da09f7351e07550a1021428d2f6", func := "pharos/pharoslaw17.LinkCodes", spec := "linkCodes", inPlace := ["slices.overlaps[pharos/api.Near]", "internal/abi.NoEscape", "internal/bytealg.MakeNoZero"], unfollowed := true, recurses := true, named := ["pharos/link.arpHead"], apart := false, laid := [("pharos/link.arpHead", laid_pharos_link_arpHead)], narrowed := true }
def LinkCodesUptoSaid : Prop := linkCodesUptoRow.holds Tryd.pinned (OpenSpec.upto linkCodesSpec)

/-- 'pharoslaw17.LinkBack', WHERE WHAT IT READS IS OF BULK AT MOST 1048576: true; the input reads as it did. -/
def linkBackUptoRow : OpenClaim := { program := "ytedcileokcbohaadoor", sum := "6ced024fb85857c63829bab42ec4c401c3186da09f7351e07550a1021428d2f6", func := "pharos/pharoslaw17.LinkBack", spec := "linkBack", inPlace := ["slices.overlaps[pharos/api.Near]", "internal/abi.NoEscape", "internal/bytealg.MakeNoZero"], unfollowed := true, recurses := true, named := ["pharos/link.arpHead"], apart := false, laid := [("pharos/link.arpHead", laid_pharos_link_arpHead)], narrowed := true }
def LinkBackUptoSaid : Prop := linkBackUptoRow.holds Tryd.pinned (OpenSpec.upto linkBackSpec)

/-- 'pharoslaw17.LinkPlays', WHERE WHAT IT READS IS OF BULK AT MOST 1048576: true; the input reads as it did. -/
def linkPlaysUptoRow : OpenClaim := { program := "ytedcileokcbohaadoor", sum := "6ced024fb85857c63829bab42ec4c401c3186da09f7351e07550a1021428d2f6", func := "pharos/pharoslaw17.LinkPlays", spec := "linkPlays", inPlace := ["slices.overlaps[pharos/api.Near]"], unfollowed := true, recurses := true, named := ["pharos/link.arpHead"], apart := false, laid := [("pharos/link.arpHead", laid_pharos_link_arpHead)], narrowed := true }
def LinkPlaysUptoSaid : Prop := linkPlaysUptoRow.holds Tryd.pinned (OpenSpec.upto linkPlaysSpec)

/-- 'pharoslaw17.LinkLast', WHERE WHAT IT READS IS OF BULK AT MOST 1048576: true; the input reads as it did. -/
def linkLastUptoRow : OpenClaim := { program := "ytedcileokcbohaadoor", sum := "6ced024fb85857c63829bab42ec4c401c3186da09f7351e07550a1021428d2f6", func := "pharos/pharoslaw17.LinkLast", spec := "linkLast", inPlace := ["slices.overlaps[pharos/api.Near]"], unfollowed := true, recurses := true, named := ["pharos/link.arpHead"], apart := false, laid := [("pharos/link.arpHead", laid_pharos_link_arpHead)], narrowed := true }
def LinkLastUptoSaid : Prop := linkLastUptoRow.holds Tryd.pinned (OpenSpec.upto linkLastSpec)

/-- 'pharoslaw17.LinkNone', WHERE WHAT IT READS IS OF BULK AT MOST 1048576: true; the input reads as it did. -/
def linkNoneUptoRow : OpenClaim := { program := "ytedcileokcbohaadoor", sum := "6ced024fb85857c63829bab42ec4c401c3186da09f7351e07550a1021428d2f6", func := "pharos/pharoslaw17.LinkNone", spec := "linkNone", inPlace := ["slices.overlaps[pharos/api.Near]"], unfollowed := true, recurses := true, named := ["pharos/link.arpHead"], apart := false, laid := [("pharos/link.arpHead", laid_pharos_link_arpHead)], narrowed := true }
def LinkNoneUptoSaid : Prop := linkNoneUptoRow.holds Tryd.pinned (OpenSpec.upto linkNoneSpec)

end Rows
end Go.Proofs.YtedcileokcbohaaDoor
