/-
  A reckoner of conditions: what blocks hold. No statement is proved here.
-/
import Derived.Test.YtmeipcgkhgagpaaRs
namespace Go.Proofs.Ytmeipcgkhgagpaa
open Go.RowKit
set_option linter.unusedVariables false
set_option linter.unusedSimpArgs false

inductive Cont where
  | gone
  | row (l : List SV)
  | a64 (l : List (BitVec 64))
  | a32 (l : List (BitVec 32))
  | a8 (l : List (BitVec 8))
  | ints (l : List Int)
  | strs (pre : List Value) (l : List (List (BitVec 8)))
  | tr (t : Nat) (l : List SV)
  | t8 (t : Nat) (l : List (BitVec 8))
  | recs (ty : Option Nat) (fs : List Fk) (pre : List Value) (l : List (Rc fs))
  | nrec (b : Bool) (ty : Nat) (fs : List Fk) (l : List (Rc fs))
  | res (s : St)
def Cont.cells (β : Nat → Nat) : Cont → List Value
  | .gone => []
  | .row l => vals β l
  | .a64 l => l.map c64
  | .a32 l => l.map c32
  | .a8 l => l.map c8
  | .ints l => l.map (.int .i64 ·)
  | .strs pre l => pre ++ l.map fun x => .string (txt x)
  | .tr _ l => vals β l
  | .t8 _ l => l.map c8
  | .recs _ fs pre l => pre ++ rows fs l
  | .nrec _ _ fs l => rows fs l
  | .res _ => []
/-- Of which type a block is, and how many cells it has, where that is told. -/
def Cont.shp : Cont → Option (Nat × Nat)
  | .tr t l => some (t, l.length)
  | .t8 t l => some (t, l.length)
  | .recs ty fs pre l => ty.map fun t => (t, pre.length + l.length * fs.length)
  | .nrec _ ty fs l => some (ty, l.length * fs.length)
  | _ => none
def Cont.wf (n : Nat) : Cont → Bool
  | .row l => SV.wf.wfs n l
  | .tr _ l => SV.wf.wfs n l
  | _ => true
def Cont.here : Cont → Bool
  | .gone => false
  | .nrec b _ _ _ => !b
  | _ => true
/-- Whether it is several blocks that are told of by their numbers. -/
def Cont.isRes : Cont → Bool
  | .res _ => true
  | _ => false
def Cont.fresh (c : Cont) : Bool := c.here && !c.isRes
theorem fresh_here {c : Cont} (h : c.fresh = true) : c.here = true := by simp only [Cont.fresh, Bool.and_eq_true] at h; exact h.1
theorem fresh_not {c : Cont} (h : c.fresh = true) : c.isRes = false := by simp only [Cont.fresh, Bool.and_eq_true, Bool.not_eq_true'] at h; exact h.2
structure Ent where
  rw : Bool
  c : Cont
abbrev Mm := List Ent
end Go.Proofs.Ytmeipcgkhgagpaa
