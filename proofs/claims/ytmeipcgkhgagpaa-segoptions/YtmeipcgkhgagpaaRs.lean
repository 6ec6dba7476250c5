/-
  ip: what a resource is: the map of sets, and the sets. No statement is proved here.
-/
import Derived.Test.YtmeipcgkhgagpaaVcO0
namespace Go.Proofs.Ytmeipcgkhgagpaa
open Go.RowKit
set_option linter.unusedVariables false
set_option linter.unusedSimpArgs false

/-- A piece: its place, its bytes, whether there are more, its TTL. -/
abbrev fsP : List Fk := [.i, .s, .b, .u8]
abbrev Pc := Rc fsP
/-- A set's name. -/
structure Nm where
  src : BitVec 32
  dst : BitVec 32
  proto : BitVec 8
  id : BitVec 16
def Nm.v (n : Nm) : Value := .agg #[c32 n.src, c32 n.dst, c8 n.proto, c16 n.id]
/-- A set, and where it lies: its block, the block of its row. -/
structure SetE where
  nm : Nm
  born : Nat
  sb : Nat
  u : BitVec 64
  nb : Bool
  rb : Nat
  len : Nat
  cap : Nat
  l : List Pc
def SetE.entry (e : SetE) : MapEntry := { key := e.nm.v, val := .pointer (some ⟨e.sb, 0, none⟩), born := e.born }
def SetE.sl (e : SetE) : Value := bif e.nb then .slice none 0 0 else .slice (some ⟨e.rb, 0, none⟩) e.len e.cap
def SetE.objs (e : SetE) : List (Nat × RO) := (e.sb, .cells [c64 e.u, e.sl] none) :: (bif e.nb then [] else [(e.rb, .cells (rows fsP e.l) (some (92, e.l.length * 4)))])
/-- All that is told of by one name: the map's block, its clock, the sets in the order in which they came. Or a block that was told of here, and belongs to another place now; or one that goes through a map. gs: sets that the map has no more. -/
structure St where
  mb : Nat
  clk : Nat
  es : List SetE
  was : Bool
  it : Option (Nat × Nat × List Nat)
  gs : List SetE
def St.len (s : St) : Nat := s.es.length
def St.its (s : St) : List (Nat × RO) := match s.it with
  | some (m, c, seen) => [(s.mb, .iter m c seen c)]
  | none => []
def St.objs (s : St) : List (Nat × RO) := bif s.was then s.its else (s.mb, .map (s.es.map SetE.entry).toArray s.clk) :: (s.gs ++ s.es).flatMap SetE.objs
end Go.Proofs.Ytmeipcgkhgagpaa
namespace Go.Proofs.Ytmeipcgkhgagpaa
open Go.RowKit
set_option linter.unusedVariables false
set_option linter.unusedSimpArgs false

inductive Cont where
  | gone
  | row (l : List SV)
  | a64 (l : List (BitVec 64))
  | a32 (l : List (BitVec 32))
  | a8 (l : List (BitVec 8))
  | ints (l : List Int)
  | strs (pre : List Value) (l : List (List (BitVec 8)))
  | tr (t : Nat) (l : List SV)
  | t8 (t : Nat) (l : List (BitVec 8))
  | recs (ty : Option Nat) (fs : List Fk) (pre : List Value) (l : List (Rc fs))
  | nrec (b : Bool) (ty : Nat) (fs : List Fk) (l : List (Rc fs))
  | res (s : St)
def Cont.cells (β : Nat → Nat) : Cont → List Value
  | .gone => []
  | .row l => vals β l
  | .a64 l => l.map c64
  | .a32 l => l.map c32
  | .a8 l => l.map c8
  | .ints l => l.map (.int .i64 ·)
  | .strs pre l => pre ++ l.map fun x => .string (txt x)
  | .tr _ l => vals β l
  | .t8 _ l => l.map c8
  | .recs _ fs pre l => pre ++ rows fs l
  | .nrec _ _ fs l => rows fs l
  | .res _ => []
/-- Of which type a block is, and how many cells it has, where that is told. -/
def Cont.shp : Cont → Option (Nat × Nat)
  | .tr t l => some (t, l.length)
  | .t8 t l => some (t, l.length)
  | .recs ty fs pre l => ty.map fun t => (t, pre.length + l.length * fs.length)
  | .nrec _ ty fs l => some (ty, l.length * fs.length)
  | _ => none
def Cont.wf (n : Nat) : Cont → Bool
  | .row l => SV.wf.wfs n l
  | .tr _ l => SV.wf.wfs n l
  | _ => true
def Cont.here : Cont → Bool
  | .gone => false
  | .nrec b _ _ _ => !b
  | _ => true
/-- Whether it is several blocks that are told of by their numbers. -/
def Cont.isRes : Cont → Bool
  | .res _ => true
  | _ => false
def Cont.fresh (c : Cont) : Bool := c.here && !c.isRes
theorem fresh_here {c : Cont} (h : c.fresh = true) : c.here = true := by simp only [Cont.fresh, Bool.and_eq_true] at h; exact h.1
theorem fresh_not {c : Cont} (h : c.fresh = true) : c.isRes = false := by simp only [Cont.fresh, Bool.and_eq_true, Bool.not_eq_true'] at h; exact h.2
structure Ent where
  rw : Bool
  c : Cont
abbrev Mm := List Ent
end Go.Proofs.Ytmeipcgkhgagpaa
