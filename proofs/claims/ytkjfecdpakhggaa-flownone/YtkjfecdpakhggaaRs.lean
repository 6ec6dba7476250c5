/-
  flow: what a resource is: a map of bytes by numbers; or a whole queue, the program's or the document's. No statement is proved here.
-/
import Derived.Test.YtkjfecdpakhggaaVcO0
namespace Go.Proofs.Ytkjfecdpakhggaa
open Go.RowKit
set_option linter.unusedVariables false
set_option linter.unusedSimpArgs false

/-- What the map has: a number, its byte, when it came. -/
structure EntE where
  k : BitVec 32
  x : BitVec 8
  born : Nat
def EntE.entry (e : EntE) : MapEntry := { key := c32 e.k, val := c8 e.x, born := e.born }
/-- The program's queue: its map's block, what stands in its blocks; nl: nothing is ready yet. -/
structure QuP where
  mp : Nat
  clk : Nat
  es : List EntE
  z : Int
  a : BitVec 32
  en : BitVec 32
  tl : Bool
  ed : Bool
  nl : Bool
  bb : Nat
  off : Nat
  n : Nat
  cap : Nat
  l : List (BitVec 8)
def QuP.sl (p : QuP) : Value := bif p.nl then .slice none 0 0 else .slice (some ⟨p.bb, p.off, none⟩) p.n p.cap
def QuP.objs (p : QuP) (rb : Nat) : List (Nat × RO) := (rb, .cells [.int .i64 p.z, c32 p.a, p.sl, .map (some p.mp), c32 p.en, .bool p.tl, .bool p.ed] none) :: (p.mp, .map (p.es.map EntE.entry).toArray p.clk) :: bif p.nl then [] else [(p.bb, .cells (p.l.map c8) none)]
/-- The document's queue. -/
structure QuD where
  ib : Nat
  bb : Nat
  a : BitVec 32
  z : Int
  e : Int
  he : Bool
  ed : Bool
  rd : List (BitVec 8)
  n : Nat
  l : List (Rc [.b])
  m : List (BitVec 8)
def QuD.objs (d : QuD) (rb : Nat) : List (Nat × RO) := [(rb, .cells [c32 d.a, .int .i64 d.z, .string (txt d.rd), .slice (some ⟨d.ib, 0, none⟩) d.n d.n, .slice (some ⟨d.bb, 0, none⟩) d.n d.n, .bool d.he, .int .i64 d.e, .bool d.ed] none), (d.ib, .cells (rows [.b] d.l) none), (d.bb, .cells (d.m.map c8) none)]
inductive QK where
  | no
  | pr (p : QuP)
  | dc (d : QuD)
def QK.objs (rb : Nat) : QK → List (Nat × RO)
  | .no => []
  | .pr p => p.objs rb
  | .dc d => d.objs rb
/-- The map's block, its clock, what it has in the order in which it came. Or a block that goes through a map. Or a queue. -/
structure St where
  mb : Nat
  clk : Nat
  es : List EntE
  was : Bool
  it : Option (Nat × Nat × List Nat)
  q : QK
def St.len (s : St) : Nat := s.es.length
def St.its (s : St) : List (Nat × RO) := match s.it with
  | some (m, c, seen) => [(s.mb, .iter m c seen c)]
  | none => s.q.objs s.mb
def St.objs (s : St) : List (Nat × RO) := bif s.was then s.its else [(s.mb, .map (s.es.map EntE.entry).toArray s.clk)]
abbrev stP (rb : Nat) (p : QuP) : St := ⟨rb, 0, [], true, none, .pr p⟩
abbrev stD (rb : Nat) (d : QuD) : St := ⟨rb, 0, [], true, none, .dc d⟩
/-- What may be read of a resource by its cells. -/
def St.ld (s : St) (off : Nat) : Option SV := match s with
  | ⟨_, _, _, true, none, .dc d⟩ => match off with
    | 0 => some (.w32 d.a)
    | 1 => some (.i d.z)
    | 2 => some (.s d.rd)
    | 5 => some (.b d.he)
    | 6 => some (.i d.e)
    | 7 => some (.b d.ed)
    | _ => none
  | _ => none
end Go.Proofs.Ytkjfecdpakhggaa
namespace Go.Proofs.Ytkjfecdpakhggaa
open Go.RowKit
set_option linter.unusedVariables false
set_option linter.unusedSimpArgs false

inductive Cont where
  | gone
  | row (l : List SV)
  | a64 (l : List (BitVec 64))
  | a32 (l : List (BitVec 32))
  | a8 (l : List (BitVec 8))
  | ints (l : List Int)
  | strs (pre : List Value) (l : List (List (BitVec 8)))
  | tr (t : Nat) (l : List SV)
  | t8 (t : Nat) (l : List (BitVec 8))
  | recs (ty : Option Nat) (fs : List Fk) (pre : List Value) (l : List (Rc fs))
  | nrec (b : Bool) (ty : Nat) (fs : List Fk) (l : List (Rc fs))
  | res (s : St)
def Cont.cells (β : Nat → Nat) : Cont → List Value
  | .gone => []
  | .row l => vals β l
  | .a64 l => l.map c64
  | .a32 l => l.map c32
  | .a8 l => l.map c8
  | .ints l => l.map (.int .i64 ·)
  | .strs pre l => pre ++ l.map fun x => .string (txt x)
  | .tr _ l => vals β l
  | .t8 _ l => l.map c8
  | .recs _ fs pre l => pre ++ rows fs l
  | .nrec _ _ fs l => rows fs l
  | .res _ => []
/-- Of which type a block is, and how many cells it has, where that is told. -/
def Cont.shp : Cont → Option (Nat × Nat)
  | .tr t l => some (t, l.length)
  | .t8 t l => some (t, l.length)
  | .recs ty fs pre l => ty.map fun t => (t, pre.length + l.length * fs.length)
  | .nrec _ ty fs l => some (ty, l.length * fs.length)
  | _ => none
def Cont.wf (n : Nat) : Cont → Bool
  | .row l => SV.wf.wfs n l
  | .tr _ l => SV.wf.wfs n l
  | _ => true
def Cont.here : Cont → Bool
  | .gone => false
  | .nrec b _ _ _ => !b
  | _ => true
/-- Whether it is several blocks that are told of by their numbers. -/
def Cont.isRes : Cont → Bool
  | .res _ => true
  | _ => false
def Cont.fresh (c : Cont) : Bool := c.here && !c.isRes
theorem fresh_here {c : Cont} (h : c.fresh = true) : c.here = true := by simp only [Cont.fresh, Bool.and_eq_true] at h; exact h.1
theorem fresh_not {c : Cont} (h : c.fresh = true) : c.isRes = false := by simp only [Cont.fresh, Bool.and_eq_true, Bool.not_eq_true'] at h; exact h.2
structure Ent where
  rw : Bool
  c : Cont
abbrev Mm := List Ent
end Go.Proofs.Ytkjfecdpakhggaa
