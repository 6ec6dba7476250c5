/-
  ip: what a resource is: the map of sets, and the sets. No statement is proved here.
-/
import Derived.Test.YtmeipcgkhgagpaaVcO0
namespace Go.Proofs.Ytmeipcgkhgagpaa
open Go.RowKit
set_option linter.unusedVariables false
set_option linter.unusedSimpArgs false

/-- A piece: its place, its bytes, whether there are more, its TTL. -/
abbrev fsP : List Fk := [.i, .s, .b, .u8]
abbrev Pc := Rc fsP
/-- A set's name. -/
structure Nm where
  src : BitVec 32
  dst : BitVec 32
  proto : BitVec 8
  id : BitVec 16
def Nm.v (n : Nm) : Value := .agg #[c32 n.src, c32 n.dst, c8 n.proto, c16 n.id]
/-- A set, and where it lies: its block, the block of its row. -/
structure SetE where
  nm : Nm
  born : Nat
  sb : Nat
  u : BitVec 64
  nb : Bool
  rb : Nat
  len : Nat
  cap : Nat
  l : List Pc
def SetE.entry (e : SetE) : MapEntry := { key := e.nm.v, val := .pointer (some ⟨e.sb, 0, none⟩), born := e.born }
def SetE.sl (e : SetE) : Value := bif e.nb then .slice none 0 0 else .slice (some ⟨e.rb, 0, none⟩) e.len e.cap
def SetE.objs (e : SetE) : List (Nat × RO) := (e.sb, .cells [c64 e.u, e.sl] none) :: (bif e.nb then [] else [(e.rb, .cells (rows fsP e.l) (some (92, e.l.length * 4)))])
/-- All that is told of by one name: the map's block, its clock, the sets in the order in which they came. Or a block that was told of here, and belongs to another place now; or one that goes through a map. gs: sets that the map has no more. -/
structure St where
  mb : Nat
  clk : Nat
  es : List SetE
  was : Bool
  it : Option (Nat × Nat × List Nat)
  gs : List SetE
def St.len (s : St) : Nat := s.es.length
def St.its (s : St) : List (Nat × RO) := match s.it with
  | some (m, c, seen) => [(s.mb, .iter m c seen c)]
  | none => []
def St.objs (s : St) : List (Nat × RO) := bif s.was then s.its else (s.mb, .map (s.es.map SetE.entry).toArray s.clk) :: (s.gs ++ s.es).flatMap SetE.objs
end Go.Proofs.Ytmeipcgkhgagpaa
