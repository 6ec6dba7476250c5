/-
  A reckoner of conditions: what a function's code asks, worked out over values whose shape is known and whose numbers are letters. The values, and what blocks hold. No statement is proved here.
-/
import Derived.Test.YtceonplglbdggaaDoorTail
import Derived.Test.YtceonplglbdggaaDoorInv
namespace Go.Proofs.YtceonplglbdggaaDoor
open Go.RowKit
set_option linter.unusedVariables false
set_option linter.unusedSimpArgs false

/-- A value: its shape is known, its numbers may be letters; blocks are told by their places in a list. -/
inductive SV where
  | any
  | v (x : Value)
  | i (z : Int)
  | b (t : Bool)
  | w64 (x : BitVec 64)
  | w32 (x : BitVec 32)
  | w16 (x : BitVec 16)
  | w8 (x : BitVec 8)
  | s (l : List (BitVec 8))
  | ptr (k off : Nat)
  | sl (k off len cap : Nat)
  | a64 (l : List (BitVec 64))
  | a32 (l : List (BitVec 32))
  | a8 (l : List (BitVec 8))
  | agg (l : List SV)
  | tup (l : List SV)
  | fn (f : Nat) (l : List SV)
def c64 (x : BitVec 64) : Value := .int .u64 ((x.toNat : Nat) : Int)
def c32 (x : BitVec 32) : Value := .int .u32 ((x.toNat : Nat) : Int)
def c16 (x : BitVec 16) : Value := .int .u16 ((x.toNat : Nat) : Int)
def c8 (x : BitVec 8) : Value := .int .u8 ((x.toNat : Nat) : Int)
/-- The bytes of a text, and a text of bytes. -/
def bts (s : ByteArray) : List (BitVec 8) := s.data.toList.map (·.toBitVec)
def txt (l : List (BitVec 8)) : ByteArray := ⟨(l.map UInt8.ofBitVec).toArray⟩
theorem txt_bts (s : ByteArray) : txt (bts s) = s := by
  obtain ⟨d⟩ := s
  simp [txt, bts, Function.comp_def]
theorem bts_txt (l : List (BitVec 8)) : bts (txt l) = l := by simp [txt, bts, Function.comp_def]
mutual
def val (β : Nat → Nat) : SV → Value
  | .any => undef
  | .v x => x
  | .i z => .int .i64 z
  | .b t => .bool t
  | .w64 x => c64 x
  | .w32 x => c32 x
  | .w16 x => c16 x
  | .w8 x => c8 x
  | .s l => .string (txt l)
  | .ptr k off => .pointer (some ⟨β k, off, none⟩)
  | .sl k off len cap => .slice (some ⟨β k, off, none⟩) len cap
  | .a64 l => .agg (l.map c64).toArray
  | .a32 l => .agg (l.map c32).toArray
  | .a8 l => .agg (l.map c8).toArray
  | .agg l => .agg (vals β l).toArray
  | .tup l => .tuple (vals β l).toArray
  | .fn f l => .func (.func f) #[] (vals β l).toArray
def vals (β : Nat → Nat) : List SV → List Value
  | [] => []
  | x :: l => val β x :: vals β l
end
theorem vals_map (β : Nat → Nat) (l : List SV) : vals β l = l.map (val β) := by
  induction l with
  | nil => rfl
  | cons x l ih => simp [vals, ih]
/-- All that it points to lies ahead of n, and nothing of it is unknown. -/
def SV.wf (n : Nat) : SV → Bool
  | .any => false
  | .ptr k _ => Nat.blt k n
  | .sl k _ _ _ => Nat.blt k n
  | .agg l => wfs n l
  | .tup l => wfs n l
  | .fn _ l => wfs n l
  | _ => true
where wfs (n : Nat) : List SV → Bool
  | [] => true
  | x :: l => SV.wf n x && wfs n l
inductive Cont where
  | gone
  | row (l : List SV)
  | a64 (l : List (BitVec 64))
  | a32 (l : List (BitVec 32))
  | a8 (l : List (BitVec 8))
  | ints (l : List Int)
  | strs (pre : List Value) (l : List (List (BitVec 8)))
def Cont.cells (β : Nat → Nat) : Cont → List Value
  | .gone => []
  | .row l => vals β l
  | .a64 l => l.map c64
  | .a32 l => l.map c32
  | .a8 l => l.map c8
  | .ints l => l.map (.int .i64 ·)
  | .strs pre l => pre ++ l.map fun x => .string (txt x)
def Cont.wf (n : Nat) : Cont → Bool
  | .row l => SV.wf.wfs n l
  | _ => true
def Cont.here : Cont → Bool
  | .gone => false
  | _ => true
structure Ent where
  rw : Bool
  c : Cont
abbrev Mm := List Ent
end Go.Proofs.YtceonplglbdggaaDoor
