/-
  A reckoner of conditions: what each kind of operation makes of such values. No statement is proved here.
-/
import Derived.Test.YtkjfecdpakhggaaInv
namespace Go.Proofs.Ytkjfecdpakhggaa
open Go.RowKit
set_option linter.unusedVariables false
set_option linter.unusedSimpArgs false

/-- Comparisons that the kernel leaves as they are where a letter stands. -/
def ile (a b : Int) : Bool := match a, b with
  | .ofNat m, .ofNat n => Nat.ble m n
  | .negSucc _, .ofNat _ => true
  | .ofNat _, .negSucc _ => false
  | .negSucc m, .negSucc n => Nat.ble n m
def ilt (a b : Int) : Bool := !ile b a
theorem ile_eq (a b : Int) : ile a b = decide (a ≤ b) := by
  rw [Bool.eq_iff_iff, decide_eq_true_eq]
  rcases a with m | m <;> rcases b with n | n
  · show Nat.ble m n = true ↔ (m : Int) ≤ (n : Int)
    rw [Nat.ble_eq]; omega
  · show false = true ↔ (m : Int) ≤ Int.negSucc n
    constructor
    · intro h; cases h
    · intro h; omega
  · show true = true ↔ Int.negSucc m ≤ (n : Int)
    constructor
    · intro _; omega
    · intro _; rfl
  · show Nat.ble n m = true ↔ Int.negSucc m ≤ Int.negSucc n
    rw [Nat.ble_eq]; omega
theorem ilt_eq (a b : Int) : ilt a b = decide (a < b) := by
  unfold ilt
  rw [ile_eq, Bool.eq_iff_iff]
  simp
def inI (z : Int) : Bool := ile (-9223372036854775808) z && ile z 9223372036854775807
/-- What an operation makes: a value, under a condition; a new block besides; or it is not known here. -/
inductive QR where
  | no
  | ok (c : Bool) (r : SV)
  | new (c : Bool) (r : SV) (x : Cont)
def inU (n : Nat) (z : Int) : Bool := ile 0 z && ilt z (2 ^ n)
def ofConst : Value → SV
  | .int .u64 z => bif inU 64 z then .w64 (BitVec.ofInt 64 z) else .v (.int .u64 z)
  | .int .u32 z => bif inU 32 z then .w32 (BitVec.ofInt 32 z) else .v (.int .u32 z)
  | .int .u16 z => bif inU 16 z then .w16 (BitVec.ofInt 16 z) else .v (.int .u16 z)
  | .int .u8 z => bif inU 8 z then .w8 (BitVec.ofInt 8 z) else .v (.int .u8 z)
  | .int .i64 z => .i z
  | .bool b => .b b
  | .string s => .s (bts s)
  | c => .v c
def ev (fr : List SV) : Operand → SV
  | .tmp t => fr.getD t .any
  | .const c => ofConst c
  | .global g => .ptr g 0
  | .func f => .fn f []
/-- Words. -/
def wop {n : Nat} (mk : BitVec n → SV) (op : BinOp) (a b : BitVec n) : QR :=
  match op with
  | .add => .ok true (mk (a + b))
  | .sub => .ok true (mk (a - b))
  | .mul => .ok true (mk (a * b))
  | .and => .ok true (mk (a &&& b))
  | .or => .ok true (mk (a ||| b))
  | .xor => .ok true (mk (a ^^^ b))
  | .andNot => .ok true (mk (a &&& ~~~b))
  | .quo => .ok (b != 0) (mk (a / b))
  | .rem => .ok (b != 0) (mk (a % b))
  | .eql => .ok true (.b (a == b))
  | .neq => .ok true (.b (a != b))
  | .lss => .ok true (.b (a.ult b))
  | .leq => .ok true (.b (a.ule b))
  | .gtr => .ok true (.b (b.ult a))
  | .geq => .ok true (.b (b.ule a))
  | _ => .no
/-- Whole numbers. -/
def iop (op : BinOp) (a b : Int) : QR :=
  match op with
  | .add => .ok (inI (a + b)) (.i (a + b))
  | .sub => .ok (inI (a - b)) (.i (a - b))
  | .mul => .ok (inI (a * b)) (.i (a * b))
  | .quo => .ok (ilt 0 b && inI a) (.i (a.tdiv b))
  | .rem => .ok (b != 0) (.i (a.tmod b))
  | .and => .ok true (.i (BitVec.ofInt 64 a &&& BitVec.ofInt 64 b).toInt)
  | .or => .ok true (.i (BitVec.ofInt 64 a ||| BitVec.ofInt 64 b).toInt)
  | .xor => .ok true (.i (BitVec.ofInt 64 a ^^^ BitVec.ofInt 64 b).toInt)
  | .eql => .ok true (.b (a == b))
  | .neq => .ok true (.b (a != b))
  | .lss => .ok true (.b (ilt a b))
  | .leq => .ok true (.b (ile a b))
  | .gtr => .ok true (.b (ilt b a))
  | .geq => .ok true (.b (ile b a))
  | _ => .no
/-- Numbers of whatever kind, compared. -/
def icmp (op : BinOp) (a b : Int) : QR :=
  match op with
  | .eql => .ok true (.b (a == b))
  | .neq => .ok true (.b (a != b))
  | .lss => .ok true (.b (ilt a b))
  | .leq => .ok true (.b (ile a b))
  | .gtr => .ok true (.b (ilt b a))
  | .geq => .ok true (.b (ile b a))
  | _ => .no
def sop (op : BinOp) (a b : List (BitVec 8)) : QR :=
  match op with
  | .add => .ok (ile ((a.length + b.length : Nat) : Int) 9223372036854775807) (.s (a ++ b))
  | .eql => .ok true (.b (a == b))
  | .neq => .ok true (.b (!(a == b)))
  | _ => .no
/-- How far is moved. -/
def amt : SV → Option (Bool × Nat)
  | .w64 c => some (true, c.toNat)
  | .w32 c => some (true, c.toNat)
  | .w16 c => some (true, c.toNat)
  | .w8 c => some (true, c.toNat)
  | .i z => some (ile 0 z, z.toNat)
  | _ => none
def wsh {n : Nat} (mk : BitVec n → SV) (left : Bool) (x : BitVec n) (y : SV) : QR :=
  match amt y with
  | some (c, k) => match left with
    | true => .ok c (mk (x <<< k))
    | false => .ok c (mk (x >>> k))
  | none => .no
def ish (left : Bool) (x : Int) (y : SV) : QR :=
  match amt y with
  | some (c, k) => match left with
    | true => .ok (c && decide (k < 64) && inI (x * 2 ^ k)) (.i (x * 2 ^ k))
    | false => .ok (c && decide (k < 64)) (.i (x.fdiv (2 ^ k)))
  | none => .no
def qbin (op : BinOp) (x y : SV) : QR :=
  match op with
  | .shl => match x with
    | .w64 a => wsh .w64 true a y
    | .w32 a => wsh .w32 true a y
    | .w16 a => wsh .w16 true a y
    | .w8 a => wsh .w8 true a y
    | .i a => ish true a y
    | _ => .no
  | .shr => match x with
    | .w64 a => wsh .w64 false a y
    | .w32 a => wsh .w32 false a y
    | .w16 a => wsh .w16 false a y
    | .w8 a => wsh .w8 false a y
    | .i a => ish false a y
    | _ => .no
  | op => match x, y with
    | .w64 a, .w64 b => wop .w64 op a b
    | .w32 a, .w32 b => wop .w32 op a b
    | .w16 a, .w16 b => wop .w16 op a b
    | .w8 a, .w8 b => wop .w8 op a b
    | .i a, .i b => iop op a b
    | .s a, .s b => sop op a b
    | .v (.int k a), .v (.int k' b) => bif k == k' then icmp op a b else .no
    | _, _ => .no
def qun (op : UnOp) (x : SV) : QR :=
  match op, x with
  | .neg, .i z => .ok (inI (-z)) (.i (-z))
  | .neg, .w64 a => .ok true (.w64 (-a))
  | .xor, .w64 a => .ok true (.w64 (~~~a))
  | .xor, .w32 a => .ok true (.w32 (~~~a))
  | .xor, .w16 a => .ok true (.w16 (~~~a))
  | .xor, .w8 a => .ok true (.w8 (~~~a))
  | .not, .b t => .ok true (.b (!t))
  | _, _ => .no
/-- The number of a word's bits, whatever its width. -/
def toKind (k : IntKind) (x : SV) : QR :=
  match k with
  | .u64 => match x with
    | .w64 a => .ok true (.w64 a)
    | .w32 a => .ok true (.w64 (a.setWidth 64))
    | .w16 a => .ok true (.w64 (a.setWidth 64))
    | .w8 a => .ok true (.w64 (a.setWidth 64))
    | .i z => .ok true (.w64 (BitVec.ofInt 64 z))
    | _ => .no
  | .u32 => match x with
    | .w64 a => .ok true (.w32 (a.setWidth 32))
    | .w32 a => .ok true (.w32 a)
    | .w16 a => .ok true (.w32 (a.setWidth 32))
    | .w8 a => .ok true (.w32 (a.setWidth 32))
    | .i z => .ok true (.w32 (BitVec.ofInt 32 z))
    | _ => .no
  | .u16 => match x with
    | .w64 a => .ok true (.w16 (a.setWidth 16))
    | .w32 a => .ok true (.w16 (a.setWidth 16))
    | .w16 a => .ok true (.w16 a)
    | .w8 a => .ok true (.w16 (a.setWidth 16))
    | .i z => .ok true (.w16 (BitVec.ofInt 16 z))
    | _ => .no
  | .u8 => match x with
    | .w64 a => .ok true (.w8 (a.setWidth 8))
    | .w32 a => .ok true (.w8 (a.setWidth 8))
    | .w16 a => .ok true (.w8 (a.setWidth 8))
    | .w8 a => .ok true (.w8 a)
    | .i z => .ok true (.w8 (BitVec.ofInt 8 z))
    | _ => .no
  | .i64 => match x with
    | .w64 a => .ok true (.i a.toInt)
    | .w32 a => .ok true (.i (a.toNat : Nat))
    | .w16 a => .ok true (.i (a.toNat : Nat))
    | .w8 a => .ok true (.i (a.toNat : Nat))
    | .i z => .ok (inI z) (.i z)
    | .v (.int _ z) => .ok (inI z) (.i z)
    | _ => .no
  | _ => .no
def isInt (P : Program) (k : IntKind) (t : Nat) : Bool := match P.underlying t with
  | some (.int k') => k == k'
  | _ => false
def sizeT (P : Program) (t : Nat) : Nat := ((P.info? t).map (·.size)).getD 0
def qconv (P : Program) (src dst : Nat) (x : SV) (c : Cont) : QR :=
  match P.underlying src, P.underlying dst with
  | some (.int _), some (.int k) => toKind k x
  | some .string, some .string => match x with
    | .s l => .ok true (.s l)
    | _ => .no
  | some (.slice e), some .string => match P.underlying e, x, c with
    | some (.int .u8), .sl _ off len _, .a8 l => .ok (decide (off + len ≤ l.length)) (.s ((l.drop off).take len))
    | some (.int .u8), .v (.slice none _ _), _ => .ok true (.s [])
    | _, _, _ => .no
  | some (.pointer u), some .unsafePointer => match x, c with
    | .ptr k off, .tr _ l => .ok (Nat.blt off l.length && Nat.blt 0 (sizeT P u)) (.ptr k off)
    | _, _ => .no
  | some .unsafePointer, some (.pointer u) => match x, c with
    | .ptr k off, .tr t l => .ok (Nat.blt 0 (sizeT P u) && liesAt P P.depth t (l.length / P.cellsOf t) off u 1) (.ptr k off)
    | _, _ => .no
  | _, _ => .no
/-- Noughts. -/
def zsv : Value → Option SV
  | .int .u64 z => bif z == 0 then some (.w64 0) else none
  | .int .u32 z => bif z == 0 then some (.w32 0) else none
  | .int .u16 z => bif z == 0 then some (.w16 0) else none
  | .int .u8 z => bif z == 0 then some (.w8 0) else none
  | .int .i64 z => bif z == 0 then some (.i 0) else none
  | .int k z => bif z == 0 then some (.v (.int k 0)) else none
  | .bool b => bif b then none else some (.b false)
  | .string s => bif s.size == 0 then some (.s []) else none
  | .pointer none => some (.v (.pointer none))
  | .slice none l c => some (.v (.slice none l c))
  | .nilFunc => some (.v .nilFunc)
  | .nilIface => some (.v .nilIface)
  | .map none => some (.v (.map none))
  | _ => none
def zsvs : List Value → Option (List SV)
  | [] => some []
  | x :: l => match zsv x, zsvs l with
    | some y, some m => some (y :: m)
    | _, _ => none
def isZ (k : IntKind) : Value → Bool
  | .int k' z => k == k' && z == 0
  | _ => false
def zcv : Value → Option Cont
  | .agg cs => bif cs.toList.all (isZ .u64) then some (.a64 (List.replicate cs.size 0))
    else bif cs.toList.all (isZ .u32) then some (.a32 (List.replicate cs.size 0))
    else bif cs.toList.all (isZ .u8) then some (.a8 (List.replicate cs.size 0))
    else bif Nat.blt 8 cs.size && cs.toList.all (isZ .i64) then some (.ints (List.replicate cs.size 0))
    else (zsvs cs.toList).map .row
  | x => (zsv x).map fun y => .row [y]
def zc (P : Program) (t : Nat) : Option Cont := ((P.info? t).bind (·.zero)).bind zcv
/-- What a variable holds that is made with a value. -/
def boxc : SV → Option Cont
  | .i z => some (.row [.i z])
  | .b t => some (.row [.b t])
  | .w64 x => some (.row [.w64 x])
  | .w32 x => some (.row [.w32 x])
  | .w16 x => some (.row [.w16 x])
  | .w8 x => some (.row [.w8 x])
  | .s l => some (.row [.s l])
  | .ptr k off => some (.row [.ptr k off])
  | .sl k off len cap => some (.row [.sl k off len cap])
  | .rs k base eo sz len cap => some (.row [.rs k base eo sz len cap])
  | .ns b k sz len cap => some (.row [.ns b k sz len cap])
  | .pe k base idx sz j => some (.row [.pe k base idx sz j])
  | .fn f l => some (.row [.fn f l])
  | .v (.pointer none) => some (.row [.v (.pointer none)])
  | .v .nilIface => some (.row [.v .nilIface])
  | .v (.slice none l c) => some (.row [.v (.slice none l c)])
  | .a64 l => some (.a64 l)
  | .a32 l => some (.a32 l)
  | .a8 l => some (.a8 l)
  | .agg l => some (.row l)
  | _ => none
def isRowT (P : Program) (t : Nat) : Bool := match P.underlying t with
  | some (.struct _) | some (.array _ _) => true
  | some _ => false
  | none => false
def isStructT (P : Program) (t : Nat) : Bool := match P.underlying t with
  | some (.struct _) => true
  | some _ => false
  | none => false
def isAny (x : SV) : Bool := match x with
  | .any => true
  | _ => false
def known (P : Program) (t : Nat) : Bool := (P.underlying t).isSome
def as64 : List SV → Option (List (BitVec 64))
  | [] => some []
  | .w64 x :: l => (as64 l).map (x :: ·)
  | _ => none
def as32 : List SV → Option (List (BitVec 32))
  | [] => some []
  | .w32 x :: l => (as32 l).map (x :: ·)
  | _ => none
def as8 : List SV → Option (List (BitVec 8))
  | [] => some []
  | .w8 x :: l => (as8 l).map (x :: ·)
  | _ => none
/-- A part of a row: words, where it is such. -/
def rowSV (l : List SV) : SV := match as32 l with
  | some m => .a32 m
  | none => match as64 l with
    | some m => .a64 m
    | none => match as8 l with
      | some m => .a8 m
      | none => .agg l
def qload (P : Program) (t off : Nat) (c : Cont) : QR :=
  bif !known P t then .no else
  bif isRowT P t then
    (match c with
    | .a64 l => bif isStructT P t then .ok (Nat.ble (off + sizeT P t) l.length) (.a64 ((l.drop off).take (sizeT P t))) else .ok (Nat.beq off 0 && Nat.beq l.length (sizeT P t)) (.a64 l)
    | .a32 l => .ok (Nat.beq off 0 && Nat.beq l.length (sizeT P t)) (.a32 l)
    | .a8 l => .ok (Nat.beq off 0 && Nat.beq l.length (sizeT P t)) (.a8 l)
    | .row l => .ok (Nat.ble (off + sizeT P t) l.length) (rowSV ((l.drop off).take (sizeT P t)))
    | .ints l => .ok (Nat.ble (off + sizeT P t) l.length) (.agg (((l.drop off).take (sizeT P t)).map .i))
    | _ => .no)
  else
    (match c with
    | .a64 l => .ok (Nat.blt off l.length) (.w64 (l.getD off 0))
    | .a32 l => .ok (Nat.blt off l.length) (.w32 (l.getD off 0))
    | .a8 l => .ok (Nat.blt off l.length) (.w8 (l.getD off 0))
    | .ints l => .ok (Nat.blt off l.length) (.i (l.getD off 0))
    | .strs pre l => .ok (Nat.ble pre.length off && Nat.blt off (pre.length + l.length)) (.s (l.getD (off - pre.length) []))
    | .row l => match l[off]? with
      | some x => .ok true x
      | none => .no
    | .tr _ l => match l[off]? with
      | some x => .ok true x
      | none => .no
    | .t8 _ l => .ok (Nat.blt off l.length) (.w8 (l.getD off 0))
    | .gone => .no
    | .recs _ _ _ _ => .no
    | .nrec _ _ _ _ => .no
    | .res s => match s.ld off with
      | some x => .ok true x
      | none => .no)
def iof : SV → Option Int
  | .i z => some z
  | .w64 a => some (a.toNat : Nat)
  | .w32 a => some (a.toNat : Nat)
  | .w16 a => some (a.toNat : Nat)
  | .w8 a => some (a.toNat : Nat)
  | _ => none
def inR (z : Int) (n : Nat) : Bool := ile 0 z && ilt z (n : Int)
def qindex (P : Program) (t : Nat) (x y : SV) : QR :=
  match iof y with
  | none => .no
  | some z => match P.underlying t, x with
    | some .string, .s l => .ok (inR z l.length) (.w8 (l.getD z.toNat 0))
    | some (.array n e), .a64 l => .ok (Nat.beq (sizeT P e) 1 && !isRowT P e && known P e && Nat.beq l.length n && inR z n) (.w64 (l.getD z.toNat 0))
    | some (.array n e), .a32 l => .ok (Nat.beq (sizeT P e) 1 && !isRowT P e && known P e && Nat.beq l.length n && inR z n) (.w32 (l.getD z.toNat 0))
    | some (.array n e), .a8 l => .ok (Nat.beq (sizeT P e) 1 && !isRowT P e && known P e && Nat.beq l.length n && inR z n) (.w8 (l.getD z.toNat 0))
    | some (.array n e), .agg l => bif isRowT P e then .ok (Nat.blt 0 (sizeT P e) && Nat.beq l.length (n * sizeT P e) && inR z n) (rowSV ((l.drop (z.toNat * sizeT P e)).take (sizeT P e))) else .ok (Nat.beq (sizeT P e) 1 && known P e && Nat.beq l.length n && inR z n) (l.getD z.toNat .any)
    | _, _ => .no
def qixaddr (P : Program) (t : Nat) (x y : SV) : QR :=
  match iof y with
  | none => .no
  | some z => match P.underlying t, x with
    | some (.array n e), .ptr k off => bif Nat.beq (sizeT P e) 1 then .ok (inR z n) (.ptr k (z.toNat + off)) else .ok (Nat.blt 0 (sizeT P e) && inR z n) (.ptr k (z.toNat * sizeT P e + off))
    | some (.slice e), .sl k off len cap => .ok (Nat.beq (sizeT P e) 1 && inR z len) (.ptr k (z.toNat + off))
    | _, _ => .no
def bound (d : Nat) : Option SV → Option Int
  | none => some (d : Int)
  | some x => iof x
/-- x[l:h], where 0 ≤ l ≤ h ≤ cap. -/
def qslice (P : Program) (t : Nat) (x : SV) (lo hi : Option SV) : QR :=
  match P.underlying t, x with
  | some .string, .s l => match bound 0 lo, bound l.length hi with
    | some a, some b => .ok (ile 0 a && ile a b && ile b (l.length : Int)) (.s ((l.take b.toNat).drop a.toNat))
    | _, _ => .no
  | some (.slice e), .sl k off len cap => match bound 0 lo, bound len hi with
    | some a, some b => match lo, hi with
      | some _, none => .ok (Nat.beq (sizeT P e) 1 && (ile 0 a && ile a b && ile b (cap : Int))) (.sl k (bif ilt a (cap : Int) then a.toNat + off else off) (b.toNat - a.toNat) (cap - a.toNat))
      | _, _ => .ok (Nat.beq (sizeT P e) 1 && (ile 0 a && ile a b && ile b (cap : Int) && ilt a (cap : Int))) (.sl k (a.toNat + off) (b.toNat - a.toNat) (cap - a.toNat))
    | _, _ => .no
  | some (.slice e), .v (.slice none 0 0) => match bound 0 lo, bound 0 hi with
    | some a, some b => .ok (Nat.beq (sizeT P e) 1 && (ile 0 a && ile a b && ile b 0)) (.v (.slice none 0 0))
    | _, _ => .no
  | some (.slice e), .v (.slice (some p) len cap) => match bound 0 lo, bound len hi with
    | some a, some b => .ok (Nat.beq (sizeT P e) 1 && (a == 0 && ile 0 b && ile b (cap : Int))) (.v (.slice (some p) b.toNat cap))
    | _, _ => .no
  | some (.array n e), .ptr k off => match bound 0 lo, bound n hi with
    | some a, some b => .ok (Nat.beq (sizeT P e) 1 && (ile 0 a && ile a b && ile b (n : Int) && ilt a (n : Int))) (.sl k (a.toNat + off) (b.toNat - a.toNat) (n - a.toNat))
    | _, _ => .no
  | _, _ => .no
/-- x[l:h:m], where 0 ≤ l ≤ h ≤ m ≤ cap. -/
def qslice3 (P : Program) (t : Nat) (x lo hi mx : SV) : QR :=
  match P.underlying t, x, iof lo, iof hi, iof mx with
  | some (.slice e), .sl k off len cap, some a, some b, some m => .ok (Nat.beq (sizeT P e) 1 && (ile 0 a && ile a b && ile b m && ile m (cap : Int))) (.sl k (bif ilt a m then a.toNat + off else off) (b.toNat - a.toNat) (m.toNat - a.toNat))
  | _, _, _, _, _ => .no
/-- x[:h:m]. -/
def qslice3n (P : Program) (t : Nat) (x hi mx : SV) : QR :=
  match P.underlying t, x, iof hi, iof mx with
  | some (.slice e), .sl k off len cap, some b, some m => .ok (Nat.beq (sizeT P e) 1 && (ile 0 b && ile b m && ile m (cap : Int))) (.sl k off b.toNat m.toNat)
  | some (.slice e), .v (.slice none 0 0), some b, some m => .ok (Nat.beq (sizeT P e) 1 && (ile 0 b && ile b m && ile m 0)) (.v (.slice none 0 0))
  | _, _, _, _ => .no
def qlen (P : Program) (t : Nat) (x : SV) : QR :=
  match P.underlying t, x with
  | some .string, .s l => .ok true (.i (l.length : Nat))
  | some (.slice _), .sl _ _ len _ => .ok true (.i (len : Nat))
  | some (.slice _), .v (.slice _ len _) => .ok true (.i (len : Nat))
  | some (.array n _), _ => .ok true (.i (n : Nat))
  | _, _ => .no
def qcap (P : Program) (t : Nat) (x : SV) : QR :=
  match P.underlying t, x with
  | some (.slice _), .sl _ _ _ cap => .ok true (.i (cap : Nat))
  | some (.slice _), .v (.slice _ _ cap) => .ok true (.i (cap : Nat))
  | _, _ => .no
/-- Whether a pointer, or a slice, is nil. -/
def ptrNil : SV → Option Bool
  | .v (.pointer p) => some p.isNone
  | .ptr _ _ => some false
  | .pe _ _ _ _ _ => some false
  | _ => none
def slNil : SV → Option Bool
  | .v (.slice none _ _) => some true
  | .sl _ _ _ _ => some false
  | .rs _ _ _ _ _ _ => some false
  | .ns b _ _ _ _ => some b
  | _ => none
def qnil2 (neg : Bool) : Option Bool → Option Bool → QR
  | some true, some b => .ok true (.b (neg.xor b))
  | some false, some true => .ok true (.b neg)
  | _, _ => .no
/-- A pointer, held against nil or against itself. -/
def qptr (P : Program) (e : Nat) (neg : Bool) (x y : SV) : QR :=
  match x, y with
  | .ptr k off, .ptr j o => .ok (Nat.beq k j && Nat.beq off o && (P.info? e).isSome) (.b (!neg))
  | x, y => qnil2 neg (ptrNil x) (ptrNil y)
def qbool (neg : Bool) (x y : SV) : QR :=
  match x, y with
  | .b a, .b b => .ok true (.b (bif neg then !(a == b) else a == b))
  | _, _ => .no
/-- Arrays of words, compared. -/
def qeq64 (P : Program) (t n e : Nat) (neg : Bool) (x y : SV) : QR :=
  match x, y with
  | .a64 a, .a64 b => .ok (Nat.beq a.length n && Nat.beq b.length n && isInt P .u64 e && Nat.beq (sizeT P e) 1 && !P.eqGuardType P.depth t) (.b (bif neg then !(a == b) else a == b))
  | _, _ => .no
def qnil1 (P : Program) (t : Nat) (neg : Bool) (x y : SV) : QR :=
  match P.underlying t with
  | some (.pointer e) => qptr P e neg x y
  | some (.slice _) => qnil2 neg (slNil x) (slNil y)
  | some .bool => qbool neg x y
  | some (.array n e) => qeq64 P t n e neg x y
  | _ => .no
def qnil (P : Program) (t : Nat) (op : BinOp) (x y : SV) : QR :=
  match op with
  | .eql => qnil1 P t false x y
  | .neq => qnil1 P t true x y
  | _ => .no
def qfield (P : Program) (t f : Nat) (x : SV) : QR :=
  match x, P.underlying t with
  | .ptr k off, some (.struct fs) => match fs[f]? with
    | some d => .ok (Nat.blt 0 (sizeT P d.type)) (.ptr k (off + d.offset))
    | none => .no
  | _, _ => .no
/-- A field of a value that is a row of words. -/
def qfieldV (P : Program) (t f : Nat) (x : SV) : QR :=
  match x, P.underlying t with
  | .a64 l, some (.struct fs) => match fs[f]? with
    | some d => bif isRowT P d.type then .ok (Nat.blt 0 (sizeT P d.type) && Nat.ble (d.offset + sizeT P d.type) l.length) (.a64 ((l.drop d.offset).take (sizeT P d.type))) else .no
    | none => .no
  | _, _ => .no
def oneCell : SV → Bool
  | .any | .v _ | .a64 _ | .a32 _ | .a8 _ | .agg _ | .tup _ => false
  | _ => true
def nilV : SV → Bool
  | .v (.pointer _) => true
  | .v .nilIface => true
  | .v (.slice none _ _) => true
  | .v (.int _ _) => true
  | _ => false
/-- The cells of a part that is built in. -/
def partCells : SV → Option (List SV)
  | .a64 m => some (m.map .w64)
  | .a32 m => some (m.map .w32)
  | .a8 m => some (m.map .w8)
  | .agg l => some l
  | x => bif oneCell x || nilV x then some [x] else none
def placeF (P : Program) (fs : Array Field) : List (Nat × Operand) → List SV → List SV → Option (List SV)
  | [], [], cs => some cs
  | (i, _) :: ps, x :: xs, cs => match fs[i]?, partCells x with
    | some f, some l => bif Nat.beq l.length (sizeT P f.type) && Nat.blt 0 l.length && Nat.ble (f.offset + l.length) cs.length then placeF P fs ps xs (cs.take f.offset ++ l ++ cs.drop (f.offset + l.length)) else none
    | _, _ => none
  | _, _, _ => none
/-- Parts of words, one behind the other, that fill a row of n. -/
def cat64 (P : Program) (fs : Array Field) (n : Nat) : Nat → List (Nat × Operand) → List SV → Option (Bool × List (BitVec 64))
  | acc, [], [] => bif Nat.beq acc n then some (true, []) else none
  | acc, (i, _) :: ps, .a64 m :: xs => match fs[i]? with
    | some f => bif Nat.beq f.offset acc && Nat.blt 0 (sizeT P f.type) then
      (match cat64 P fs n (acc + sizeT P f.type) ps xs with
      | some (b, r) => some (Nat.beq m.length (sizeT P f.type) && b, m ++ r)
      | none => none) else none
    | none => none
  | _, _, _ => none
/-- The places of an array's elements, as if they were fields. -/
def arrF (e sz n : Nat) : Array Field := ((List.range n).map fun i => ({ name := "", type := e, offset := i * sz, embedded := false, tag := "", pkgPath := "", byteOffset := 0 } : Field)).toArray
/-- A row of words alone. -/
def row64 (l : List SV) : SV := match as64 l with
  | some (x :: m) => .a64 (x :: m)
  | _ => .agg l
def sized (P : Program) (t : Nat) : Bool := (P.info? t).isSome
def zeroRow (P : Program) (t : Nat) : Option (List SV) := match P.info? t with
  | some i => match i.zero with
    | some (.agg cs) => zsvs cs.toList
    | _ => none
  | none => none
def asI : List SV → Option (List Int)
  | [] => some []
  | .i x :: l => (asI l).map (x :: ·)
  | _ => none
def asS : List SV → Option (List (List (BitVec 8)))
  | [] => some []
  | .s x :: l => (asS l).map (x :: ·)
  | _ => none
/-- The parts 0, 1, 2 .. in order. -/
def inOrder (n : Nat) : List (Nat × Operand) → Bool
  | [] => true
  | (i, _) :: l => Nat.beq i n && inOrder (n + 1) l
def zeroCells (P : Program) (t n : Nat) : Bool := match P.info? t with
  | some i => match i.zero with
    | some z => Nat.beq z.cells.size n
    | none => false
  | none => false
def qbuildSlice (P : Program) (t len n : Nat) (parts : List (Nat × Operand)) (xs : List SV) : QR :=
  match P.underlying t with
  | some (.slice e) => bif Nat.beq (sizeT P e) 1 && zeroCells P e 1 && inOrder 0 parts && Nat.beq xs.length len && Nat.ble len 1000 then
    (match P.underlying e with
    | some (.int .u64) => match as64 xs with
      | some l => .new true (.sl n 0 len len) (.a64 l)
      | none => .no
    | some (.int .u32) => match as32 xs with
      | some l => .new true (.sl n 0 len len) (.a32 l)
      | none => .no
    | some (.int .u8) => match as8 xs with
      | some l => .new true (.sl n 0 len len) (.a8 l)
      | none => .no
    | some (.int .i64) => match asI xs with
      | some l => .new true (.sl n 0 len len) (.ints l)
      | none => .no
    | some .string => match asS xs with
      | some l => .new true (.sl n 0 len len) (.strs [] l)
      | none => .no
    | _ => .no) else .no
  | _ => .no
def qbuild (P : Program) (t : Nat) (parts : List (Nat × Operand)) (xs : List SV) : QR :=
  match P.underlying t with
  | some (.array n e) => bif Nat.beq (sizeT P e) 1 && zeroCells P t n && inOrder 0 parts && Nat.beq xs.length n then
    (match P.underlying e with
    | some (.int .u64) => match as64 xs with
      | some l => .ok true (.a64 l)
      | none => .no
    | some (.int .u32) => match as32 xs with
      | some l => .ok true (.a32 l)
      | none => .no
    | some (.int .u8) => match as8 xs with
      | some l => .ok true (.a8 l)
      | none => .no
    | some (.int .i64) => match asI xs with
      | some l => .ok true (.agg (l.map .i))
      | none => .no
    | _ => .no) else
    bif Nat.beq (sizeT P e) 1 && zeroCells P t n && inOrder 0 parts && Nat.ble xs.length n then
    (match as64 xs, zc P t with
    | some l, some (.a64 z) => .ok true (.a64 (l ++ z.drop l.length))
    | _, _ => .no) else (match zeroRow P t with
    | some z => bif Nat.blt 0 (sizeT P e) then (match cat64 P (arrF e (sizeT P e) n) z.length 0 parts xs with
      | some (b, l) => .ok b (.a64 l)
      | none => match placeF P (arrF e (sizeT P e) n) parts xs z with
        | some l => match as8 l with
          | some m => .ok true (.a8 m)
          | none => .no
        | none => .no) else .no
    | none => .no)
  | some (.struct fs) => bif fs.toList.all (fun f => sized P f.type) then (match zeroRow P t with
    | some z => match cat64 P fs z.length 0 parts xs with
      | some (b, l) => .ok b (.a64 l)
      | none => match placeF P fs parts xs z with
        | some l => .ok true (row64 l)
        | none => .no
    | none => .no) else .no
  | _ => .no
/-- The array that a slice begins with. -/
def qarr (P : Program) (t : Nat) (x : SV) : QR :=
  match P.underlying t with
  | some (.array n _) => match x with
    | .sl k off len _ => .ok (Nat.ble n len) (.ptr k off)
    | _ => .no
  | _ => .no
def zIs (P : Program) (k : IntKind) (t b : Nat) : Bool := match P.info? t with
  | some i => match i.zero with
    | some z => isZ k z && Nat.beq i.bytes b
    | none => false
  | none => false
def isF : Value → Bool
  | .bool false => true
  | _ => false
theorem isF_ok {z : Value} (h : isF z = true) : z = .bool false := by
  unfold isF at h
  split at h
  · rfl
  · cases h
/-- A type of one cell that is false at first. -/
def zF (P : Program) (t : Nat) : Bool := match P.info? t with
  | some i => match i.zero with
    | some z => isF z && (Nat.beq i.bytes 1 && Nat.beq i.size 1)
    | none => false
  | none => false
def qmake (P : Program) (t n : Nat) (x y : SV) : QR :=
  match P.underlying t, iof x, iof y with
  | some (.slice e), some a, some b =>
    bif isInt P .u8 e && Nat.beq (sizeT P e) 1 && zIs P .u8 e 1 then .new (ile 0 a && ile a b && ile b 140737488355328) (.sl n 0 a.toNat b.toNat) (.a8 (List.replicate b.toNat 0)) else
    bif isInt P .u64 e && Nat.beq (sizeT P e) 1 && zIs P .u64 e 8 then .new (ile 0 a && ile a b && ile (8 * b) 140737488355328) (.sl n 0 a.toNat b.toNat) (.a64 (List.replicate b.toNat 0)) else
    bif zF P e then .new (ile 0 a && ile a b && ile b 140737488355328) (.rs n 0 0 1 a.toNat b.toNat) (.recs none [.b] [] (List.replicate b.toNat (rz [.b]))) else .no
  | _, _, _ => .no
def qpick (t : Bool) : SV → SV → QR
  | .b x, .b y => .ok true (.b (bif t then x else y))
  | .i x, .i y => .ok true (.i (bif t then x else y))
  | .w64 x, .w64 y => .ok true (.w64 (bif t then x else y))
  | .s x, .s y => .ok true (.s (bif t then x else y))
  | .any, y => .ok (!t) y
  | x, .any => .ok t x
  | .v _, y => .ok (!t) y
  | x, .v _ => .ok t x
  | _, _ => .no
/-- A value that points to nothing by itself. -/
def plainV : SV → Bool
  | .agg _ => true
  | .i _ => true
  | .s _ => true
  | .b _ => true
  | .w64 _ => true
  | _ => false
/-- Calls that read alone: what they answer, of their arguments and of what the blocks hold to which these point. -/
abbrev PT := Nat → List SV → List Cont → Option (Bool × SV)
def qcall (T : PT) (xs : List SV) (cs : List Cont) : QR :=
  match xs, cs with
  | .fn f caps :: args, c0 :: acs => match caps with
    | [] => match T f args acs with
      | some (c, r) => .ok c r
      | none => .no
    | [.ptr k off] => match T f (args ++ [.ptr k off]) (acs ++ [c0]) with
      | some (c, r) => .ok c r
      | none => .no
    | _ => .no
  | .fm f first :: args, _ :: acs => bif first.all plainV then (match T f (first ++ args) (first.map (fun _ => .gone) ++ acs) with
    | some (c, r) => .ok c r
    | none => .no) else .no
  | _, _ => .no
/-- The block that a value points to. -/
def tgt (M : Mm) : SV → Cont
  | .ptr k _ => match M[k]? with
    | some e => e.c
    | none => .gone
  | .sl k _ _ _ => match M[k]? with
    | some e => e.c
    | none => .gone
  | .fn _ [.ptr k _] => match M[k]? with
    | some e => e.c
    | none => .gone
  | .pe k _ _ _ _ => match M[k]? with
    | some e => e.c
    | none => .gone
  | .rs k _ _ _ _ _ => match M[k]? with
    | some e => e.c
    | none => .gone
  | .ns _ k _ _ _ => match M[k]? with
    | some e => e.c
    | none => .gone
  | .mp k => match M[k]? with
    | some e => e.c
    | none => .gone
  | _ => .gone
/-- Blocks of which the type is told: in a table that says so. -/
def typed (T : PT) : Bool := (T 1000000 [] []).isSome
/-- Whether new blocks of that type are told with it: in a table that says so. -/
def typedAt (T : PT) (t : Nat) : Bool := (T 1000000 [.i (t : Nat)] []).isSome
/-- Whether guards are told apart where they are made: in a table that says so. -/
def splitOn (T : PT) : Bool := (T 1000001 [] []).isSome
/-- Whether rows may be read in part: in a table that says so. -/
def wideOn (T : PT) : Bool := (T 1000002 [] []).isSome
/-- Whether it is told of an append whether the row moves: in a table that says so. -/
def exactOn (T : PT) : Bool := (T 1000003 [] []).isSome
/-- Whether a slice of bytes that is added to may begin anywhere in its block: in a table that says so. -/
def offOn (T : PT) : Bool := (T 1000004 [] []).isSome
def qloadW (P : Program) (t off : Nat) (c : Cont) : QR :=
  bif known P t && isRowT P t then (match c with
    | .a64 l => bif Nat.beq off 0 && Nat.beq l.length (sizeT P t) then .ok true (.a64 l) else .ok (Nat.ble (off + sizeT P t) l.length) (.a64 ((l.drop off).take (sizeT P t)))
    | c => qload P t off c) else qload P t off c
def tyC (t : Nat) (b : Bool) (c : Cont) : Cont := bif b then (match c with
  | .row l => .tr t l
  | c => c) else c
def qalloc (t n : Nat) (b : Bool) (c : Cont) : QR := match b with
  | true => match c with
    | .row l => .new true (.ptr n 0) (.tr t l)
    | c => .new true (.ptr n 0) c
  | false => .new true (.ptr n 0) c
theorem qalloc_eq (t n : Nat) (b : Bool) (c : Cont) : qalloc t n b c = .new true (.ptr n 0) (tyC t b c) := by
  cases b
  · rfl
  · cases c <;> rfl
def qmin (xs : List SV) : QR := match xs with
  | [.i a, .i b] => .ok true (.i (bif ilt b a then b else a))
  | [.w8 a, .w8 b] => .ok true (.w8 (bif BitVec.ult b a then b else a))
  | _ => .no
def qsdata (xs : List SV) : QR := match xs with
  | [.sl k off _ cap] => .ok (Nat.blt 0 cap) (.ptr k off)
  | [.v (.slice none _ _)] => .ok true (.v (.pointer none))
  | _ => .no
def qcore0 (P : Program) (T : PT) (n : Nat) (op : Op) (xs : List SV) (cs : List Cont) : QR :=
  match op with
  | .move _ | .assign _ => match xs with
    | [x] => .ok true x
    | _ => .no
  | .pick _ _ _ => match xs with
    | [.b t, x, y] => qpick t x y
    | _ => .no
  | .alloc t => match zc P t with
    | some c => qalloc t n (typedAt T t) c
    | none => .no
  | .box t _ => match xs with
    | [x] => match boxc x with
      | some c => .new true (.ptr n 0) c
      | none => .no
    | _ => .no
  | .load t _ => match xs, cs with
    | [.ptr _ off], [c] => bif Nat.blt 0 (sizeT P t) then (bif wideOn T then qloadW P t off c else qload P t off c) else .no
    | _, _ => .no
  | .nilCheck _ => match xs with
    | [.ptr k off] => .ok true (.ptr k off)
    | _ => .no
  | .binOp op t _ _ _ => match xs with
    | [x, y] => match qbin op x y with
      | .no => qnil P t op x y
      | .ok c r => .ok c r
      | .new _ _ _ => .no
    | _ => .no
  | .fieldAddr t _ f => match xs with
    | [x] => qfield P t f x
    | _ => .no
  | .field t _ f => match xs with
    | [x] => qfieldV P t f x
    | _ => .no
  | .unOp op _ _ => match xs with
    | [x] => qun op x
    | _ => .no
  | .convert src dst _ => match xs, cs with
    | [x], [c] => qconv P src dst x c
    | _, _ => .no
  | .index t _ _ => match xs with
    | [x, y] => qindex P t x y
    | _ => .no
  | .indexAddr t _ _ => match xs with
    | [x, y] => qixaddr P t x y
    | _ => .no
  | .slice t _ lo hi mx => match mx with
    | none => match lo, hi with
      | none, none => match xs with
        | [x] => qslice P t x none none
        | _ => .no
      | some _, none => match xs with
        | [x, a] => qslice P t x (some a) none
        | _ => .no
      | none, some _ => match xs with
        | [x, b] => qslice P t x none (some b)
        | _ => .no
      | some _, some _ => match xs with
        | [x, a, b] => qslice P t x (some a) (some b)
        | _ => .no
    | some _ => match lo, hi with
      | some _, some _ => match xs with
        | [x, a, b, m] => qslice3 P t x a b m
        | _ => .no
      | none, some _ => match xs with
        | [x, b, m] => qslice3n P t x b m
        | _ => .no
      | _, _ => .no
  | .makeSlice t _ _ => match xs with
    | [x, y] => qmake P t n x y
    | _ => .no
  | .buildSlice t len parts => qbuildSlice P t len n parts.toList xs
  | .build t parts => qbuild P t parts.toList xs
  | .sliceToArrayPointer t _ => match xs with
    | [x] => qarr P t x
    | _ => .no
  | .makeFunc f first caps => match f with
    | .func g => bif first.isEmpty then .ok true (.fn g xs) else bif caps.isEmpty then .ok true (.fm g xs) else .no
    | _ => .no
  | .extract _ j => match xs with
    | [.tup l] => match l[j]? with
      | some x => .ok true x
      | none => .no
    | _ => .no
  | .call c => match c.callee with
    | .builtin b => match b with
      | .len => match c.argTypes[0]?, xs with
        | some t, [x] => qlen P t x
        | _, _ => .no
      | .cap => match c.argTypes[0]?, xs with
        | some t, [x] => qcap P t x
        | _, _ => .no
      | .min => qmin xs
      | .unsafeSliceData => qsdata xs
      | _ => .no
    | .value _ => qcall T xs cs
    | _ => .no
  | _ => .no
/-- Which records a type has, told by its noughts. -/
def fkZ : Value → Option Fk
  | .int .u64 z => bif z == 0 then some .u64 else none
  | .int .u32 z => bif z == 0 then some .u32 else none
  | .int .u16 z => bif z == 0 then some .u16 else none
  | .int .u8 z => bif z == 0 then some .u8 else none
  | .int .i64 z => bif z == 0 then some .i else none
  | .string s => bif s.size == 0 then some .s else none
  | .bool b => bif b then none else some .b
  | _ => none
def fksZ : List Value → Option (List Fk)
  | [] => some []
  | x :: l => match fkZ x, fksZ l with
    | some y, some m => some (y :: m)
    | _, _ => none
def fksOf (P : Program) (t : Nat) : Option (List Fk) := match P.info? t with
  | some i => match i.zero with
    | some (.agg cs) => bif Nat.beq i.size cs.size then fksZ cs.toList else none
    | _ => none
  | none => none
/-- The slice's elements are records. -/
def recT (P : Program) (t : Nat) : Bool := match P.underlying t with
  | some (.slice e) => isStructT P e && (fksOf P e).isSome
  | _ => false
/-- That record lies in the row. -/
def rok (base idx sz : Nat) (fs : List Fk) (pre : List Value) (m : Nat) : Bool := Nat.beq sz fs.length && (Nat.blt 0 sz && (Nat.ble pre.length base && (Nat.beq ((base - pre.length) % sz) 0 && Nat.blt (idx + (base - pre.length) / sz) m)))
def qloadR (P : Program) (t base idx sz j : Nat) (fs : List Fk) (pre : List Value) (l : List (Rc fs)) : QR :=
  bif known P t && Nat.blt 0 (sizeT P t) then
    (bif isRowT P t then .ok (rok base idx sz fs pre l.length && Nat.ble (j + sizeT P t) sz) (rowSV (((rcs fs (l.getD (idx + (base - pre.length) / sz) (rz fs))).drop j).take (sizeT P t)))
    else (match (rcs fs (l.getD (idx + (base - pre.length) / sz) (rz fs)))[j]? with
      | some x => .ok (rok base idx sz fs pre l.length) x
      | none => .no)) else .no
def qstoreR (P : Program) (t base idx sz j : Nat) (fs : List Fk) (pre : List Value) (l : List (Rc fs)) (x : SV) : Option (Bool × List (Rc fs)) :=
  match partCells x with
  | some m => match unrc fs ((rcs fs (l.getD (idx + (base - pre.length) / sz) (rz fs))).take j ++ m ++ (rcs fs (l.getD (idx + (base - pre.length) / sz) (rz fs))).drop (j + m.length)) with
    | some r => some (rok base idx sz fs pre l.length && (Nat.beq m.length (sizeT P t) && Nat.ble (j + m.length) sz), l.set (idx + (base - pre.length) / sz) r)
    | none => none
  | none => none
def qfieldR (P : Program) (t f k base idx sz j : Nat) : QR := match P.underlying t with
  | some (.struct fs) => match fs[f]? with
    | some d => .ok (Nat.blt 0 (sizeT P d.type)) (.pe k base idx sz (j + d.offset))
    | none => .no
  | _ => .no
def qixR (P : Program) (t k base eo sz len : Nat) (y : SV) : QR := match iof y, P.underlying t with
  | some z, some (.slice e) => .ok (Nat.beq (sizeT P e) sz && (Nat.blt 0 sz && inR z len)) (.pe k base (z.toNat + eo) sz 0)
  | _, _ => .no
/-- A slice that may be nil. -/
def also (b : Bool) : QR → QR
  | .ok c r => .ok (b && c) r
  | _ => .no
def qsliceR (P : Program) (t k base eo sz len cap : Nat) (lo hi : Option SV) : QR := match P.underlying t, bound 0 lo, bound len hi with
  | some (.slice e), some a, some b => match lo, hi with
    | some _, none => .ok (Nat.beq (sizeT P e) sz && (Nat.blt 0 sz && (ile 0 a && ile a b && ile b (cap : Int)))) (.rs k base (bif ilt a (cap : Int) then a.toNat + eo else eo) sz (b.toNat - a.toNat) (cap - a.toNat))
    | none, _ => .ok (Nat.beq (sizeT P e) sz && (Nat.blt 0 sz && (ile 0 b && ile b (cap : Int)))) (.rs k base eo sz b.toNat cap)
    | _, _ => .ok (Nat.beq (sizeT P e) sz && (Nat.blt 0 sz && (ile 0 a && ile a b && ile b (cap : Int) && ilt a (cap : Int)))) (.rs k base (a.toNat + eo) sz (b.toNat - a.toNat) (cap - a.toNat))
  | _, _, _ => .no
def qsliceN (P : Program) (t : Nat) (lo hi : Option SV) : QR := match P.underlying t, bound 0 lo, bound 0 hi with
  | some (.slice e), some a, some b => .ok (Nat.blt 0 (sizeT P e) && (ile 0 a && ile a b && ile b 0)) (.v (.slice none 0 0))
  | _, _, _ => .no
def qslR (P : Program) (t : Nat) (x : SV) (lo hi : Option SV) : QR := match x with
  | .rs k base eo sz len cap => qsliceR P t k base eo sz len cap lo hi
  | .v (.slice none 0 0) => bif recT P t then qsliceN P t lo hi else .no
  | _ => .no
/-- Cells that are compared. -/
def eq1 : SV → SV → Option Bool
  | .w64 a, .w64 b => some (a == b)
  | .w32 a, .w32 b => some (a == b)
  | .w16 a, .w16 b => some (a == b)
  | .w8 a, .w8 b => some (a == b)
  | .i a, .i b => some (a == b)
  | .s a, .s b => some (a == b)
  | .b a, .b b => some (a == b)
  | _, _ => none
def kindIs (P : Program) (t : Nat) (x : SV) : Bool := match P.underlying t, x with
  | some (.int _), .w64 _ => true
  | some (.int _), .w32 _ => true
  | some (.int _), .w16 _ => true
  | some (.int _), .w8 _ => true
  | some (.int _), .i _ => true
  | some .string, .s _ => true
  | some .bool, .b _ => true
  | _, _ => false
/-- A struct's fields, each of one cell, one behind the other, and what they make of two values. -/
def eqF (P : Program) : Nat → List Field → List SV → List SV → Option Bool
  | _, [], [], [] => some true
  | n, f :: fs, x :: a, y :: b => bif Nat.beq f.offset n && (!(f.name == "_") && kindIs P f.type x) then
      (match eq1 x y, eqF P (n + 1) fs a b with
      | some p, some q => some (p && q)
      | _, _ => none) else none
  | _, _, _, _ => none
def qeqR (P : Program) (t : Nat) (neg : Bool) (a b : List SV) : QR := match P.underlying t with
  | some (.struct fs) => match eqF P 0 fs.toList a b with
    | some r => .ok (!P.stoodInHeld t && !P.eqGuardType P.depth t) (.b (bif neg then !r else r))
    | none => .no
  | _ => .no
def qeq8 (P : Program) (t : Nat) (neg : Bool) (a b : List (BitVec 8)) : QR := match P.underlying t with
  | some (.array n e) => .ok (Nat.beq a.length n && (Nat.beq b.length n && (isInt P .u8 e && (Nat.beq (sizeT P e) 1 && !P.eqGuardType P.depth t)))) (.b (bif neg then !(a == b) else a == b))
  | _ => .no
def qcmpR (P : Program) (t : Nat) (neg : Bool) (xs : List SV) : QR := match xs with
  | [.agg a, .agg b] => qeqR P t neg a b
  | [.a8 a, .a8 b] => qeq8 P t neg a b
  | _ => .no
def unrcs (fs : List Fk) : List SV → Option (List (Rc fs))
  | [] => some []
  | x :: l => match partCells x with
    | some m => match unrc fs m, unrcs fs l with
      | some r, some rs => some (r :: rs)
      | _, _ => none
    | none => none
def qbuildR (P : Program) (t len n : Nat) (parts : List (Nat × Operand)) (xs : List SV) : QR := match P.underlying t with
  | some (.slice e) => bif isStructT P e then (match fksOf P e with
    | some fs => match unrcs fs xs with
      | some l => .new (Nat.beq (sizeT P e) fs.length && (Nat.blt 0 fs.length && (inOrder 0 parts && (Nat.beq xs.length len && Nat.ble (len * fs.length) 1000)))) (.rs n 0 0 fs.length len len) (.recs (some e) fs [] l)
      | none => .no
    | none => .no) else .no
  | _ => .no
def qmax (xs : List SV) : QR := match xs with
  | [.i a, .i b] => .ok true (.i (bif ilt a b then b else a))
  | _ => .no
/-- What is made of records. -/
def qmakeT (P : Program) (t n : Nat) (x y : SV) : QR :=
  match P.underlying t, iof x, iof y with
  | some (.slice e), some a, some b =>
    bif isInt P .u8 e && Nat.beq (sizeT P e) 1 && zIs P .u8 e 1 then .new (ile 0 a && ile a b && ile b 140737488355328) (.sl n 0 a.toNat b.toNat) (.t8 e (List.replicate b.toNat 0)) else .no
  | _, _, _ => .no
/-- The type is a slice's. -/
def slT (P : Program) (t : Nat) : Bool := match P.underlying t with
  | some (.slice _) => true
  | _ => false
def qlenR (P : Program) (t : Option Nat) (xs : List SV) : QR := match t, xs with
  | some t, [.rs _ _ _ _ len _] => bif slT P t then .ok true (.i (len : Nat)) else .no
  | some t, [.ns b _ _ len _] => bif recT P t then .ok (!b || Nat.beq len 0) (.i (len : Nat)) else .no
  | _, _ => .no
/-- How many entries a map has. -/
def qlenM (P : Program) (t : Option Nat) (n : Nat) : QR := match t with
  | some t => match P.underlying t with
    | some (.map _ _) => .ok true (.i (n : Nat))
    | _ => .no
  | none => .no
def qrec (P : Program) (ty : Bool) (n : Nat) (op : Op) (xs : List SV) (cs : List Cont) : QR :=
  match op with
  | .load t _ => match xs, cs with
    | [.pe _ base idx sz j], [.recs _ fs pre l] => qloadR P t base idx sz j fs pre l
    | [.pe _ base idx sz j], [.nrec b _ fs l] => also (!b) (qloadR P t base idx sz j fs [] l)
    | _, _ => .no
  | .nilCheck _ => match xs with
    | [.pe k base idx sz j] => .ok true (.pe k base idx sz j)
    | _ => .no
  | .fieldAddr t _ f => match xs with
    | [.pe k base idx sz j] => qfieldR P t f k base idx sz j
    | _ => .no
  | .indexAddr t _ _ => match xs with
    | [.rs k base eo sz len _, y] => qixR P t k base eo sz len y
    | [.ns b k sz len _, y] => also (!b) (qixR P t k 0 0 sz len y)
    | _ => .no
  | .slice t _ lo hi mx => match mx with
    | none => match lo, hi with
      | none, none => match xs with
        | [x] => qslR P t x none none
        | _ => .no
      | some _, none => match xs with
        | [x, a] => qslR P t x (some a) none
        | _ => .no
      | none, some _ => match xs with
        | [x, b] => qslR P t x none (some b)
        | _ => .no
      | some _, some _ => match xs with
        | [x, a, b] => qslR P t x (some a) (some b)
        | _ => .no
    | some _ => .no
  | .binOp op t _ _ _ => match op with
    | .eql => qcmpR P t false xs
    | .neq => qcmpR P t true xs
    | _ => .no
  | .buildSlice t len parts => qbuildR P t len n parts.toList xs
  | .makeSlice t _ _ => match ty, xs with
    | true, [x, y] => qmakeT P t n x y
    | _, _ => .no
  | .call c => match c.callee with
    | .builtin b => match b with
      | .len => match xs, cs with
        | [.mp _], [.res s] => qlenM P (bif s.was then none else c.argTypes[0]?) s.len
        | _, _ => qlenR P c.argTypes[0]? xs
      | .cap => match c.argTypes[0]?, xs with
        | some t, [.rs _ _ _ _ _ cap] => bif recT P t then .ok true (.i (cap : Nat)) else .no
        | _, _ => .no
      | .max => qmax xs
      | _ => .no
    | _ => .no
  | _ => .no
def qcore (P : Program) (T : PT) (n : Nat) (op : Op) (xs : List SV) (cs : List Cont) : QR :=
  match qrec P (typed T) n op xs cs with
  | .no => qcore0 P T n op xs cs
  | .ok c r => .ok c r
  | .new c r x => .new c r x
end Go.Proofs.Ytkjfecdpakhggaa
