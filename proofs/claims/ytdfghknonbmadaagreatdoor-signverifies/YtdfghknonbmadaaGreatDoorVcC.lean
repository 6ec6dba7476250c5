/-
  A reckoner of conditions: a walk over code. No statement is proved here.
-/
import Derived.Test.YtdfghknonbmadaaGreatDoorVcB
import Derived.Deep.MidRow
import Derived.Deep.AppendSrc
import Derived.Deep.LoopGhost
import Derived.Laws.BytesString
import Derived.Laws.MakeOwn
namespace Go.Proofs.YtdfghknonbmadaaGreatDoor
open Go.RowKit
set_option linter.unusedVariables false
set_option linter.unusedSimpArgs false
def setK {α : Type} : List α → Nat → α → (List α → Prop) → Prop
 | [], _, _, K => K []
 | _ :: l, 0, x, K => K (x :: l)
 | y :: l, d + 1, x, K => setK l d x fun m => K (y :: m)
def snocK {α : Type} : List α → α → (List α → Prop) → Prop
 | [], x, K => K [x]
 | y :: l, x, K => snocK l x fun m => K (y :: m)
def forceK (x : SV) (K : SV → Prop) : Prop :=
 match x with
 | .any => K .any
 | .v y => K (.v y)
 | .i z => K (.i z)
 | .b t => K (.b t)
 | .w64 a => K (.w64 a)
 | .w32 a => K (.w32 a)
 | .w16 a => K (.w16 a)
 | .w8 a => K (.w8 a)
 | .s l => K (.s l)
 | .ptr k off => K (.ptr k off)
 | .sl k off len cap => K (.sl k off len cap)
 | .a64 l => K (.a64 l)
 | .a32 l => K (.a32 l)
 | .a8 l => K (.a8 l)
 | .agg l => K (.agg l)
 | .tup l => K (.tup l)
 | .fn f l => K (.fn f l)
def evsK (fr : List SV) : List Operand → (List SV → Prop) → Prop
 | [], K => K []
 | o :: l, K => forceK (ev fr o) fun x => evsK fr l fun m => K (x :: m)
def mapK {α β : Type} (f : α → β) : List α → (List β → Prop) → Prop
 | [], K => K []
 | x :: l, K => mapK f l fun m => K (f x :: m)
def putK (fr : List SV) (d : Option Tmp) (x : SV) (K : List SV → Prop) : Prop :=
 match d with
 | none => K fr
 | some k => setK fr k x K
def qstore (P : Program) (t off : Nat) (c : Cont) (x : SV) : Option (Bool × Cont) :=
 match c, x with
 | .a64 l, .a64 m => some (isRowT P t && Nat.beq off 0 && Nat.beq m.length l.length && Nat.beq m.length (sizeT P t), .a64 m)
 | .a32 l, .a32 m => some (isRowT P t && Nat.beq off 0 && Nat.beq m.length l.length && Nat.beq m.length (sizeT P t), .a32 m)
 | .a8 l, .a8 m => some (isRowT P t && Nat.beq off 0 && Nat.beq m.length l.length && Nat.beq m.length (sizeT P t), .a8 m)
 | .a64 l, .w64 a => some (Nat.beq (sizeT P t) 1 && Nat.blt off l.length, .a64 (l.set off a))
 | .a32 l, .w32 a => some (Nat.beq (sizeT P t) 1 && Nat.blt off l.length, .a32 (l.set off a))
 | .a8 l, .w8 a => some (Nat.beq (sizeT P t) 1 && Nat.blt off l.length, .a8 (l.set off a))
 | .ints l, .i a => some (Nat.beq (sizeT P t) 1 && Nat.blt off l.length, .ints (l.set off a))
 | .row l, .agg m => some (isRowT P t && Nat.beq m.length (sizeT P t) && Nat.beq off 0 && Nat.beq m.length l.length && m.all (fun y => oneCell y || nilV y), .row m)
 | .row l, .a32 m => some (isRowT P t && Nat.beq m.length (sizeT P t) && Nat.ble (off + m.length) l.length, .row (l.take off ++ m.map .w32 ++ l.drop (off + m.length)))
 | .row l, x => bif oneCell x || nilV x then some (Nat.beq (sizeT P t) 1 && Nat.blt off l.length, .row (l.set off x)) else none
 | .tr u l, x => bif oneCell x || nilV x then some (Nat.beq (sizeT P t) 1 && Nat.blt off l.length, .tr u (l.set off x)) else none
 | _, _ => none
abbrev CT := Nat → List SV → Mm → (SV → Mm → Prop) → Prop
structure Env where
 G : Mm
 T : PT
 C : CT
def vsome (b : Bool) (K : Prop) : Prop := bif b then K else False
def addedBytes (P : Program) (tys : List Nat) (M : Mm) : SV → Option (Bool × List (BitVec 8))
 | .s m => some (true, m)
 | .sl k off len _ => match M[k]? with
  | some ⟨_, .a8 l⟩ => some (decide (off + len ≤ l.length), (l.drop off).take len)
  | _ => none
 | .i z => match tys with
  | [_, t] => bif isInt P .i64 t then some (ilt 0 z && ile z 1099511627776, List.replicate z.toNat 0) else none
  | _ => none
 | _ => none
def srcBlock : SV → Option Nat
 | .sl k _ _ _ => some k
 | _ => none
def srcOk (P : Program) (t : Nat) (x : SV) : Bool := match x, P.underlying t with
 | .s _, some .string => true
 | .sl _ _ _ _, some (.slice _) => true
 | .i _, some (.int _) => true
 | _, _ => false
def isBytes (P : Program) (t : Nat) : Bool := match P.underlying t with
 | some (.slice e) => isInt P .u8 e && Nat.beq (sizeT P e) 1 && zIs P .u8 e 1
 | _ => false
def vappend (P : Program) (tys : List Nat) (M : Mm) (xs : List SV) (K : SV → Mm → Prop) : Prop :=
 match tys, xs with
 | [t, tx], [d, x] => vsome (isBytes P t && srcOk P tx x) <| match addedBytes P tys M x with
  | none => False
  | some (c, m) => match d with
   | .sl k off len cap => match M[k]? with
    | some ⟨true, .a8 l⟩ => vsome (c && Nat.beq off 0 && decide (len ≤ cap) && decide (l.length = cap) && decide (len + m.length ≤ 1099511627776) && (match srcBlock x with
      | some j => !(Nat.beq j k)
      | none => true)) <|
     ∀ (cap' : Nat) (rest : List (BitVec 8)), len + m.length + rest.length = cap' → setK M k ⟨true, .gone⟩ fun M1 => snocK M1 ⟨true, .a8 (l.take len ++ m ++ rest)⟩ fun M2 => K (.sl M.length 0 (len + m.length) cap') M2
    | _ => False
   | .v (.slice none 0 0) => vsome (c && decide (0 < m.length) && decide (m.length ≤ 1099511627776)) <|
     ∀ (cap' : Nat) (rest : List (BitVec 8)), m.length + rest.length = cap' → snocK M ⟨true, .a8 (m ++ rest)⟩ fun M2 => K (.sl M.length 0 m.length cap') M2
   | _ => False
 | _, _ => False
def elemT (P : Program) (t : Nat) : Nat := match P.underlying t with
 | some (.slice e) => e
 | _ => 0
def vappendT (P : Program) (tys : List Nat) (M : Mm) (xs : List SV) (K : SV → Mm → Prop) : Prop :=
 match tys, xs with
 | [t, tx], [d, .s m] => vsome (isBytes P t && srcOk P tx (.s m)) <| match d with
  | .sl k off len cap => match M[k]? with
   | some ⟨true, .t8 u l⟩ => vsome (Nat.beq off 0 && decide (len ≤ cap) && decide (l.length = cap) && decide (len + m.length ≤ 1099511627776) && Nat.beq u (elemT P t)) <|
    ∀ (cap' : Nat) (rest : List (BitVec 8)), len + m.length + rest.length = cap' → setK M k ⟨true, .gone⟩ fun M1 => snocK M1 ⟨true, .t8 u (l.take len ++ m ++ rest)⟩ fun M2 => K (.sl M.length 0 (len + m.length) cap') M2
   | _ => False
  | .v (.slice none 0 0) => vsome (decide (m.length ≤ 1099511627776)) <| bif Nat.beq m.length 0 then K (.v (.slice none 0 0)) M else
    ∀ (cap' : Nat) (rest : List (BitVec 8)), m.length + rest.length = cap' → snocK M ⟨true, .t8 (elemT P t) (m ++ rest)⟩ fun M2 => K (.sl M.length 0 m.length cap') M2
  | _ => False
 | _, _ => False
def vustr (P : Program) (tys : List Nat) (M : Mm) (xs : List SV) (K : SV → Mm → Prop) : Prop :=
 match tys, xs with
 | [t, _], [.v (.pointer none), .i n] => vsome (n == 0) (K (.s []) M)
 | [t, _], [.ptr k off, .i n] => match M[k]? with
  | some ⟨true, .t8 u l⟩ => bif n == 0 then K (.s []) M else vsome ((match P.underlying t with
    | some (.pointer e) => Nat.beq e u && Nat.beq (P.cellsOf e) 1
    | _ => false) && Nat.beq off 0 && ile 0 n && ile n (l.length : Int) && ile n 1099511627776) <| setK M k ⟨true, .gone⟩ fun M2 => K (.s (l.take n.toNat)) M2
  | _ => False
 | _, _ => False
def isWords (P : Program) (t : Nat) : Bool := match P.underlying t with
 | some (.slice e) => isInt P .u64 e && Nat.beq (sizeT P e) 1 && zIs P .u64 e 8
 | _ => false
def vappendW (P : Program) (tys : List Nat) (M : Mm) (xs : List SV) (K : SV → Mm → Prop) : Prop :=
 match tys, xs with
 | [t, tx], [d, .sl j o n c] => vsome (isWords P t && srcOk P tx (.sl j o n c)) <| match M[j]? with
  | some ⟨_, .a64 q⟩ => match d with
   | .sl k off len cap => match M[k]? with
    | some ⟨true, .a64 l⟩ => vsome (decide (o + n ≤ q.length) && Nat.beq off 0 && decide (len ≤ cap) && decide (l.length = cap) && decide (len + n ≤ 68719476736) && !(Nat.beq j k)) <|
     ∀ (cap' : Nat) (rest : List (BitVec 64)), len + n + rest.length = cap' → setK M k ⟨true, .gone⟩ fun M1 => snocK M1 ⟨true, .a64 (l.take len ++ (q.drop o).take n ++ rest)⟩ fun M2 => K (.sl M.length 0 (len + n) cap') M2
    | _ => False
   | .v (.slice none 0 0) => vsome (decide (o + n ≤ q.length) && decide (0 < n) && decide (n ≤ 68719476736)) <|
     ∀ (cap' : Nat) (rest : List (BitVec 64)), n + rest.length = cap' → snocK M ⟨true, .a64 ((q.drop o).take n ++ rest)⟩ fun M2 => K (.sl M.length 0 n cap') M2
   | _ => False
  | _ => False
 | _, _ => False
def toWords (P : Program) : List Nat → Bool
 | t :: _ => isWords P t
 | [] => false
def isWords32 (P : Program) (t : Nat) : Bool := match P.underlying t with
 | some (.slice e) => isInt P .u32 e && Nat.beq (sizeT P e) 1
 | _ => false
def words32 (M : Mm) : SV → Option (Bool × List (BitVec 32))
 | .sl k off len _ => match M[k]? with
  | some ⟨_, .a32 l⟩ => some (Nat.ble (off + len) l.length, (l.drop off).take len)
  | _ => none
 | _ => none
def vcopyW (M : Mm) (k off len : Nat) (x : SV) (K : SV → Mm → Prop) : Prop := match words32 M x, M[k]? with
 | some (c, m), some ⟨true, .a32 l⟩ => vsome (c && Nat.ble (off + len) l.length) <|
   setK M k ⟨true, .a32 (l.take off ++ m.take len ++ l.drop (off + min m.length len))⟩ fun M2 => K (.i ((min m.length len : Nat) : Int)) M2
 | _, _ => False
def isWords64 (P : Program) (t : Nat) : Bool := match P.underlying t with
 | some (.slice e) => isInt P .u64 e && Nat.beq (sizeT P e) 1
 | _ => false
def words64 (M : Mm) : SV → Option (Bool × List (BitVec 64))
 | .sl k off len _ => match M[k]? with
  | some ⟨_, .a64 l⟩ => some (Nat.ble (off + len) l.length, (l.drop off).take len)
  | _ => none
 | _ => none
def vcopyX (M : Mm) (k off len : Nat) (x : SV) (K : SV → Mm → Prop) : Prop := match words64 M x, M[k]? with
 | some (c, m), some ⟨true, .a64 l⟩ => vsome (c && Nat.ble (off + len) l.length) <|
   setK M k ⟨true, .a64 (l.take off ++ m.take len ++ l.drop (off + min m.length len))⟩ fun M2 => K (.i ((min m.length len : Nat) : Int)) M2
 | _, _ => False
def isSrc : SV → Bool
 | .s _ => true
 | .sl _ _ _ _ => true
 | .v (.slice _ _ _) => true
 | _ => false
def vcopy (P : Program) (tys : List Nat) (M : Mm) (xs : List SV) (K : SV → Mm → Prop) : Prop :=
 match tys, xs with
 | [t, tx], [.v (.slice none 0 0), x] => vsome (isBytes P t && isSrc x) (K (.i 0) M)
 | [t, tx], [.sl k off len cap, x] => bif isWords32 P t then vcopyW M k off len x K else bif isWords64 P t then vcopyX M k off len x K else vsome (isBytes P t) <| match addedBytes P [] M x, M[k]? with
  | some (c, m), some ⟨true, .a8 l⟩ => vsome (c && decide (off + len ≤ l.length)) <|
    setK M k ⟨true, .a8 (l.take off ++ m.take len ++ l.drop (off + min m.length len))⟩ fun M2 => K (.i ((min m.length len : Nat) : Int)) M2
  | _, _ => False
 | _, _ => False
def vbytes (P : Program) (M : Mm) (x : SV) (K : SV → Mm → Prop) : Prop :=
 match x with
 | .s m => ∀ (cap : Nat) (x : List (BitVec 8)), m.length ≤ cap → x = m ++ List.replicate (cap - m.length) 0 → snocK M ⟨true, .a8 x⟩ fun M2 => K (.sl M.length 0 m.length cap) M2
 | _ => False
def noAny : List SV → Bool
 | [] => true
 | x :: l => !isAny x && noAny l
def globOk (n : Nat) : List Operand → Bool
 | [] => true
 | .global g :: l => Nat.blt g n && globOk n l
 | _ :: l => globOk n l
def isMove : Op → Bool
 | .move _ | .assign _ | .pick _ _ _ => true
 | _ => false
def vq (n : Nat) (M : Mm) (q : QR) (K : SV → Mm → Prop) : Prop :=
 match q with
 | .no => False
 | .ok c r => vsome ((isAny r || r.wf n) && c) (forceK r fun r' => K r' M)
 | .new c r x => vsome ((r.wf (n + 1) && x.wf n && x.here) && c) (snocK M ⟨true, x⟩ fun M2 => forceK r fun r' => K r' M2)
def isStrToBytes (P : Program) (src dst : Nat) : Bool := match P.underlying src with
 | some .string => isBytes P dst
 | _ => false
def vstep (P : Program) (E : Env) (o : Oper) (fr : List SV) (M : Mm) (K : SV → Mm → Prop) : Prop :=
 evsK fr o.op.operands.toList fun xs =>
 vsome (globOk E.G.length o.op.operands.toList && (isMove o.op || noAny xs)) <|
 match o.op with
 | .store t _ _ => match xs with
  | [.ptr k off, x] => match M[k]? with
   | some ⟨true, c⟩ => match qstore P t off c x with
    | some (b, c') => vsome ((Nat.blt 0 (sizeT P t) && c'.wf M.length) && b) (setK M k ⟨true, c'⟩ fun M2 => K .any M2)
    | none => False
   | _ => False
  | _ => False
 | .convert src dst _ => bif isStrToBytes P src dst then
   (match xs with
   | [x] => vbytes P M x K
   | _ => False)
  else bif Nat.beq src dst && isBytes P dst then
   (match xs with
   | [.sl k off len cap] => match M[k]? with
    | some ⟨true, .a8 l⟩ => vsome (Nat.blt 0 l.length) (K (.sl k off len cap) M)
    | _ => False
   | _ => False)
  else mapK (tgt M) xs fun cs => vq M.length M (qcore P E.T M.length o.op xs cs) K
 | .call c => match c.callee with
  | .builtin .append => bif typed E.T then vappendT P c.argTypes.toList M xs K else bif toWords P c.argTypes.toList then vappendW P c.argTypes.toList M xs K else vappend P c.argTypes.toList M xs K
  | .builtin .copy => vcopy P c.argTypes.toList M xs K
  | .builtin .unsafeString => vustr P c.argTypes.toList M xs K
  | .value _ => mapK (tgt M) xs fun cs => match qcore P E.T M.length o.op xs cs with
   | .no => match xs with
    | .fn f caps :: args => E.C f (args ++ caps) M K
    | _ => False
   | q => vq M.length M q K
  | _ => mapK (tgt M) xs fun cs => vq M.length M (qcore P E.T M.length o.op xs cs) K
 | _ => mapK (tgt M) xs fun cs => vq M.length M (qcore P E.T M.length o.op xs cs) K
def gval (ops : List Oper) (fr : List SV) (j : Nat) : Option Bool := match ops[j]? with
 | some o => match o.dst with
  | some d => match fr[d]? with
   | some (.b t) => some t
   | _ => none
  | none => none
 | none => none
def gskip (ops : List Oper) (fr : List SV) (j : Nat) : Bool := match ops[j]? with
 | some o => match o.dst with
  | some d => match fr[d]? with
   | some (.v (.tuple _)) => true
   | _ => false
  | none => false
 | none => false
def splitK (g : Bool) (r : SV) (K : SV → Prop) : Prop := match g, r with
 | true, .b t => bif t then K (.b true) else K (.b false)
 | _, r => K r
theorem splitK_eq (g : Bool) (r : SV) (K : SV → Prop) : splitK g r K = K r := by
 unfold splitK
 split
 ·rename_i t; cases t <;> rfl
 ·rfl
def gdst (ops : List Oper) (d : Option Tmp) : Bool := ops.any fun o => match o.guard with
 | some (j, _) => match ops[j]? with
  | some x => match x.dst, d with
   | some a, some b => Nat.beq a b
   | _, _ => false
  | none => false
 | none => false
def putSK (T : PT) (ops : List Oper) (fr : List SV) (d : Option Tmp) (r : SV) (K : List SV → Prop) : Prop := bif splitOn T then splitK (gdst ops d) r fun r' => putK fr d r' K else putK fr d r K
theorem putSK_eq (T : PT) (ops : List Oper) (fr : List SV) (d : Option Tmp) (r : SV) (K : List SV → Prop) : putSK T ops fr d r K = putK fr d r K := by
 unfold putSK
 cases splitOn T
 ·rfl
 ·show splitK (gdst ops d) r (fun r' => putK fr d r' K) = _
  rw [splitK_eq]
def vlist (P : Program) (E : Env) (ops : List Oper) : List Oper → List SV → Mm → (List SV → Mm → Prop) → Prop
 | [], fr, M, K => K fr M
 | o :: rest, fr, M, K => match o.guard with
  | none => vstep P E o fr M fun r M2 => putSK E.T ops fr o.dst r fun fr2 => vlist P E ops rest fr2 M2 K
  | some (j, want) => match gval ops fr j with
   | some t => bif t == want then (vstep P E o fr M fun r M2 => putSK E.T ops fr o.dst r fun fr2 => vlist P E ops rest fr2 M2 K) else (putK fr o.dst (.v undef) fun fr2 => vlist P E ops rest fr2 M K)
   | none => bif gskip ops fr j then (putK fr o.dst (.v undef) fun fr2 => vlist P E ops rest fr2 M K) else False
abbrev Ko := Exit → List SV → Mm → Prop
def vcode (P : Program) (E : Env) (W : Code → List SV → Mm → Ko → Prop) (D : List Oper → List SV → Mm → (List SV → Mm → Prop) → Prop) : Code → List SV → Mm → Ko → Prop
 | .skip, fr, M, K => K .normal fr M
 | .region _ ops d, fr, M, K => match d with
  | true => D ops.toList fr M (fun fr2 M2 => K .normal fr2 M2)
  | false => vlist P E ops.toList ops.toList fr M (fun fr2 M2 => K .normal fr2 M2)
 | .seq a b, fr, M, K => vcode P E W D a fr M fun e fr2 M2 => match e with
  | .normal => vcode P E W D b fr2 M2 K
  | e => K e fr2 M2
 | .cond c a b, fr, M, K => match ev fr c with
  | .b t => bif t then vcode P E W D a fr M K else vcode P E W D b fr M K
  | _ => False
 | .block id (.loop c), fr, M, K => W (.block id (.loop c)) fr M K
 | .block id c, fr, M, K => vcode P E W D c fr M fun e fr2 M2 => match e with
  | .exit j => bif Nat.beq j id then K .normal fr2 M2 else K (.exit j) fr2 M2
  | e => K e fr2 M2
 | .exit id, fr, M, K => K (.exit id) fr M
 | .ret, fr, M, K => K .ret fr M
 | _, _, _, _ => False
end Go.Proofs.YtdfghknonbmadaaGreatDoor
namespace Go.Proofs.YtdfghknonbmadaaGreatDoor
open Go.RowKit
set_option linter.unusedVariables false
set_option linter.unusedSimpArgs false
def Sane (w : World) (b : Nat) : Prop := ∀ (c : Array Value) (e lo hi : Nat), w.heap[b]? = some (.cells c e (lo, hi)) → lo ≤ hi
structure Holds (w : World) (b : Nat) (rw : Bool) (cs : List Value) (sh : Option (Nat × Nat) := none) : Prop where
 lt : b < w.heap.size
 cell : ∀ (j : Nat) (v : Value), cs[j]? = some v → w.cell? ⟨b, j, none⟩ = some v
 free : rw = true → ∀ j, j < cs.length → w.frozen? ⟨b, j, none⟩ = false
 shp : ∀ s, sh = some s → w.shape? b = some s
 iv : rw = true → Sane w b
theorem shape_of_block {w w' : World} {b : Nat} (e : w'.heap[b]? = w.heap[b]?) : w'.shape? b = w.shape? b := by unfold World.shape?; rw [e]
structure Fp (S : Nat → Prop) (w w' : World) : Prop where
 os : w'.os = w.os
 tape : w'.tape = w.tape
 output : w'.output = w.output
 size : w.heap.size ≤ w'.heap.size
 block : ∀ k, k < w.heap.size → ¬ S k → w'.heap[k]? = w.heap[k]?
abbrev Fp0 (w w' : World) : Prop := Fp (fun _ => False) w w'
theorem Fp.refl (S : Nat → Prop) (w : World) : Fp S w w := ⟨rfl, rfl, rfl, Nat.le_refl _, fun _ _ _ => rfl⟩
theorem Fp.mono {S T : Nat → Prop} {w w' : World} (h : Fp S w w') (hS : ∀ k, k < w.heap.size → S k → T k) : Fp T w w' :=
 ⟨h.os, h.tape, h.output, h.size, fun k hk hT => h.block k hk fun hs => hT (hS k hk hs)⟩
theorem Fp.trans {S T : Nat → Prop} {a b c : World} (h : Fp S a b) (k : Fp T b c) (hT : ∀ t, T t → S t ∨ a.heap.size ≤ t) : Fp S a c :=
 ⟨k.os.trans h.os, k.tape.trans h.tape, k.output.trans h.output, Nat.le_trans h.size k.size,
  fun i hi hS => (k.block i (Nat.lt_of_lt_of_le hi h.size) (fun ht => by rcases hT i ht with h1 | h1; exact hS h1; omega)).trans (h.block i hi hS)⟩
theorem Fp.trans0 {S : Nat → Prop} {a b c : World} (h : Fp S a b) (k : Fp0 b c) : Fp S a c := h.trans k (fun t ht => ht.elim)
theorem Fp.alloc (w : World) (o : Obj) : Fp0 w (w.alloc o) := ⟨rfl, rfl, rfl, by simp, fun k hk _ => Below.heap_alloc _ _ _ hk⟩
theorem Fp.drew (w : World) : Fp0 w w.drew := ⟨rfl, rfl, rfl, Nat.le_refl _, fun _ _ _ => rfl⟩
theorem Fp.setCells (b : Nat) : ∀ (vs : List Value) (o : Nat) (w : World), Fp (fun k => k = b) w (w.setCells b o vs)
 | [], o, w => Fp.refl _ w
 | v :: r, o, w => (show Fp (fun k => k = b) w (w.setCell ⟨b, o, none⟩ v) from ⟨rfl, rfl, rfl, by simp, fun k _ hk => heap_setCell_other _ _ _ _ hk⟩).trans (Fp.setCells b r (o + 1) _) fun t ht => .inl ht
theorem Holds.same {w w' : World} {b : Nat} {rw : Bool} {cs : List Value} {sh : Option (Nat × Nat)} (h : Holds w b rw cs sh) (e : w'.heap[b]? = w.heap[b]?) (hs : w.heap.size ≤ w'.heap.size) : Holds w' b rw cs sh :=
 ⟨Nat.lt_of_lt_of_le h.lt hs, fun j v hv => (World.cell?_of_block e).trans (h.cell j v hv), fun hr j hj => (World.frozen?_of_block e).trans (h.free hr j hj), fun s hs => (shape_of_block e).trans (h.shp s hs), fun hr c t lo hi hh => h.iv hr c t lo hi (by rw [← e]; exact hh)⟩
theorem Holds.range {w : World} {b : Nat} {rw : Bool} {cs : List Value} {sh : Option (Nat × Nat)} (h : Holds w b rw cs sh) : w.rangeAt b 0 cs := fun j v hv => by rw [Nat.zero_add]; exact h.cell j v hv
theorem wfs_all {n : Nat} {l : List SV} : SV.wf.wfs n l = true ↔ ∀ x ∈ l, x.wf n = true := by
 induction l with
 | nil => simp [SV.wf.wfs]
 | cons x l ih => simp [SV.wf.wfs, ih]
theorem blt_lt {a b : Nat} (h : Nat.blt a b = true) : a < b := by simpa [Nat.blt_eq] using h
mutual
theorem val_agree {n : Nat} {β β' : Nat → Nat} (hb : ∀ k, k < n → β' k = β k) : ∀ (x : SV), x.wf n = true → val β' x = val β x
 | .any, h | .v _, h | .i _, h | .b _, h | .w64 _, h | .w32 _, h | .w16 _, h | .w8 _, h | .s _, h | .a64 _, h | .a32 _, h | .a8 _, h => by simp [val]
 | .ptr k off, h => by simp only [val]; rw [hb k (blt_lt h)]
 | .sl k off len cap, h => by simp only [val]; rw [hb k (blt_lt h)]
 | .agg l, h => by simp only [val]; rw [vals_agree hb l h]
 | .tup l, h => by simp only [val]; rw [vals_agree hb l h]
 | .fn f l, h => by simp only [val]; rw [vals_agree hb l h]
theorem vals_agree {n : Nat} {β β' : Nat → Nat} (hb : ∀ k, k < n → β' k = β k) : ∀ (l : List SV), SV.wf.wfs n l = true → vals β' l = vals β l
 | [], _ => rfl
 | x :: l, h => by
  simp only [SV.wf.wfs, Bool.and_eq_true] at h
  simp only [vals]
  rw [val_agree hb x h.1, vals_agree hb l h.2]
end
theorem cells_agree {n : Nat} {β β' : Nat → Nat} (hb : ∀ k, k < n → β' k = β k) (c : Cont) (h : c.wf n = true) : c.cells β' = c.cells β := by
 cases c <;> first | rfl | exact vals_agree hb _ h
mutual
theorem wf_mono {n m : Nat} (hm : n ≤ m) : ∀ (x : SV), x.wf n = true → x.wf m = true
 | .any, h => h
 | .v _, h | .i _, h | .b _, h | .w64 _, h | .w32 _, h | .w16 _, h | .w8 _, h | .s _, h | .a64 _, h | .a32 _, h | .a8 _, h => rfl
 | .ptr k off, h | .sl k off _ _, h => by have := blt_lt h; simp [SV.wf, Nat.blt_eq]; omega
 | .agg l, h | .tup l, h | .fn _ l, h => wfs_mono hm l h
theorem wfs_mono {n m : Nat} (hm : n ≤ m) : ∀ (l : List SV), SV.wf.wfs n l = true → SV.wf.wfs m l = true
 | [], _ => rfl
 | x :: l, h => by
  simp only [SV.wf.wfs, Bool.and_eq_true] at h ⊢
  exact ⟨wf_mono hm x h.1, wfs_mono hm l h.2⟩
end
theorem cwf_mono {n m : Nat} (hm : n ≤ m) (c : Cont) (h : c.wf n = true) : c.wf m = true := by
 cases c <;> first | rfl | exact wfs_mono hm _ h
theorem lt_of_get {α : Type} {l : List α} {k : Nat} {x : α} (h : l[k]? = some x) : k < l.length := (List.getElem?_eq_some_iff.1 h).1
def rwset (β : Nat → Nat) (M : Mm) (b : Nat) : Prop := ∃ (k : Nat) (e : Ent), M[k]? = some e ∧ e.rw = true ∧ β k = b
structure Rel (nG : Mm) (β : Nat → Nat) (M : Mm) (w : World) : Prop where
 all : ∀ (k : Nat) (e : Ent), M[k]? = some e → e.c.here = true → Holds w (β k) e.rw (e.c.cells β) e.c.shp
 dis : ∀ (i j : Nat) (x y : Ent), M[i]? = some x → M[j]? = some y → i ≠ j → x.rw = true → x.c.here = true → y.c.here = true → β i ≠ β j
 glob : ∀ g, g < nG.length → β g = g
 gl : nG.length ≤ M.length
 pre : ∀ k, k < nG.length → M[k]? = nG[k]?
 ro : ∀ (k : Nat) (e : Ent), nG[k]? = some e → e.rw = false ∧ e.c.wf nG.length = true
 wf : ∀ (k : Nat) (e : Ent), M[k]? = some e → e.c.wf M.length = true
structure Ext (β : Nat → Nat) (M : Mm) (w : World) (β' : Nat → Nat) (M' : Mm) (w' : World) : Prop where
 agree : ∀ k, k < M.length → β' k = β k
 len : M.length ≤ M'.length
 rws : ∀ b, rwset β' M' b → rwset β M b ∨ w.heap.size ≤ b
 fp : Fp (rwset β M) w w'
 keep : ∀ (k : Nat) (e : Ent), M[k]? = some e → ∃ c, M'[k]? = some ⟨e.rw, c⟩ ∧ (e.rw = false → c = e.c)
 new : ∀ (k : Nat) (e : Ent), M.length ≤ k → M'[k]? = some e → e.rw = true
theorem Ext.refl (β : Nat → Nat) (M : Mm) (w : World) : Ext β M w β M w := ⟨fun _ _ => rfl, Nat.le_refl _, fun b h => .inl h, Fp.refl _ w, fun k e he => ⟨e.c, he, fun _ => rfl⟩, fun k e hk he => absurd (lt_of_get he) (by omega)⟩
theorem Ext.trans {β β1 β2 : Nat → Nat} {M M1 M2 : Mm} {w w1 w2 : World} (h : Ext β M w β1 M1 w1) (k : Ext β1 M1 w1 β2 M2 w2) : Ext β M w β2 M2 w2 := by
 refine ⟨fun i hi => (k.agree i (Nat.lt_of_lt_of_le hi h.len)).trans (h.agree i hi), Nat.le_trans h.len k.len, fun b hb => ?_, h.fp.trans k.fp fun t ht => ?_, fun i e he => ?_, fun i e hi he => ?_⟩
 ·rcases k.rws b hb with h1 | h1
  ·exact h.rws b h1
  ·exact .inr (Nat.le_trans h.fp.size h1)
 ·exact h.rws t ht
 ·obtain ⟨c, h1, h2⟩ := h.keep i e he
  obtain ⟨d, h3, h4⟩ := k.keep i _ h1
  exact ⟨d, h3, fun hr => (h4 hr).trans (h2 hr)⟩
 ·rcases Nat.lt_or_ge i M1.length with q | q
  ·have h1 := List.getElem?_eq_getElem q
   obtain ⟨d, h3, -⟩ := k.keep i _ h1
   rw [h3] at he
   obtain rfl := Option.some.inj he
   exact (h.new i _ hi h1 : M1[i].rw = true)
  ·exact k.new i e q he
section
variable {nG : Mm} {β β' : Nat → Nat} {M : Mm} {w w' : World}
theorem Rel.step (h : Rel nG β M w) (hF : Fp0 w w') : Rel nG β M w' :=
 ⟨fun k e he hc => (h.all k e he hc).same (hF.block _ (h.all k e he hc).lt id) hF.size, h.dis, h.glob, h.gl, h.pre, h.ro, h.wf⟩
theorem Ext.step (h : Fp0 w w') : Ext β M w β M w' := ⟨fun _ _ => rfl, Nat.le_refl _, fun b hb => .inl hb, h.mono fun _ _ h => h.elim, fun k e he => ⟨e.c, he, fun _ => rfl⟩, fun k e hk he => absurd (lt_of_get he) (by omega)⟩
def upd1 (β : Nat → Nat) (n b : Nat) : Nat → Nat := fun k => if k = n then b else β k
theorem upd1_agree (β : Nat → Nat) (n b : Nat) : ∀ k, k < n → upd1 β n b k = β k := fun k hk => by unfold upd1; rw [if_neg (by omega)]
theorem Rel.more (h : Rel nG β M w) (hF : Fp (fun _ => False) w w') {b : Nat} (hb : w.heap.size ≤ b) {x : Cont} (hx : x.wf M.length = true) (hh : Holds w' b true (x.cells β) x.shp) :
  Rel nG (upd1 β M.length b) (M ++ [⟨true, x⟩]) w' ∧ Ext β M w (upd1 β M.length b) (M ++ [⟨true, x⟩]) w' := by
 have ha := upd1_agree β M.length b
 have h1 := h.step hF
 have get : ∀ (k : Nat) (e : Ent), (M ++ [⟨true, x⟩])[k]? = some e → (k < M.length ∧ M[k]? = some e) ∨ (k = M.length ∧ e = ⟨true, x⟩) := fun k e he => by
  rcases Nat.lt_or_ge k M.length with q | q
  ·rw [List.getElem?_append_left q] at he; exact .inl ⟨q, he⟩
  ·rw [List.getElem?_append_right q] at he
   have : k - M.length = 0 := by
    rcases Nat.eq_zero_or_pos (k - M.length) with q2 | q2
    ·exact q2
    ·rw [List.getElem?_eq_none (by simp; omega)] at he; cases he
   rw [this] at he
   exact .inr ⟨by omega, (Option.some.inj he).symm⟩
 have eb : upd1 β M.length b M.length = b := by unfold upd1; rw [if_pos rfl]
 refine ⟨⟨fun k e he hc => ?_, fun i j p q hp hq hij hr hpc hqc => ?_, fun g hg => ?_, by simp; exact Nat.le_succ_of_le h.gl, fun k hk => by rw [List.getElem?_append_left (Nat.lt_of_lt_of_le hk h.gl)]; exact h.pre k hk, h.ro, fun k e he => ?_⟩, ⟨ha, by simp, fun c hc => ?_, hF.mono fun _ _ h => h.elim, fun k e he => ⟨e.c, by rw [List.getElem?_append_left (lt_of_get he)]; exact he, fun _ => rfl⟩, fun k e hk he => ?_⟩⟩
 ·rcases get k e he with ⟨q, hM⟩ | ⟨rfl, rfl⟩
  ·rw [ha k q, cells_agree ha _ (h.wf k e hM)]; exact h1.all k e hM hc
  ·rw [eb, cells_agree ha _ hx]; exact hh
 ·rcases get i p hp with ⟨qi, hi⟩ | ⟨ei, rfl⟩
  ·rcases get j q hq with ⟨qj, hj⟩ | ⟨ej, rfl⟩
   ·rw [ha i qi, ha j qj]; exact h.dis i j p q hi hj hij hr hpc hqc
   ·rw [ha i qi, ej, eb]; have := (h.all i p hi hpc).lt; omega
  ·rcases get j q hq with ⟨qj, hj⟩ | ⟨ej, rfl⟩
   ·rw [ha j qj, ei, eb]; have := (h.all j q hj hqc).lt; omega
   ·omega
 ·rw [ha g (Nat.lt_of_lt_of_le hg h.gl)]; exact h.glob g hg
 ·rcases get k e he with ⟨q, hM⟩ | ⟨rfl, rfl⟩
  ·exact cwf_mono (by simp) _ (h.wf k e hM)
  ·exact cwf_mono (by simp) _ hx
 ·obtain ⟨k, e, he, hr, rfl⟩ := hc
  rcases get k e he with ⟨q, hM⟩ | ⟨rfl, rfl⟩
  ·exact .inl ⟨k, e, hM, hr, (ha k q).symm⟩
  ·rw [eb]; exact .inr hb
 ·rcases get k e he with ⟨q, hM⟩ | ⟨rfl, rfl⟩
  ·omega
  ·rfl
theorem Rel.set (h : Rel nG β M w) {k : Nat} {c c' : Cont} (hk : M[k]? = some ⟨true, c⟩) (hc : c.here = true) (hF : Fp (fun i => i = β k) w w') (hw : c'.wf M.length = true) (hh : c'.here = true → Holds w' (β k) true (c'.cells β) c'.shp) :
  Rel nG β (M.set k ⟨true, c'⟩) w' ∧ Ext β M w β (M.set k ⟨true, c'⟩) w' := by
 have hl := lt_of_get hk
 have get : ∀ (i : Nat) (e : Ent), (M.set k ⟨true, c'⟩)[i]? = some e → (i ≠ k ∧ M[i]? = some e) ∨ (i = k ∧ e = ⟨true, c'⟩) := fun i e he => by
  by_cases q : k = i
  ·subst q; rw [List.getElem?_set_self hl] at he; exact .inr ⟨rfl, (Option.some.inj he).symm⟩
  ·rw [List.getElem?_set_ne q] at he; exact .inl ⟨Ne.symm q, he⟩
 refine ⟨⟨fun i e he hc' => ?_, fun i j p q hp hq hij hr hpc hqc => ?_, h.glob, by simpa using h.gl, fun i hi => ?_, h.ro, fun i e he => ?_⟩, ⟨fun _ _ => rfl, by simp, fun b hb => ?_, hF.mono fun i hi hs => ⟨k, _, hk, rfl, hs.symm⟩, fun i e he => ?_, fun i e hi he => absurd (lt_of_get he) (by simp; omega)⟩⟩
 ·rcases get i e he with ⟨q, hM⟩ | ⟨rfl, rfl⟩
  ·have h1 := h.all i e hM hc'
   exact h1.same (hF.block _ h1.lt fun e1 => h.dis k i _ _ hk hM (Ne.symm q) rfl hc hc' e1.symm) hF.size
  ·exact hh hc'
 ·rcases get i p hp with ⟨qi, hi⟩ | ⟨ei, rfl⟩
  ·rcases get j q hq with ⟨qj, hj⟩ | ⟨ej, rfl⟩
   ·exact h.dis i j p q hi hj hij hr hpc hqc
   ·subst ej; exact h.dis i j p _ hi hk hij hr hpc hc
  ·rcases get j q hq with ⟨qj, hj⟩ | ⟨ej, rfl⟩
   ·subst ei; exact h.dis i j _ q hk hj hij rfl hc hqc
   ·omega
 ·have hne : k ≠ i := fun e => by
   subst e
   have := (h.ro k _ ((h.pre k hi).symm.trans hk)).1
   cases this
  rw [List.getElem?_set_ne hne]; exact h.pre i hi
 ·rcases get i e he with ⟨q, hM⟩ | ⟨rfl, rfl⟩
  ·simpa using h.wf i e hM
  ·simpa using hw
 ·obtain ⟨i, e, he, hr, rfl⟩ := hb
  rcases get i e he with ⟨q, hM⟩ | ⟨rfl, rfl⟩
  ·exact .inl ⟨i, e, hM, hr, rfl⟩
  ·exact .inl ⟨i, _, hk, rfl, rfl⟩
 ·by_cases q : k = i
  ·subst q
   rw [hk] at he
   obtain rfl := Option.some.inj he
   exact ⟨c', List.getElem?_set_self hl, fun h => nomatch h⟩
  ·exact ⟨e.c, by rw [List.getElem?_set_ne q]; exact he, fun _ => rfl⟩
end
structure RelF (β : Nat → Nat) (n : Nat) (fr : List SV) (a : Act) : Prop where
 size : a.tmps.size = fr.length
 at' : ∀ (k : Nat) (x : SV), fr[k]? = some x → x = .any ∨ (x.wf n = true ∧ a.tmps.getD k undef = val β x)
 defers : a.defers = []
theorem RelF.mono {β β' : Nat → Nat} {n n' : Nat} {fr : List SV} {a : Act} (h : RelF β n fr a) (hn : n ≤ n') (hb : ∀ k, k < n → β' k = β k) : RelF β' n' fr a :=
 ⟨h.size, fun k x hx => (h.at' k x hx).imp id fun ⟨h1, h2⟩ => ⟨wf_mono hn x h1, by rw [val_agree hb x h1]; exact h2⟩, h.defers⟩
theorem RelF.put {β : Nat → Nat} {n : Nat} {fr : List SV} {a : Act} (h : RelF β n fr a) (d : Nat) {x : SV} {v : Value} (hx : x = .any ∨ (x.wf n = true ∧ v = val β x)) : RelF β n (fr.set d x) (a.put (some d) v) := by
 refine ⟨by simp [Act.put, h.size], fun k y hy => ?_, h.defers⟩
 have e : (a.put (some d) v).tmps = a.tmps.setIfInBounds d v := rfl
 rw [e, Array.getD_eq_getD_getElem?]
 by_cases q : d = k
 ·subst q
  have hl : d < fr.length := by simpa using lt_of_get hy
  rw [List.getElem?_set_self hl] at hy
  obtain rfl := Option.some.inj hy
  rw [Array.getElem?_setIfInBounds_self_of_lt (by rw [h.size]; exact hl)]
  exact hx
 ·rw [List.getElem?_set_ne q] at hy
  rw [Array.getElem?_setIfInBounds_ne q, ← Array.getD_eq_getD_getElem?]
  exact h.at' k y hy
end Go.Proofs.YtdfghknonbmadaaGreatDoor
