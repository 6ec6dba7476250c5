/-
  A reckoner of conditions: a walk over code. No statement is proved here.
-/
import Derived.Test.YtkjfecdpakhggaaVcB
namespace Go.Proofs.Ytkjfecdpakhggaa
open Go.RowKit
set_option linter.unusedVariables false
set_option linter.unusedSimpArgs false

/-- A slot is set; the row is written out anew. -/
def setK {α : Type} : List α → Nat → α → (List α → Prop) → Prop
  | [], _, _, K => K []
  | _ :: l, 0, x, K => K (x :: l)
  | y :: l, d + 1, x, K => setK l d x fun m => K (y :: m)
def snocK {α : Type} : List α → α → (List α → Prop) → Prop
  | [], x, K => K [x]
  | y :: l, x, K => snocK l x fun m => K (y :: m)
def force1K (x : SV) (K : SV → Prop) : Prop :=
  match x with
  | .any => K .any
  | .v y => K (.v y)
  | .i z => K (.i z)
  | .b t => K (.b t)
  | .w64 a => K (.w64 a)
  | .w32 a => K (.w32 a)
  | .w16 a => K (.w16 a)
  | .w8 a => K (.w8 a)
  | .s l => K (.s l)
  | .ptr k off => K (.ptr k off)
  | .sl k off len cap => K (.sl k off len cap)
  | .a64 l => K (.a64 l)
  | .a32 l => K (.a32 l)
  | .a8 l => K (.a8 l)
  | .agg l => K (.agg l)
  | .tup l => K (.tup l)
  | .fn f l => K (.fn f l)
  | .pe k base idx sz j => K (.pe k base idx sz j)
  | .rs k base eo sz len cap => K (.rs k base eo sz len cap)
  | .ns b k sz len cap => K (.ns b k sz len cap)
  | .mp k => K (.mp k)
  | .fm f l => K (.fm f l)
def aggK : List SV → (List SV → Prop) → Prop
  | [], K => K []
  | x :: l, K => force1K x fun y => aggK l fun m => K (y :: m)
/-- A value, told by its shape. -/
def forceK (x : SV) (K : SV → Prop) : Prop :=
  match x with
  | .any => K .any
  | .v y => K (.v y)
  | .i z => K (.i z)
  | .b t => K (.b t)
  | .w64 a => K (.w64 a)
  | .w32 a => K (.w32 a)
  | .w16 a => K (.w16 a)
  | .w8 a => K (.w8 a)
  | .s l => K (.s l)
  | .ptr k off => K (.ptr k off)
  | .sl k off len cap => K (.sl k off len cap)
  | .a64 l => K (.a64 l)
  | .a32 l => K (.a32 l)
  | .a8 l => K (.a8 l)
  | .agg l => aggK l fun m => K (.agg m)
  | .tup l => K (.tup l)
  | .fn f l => K (.fn f l)
  | .pe k base idx sz j => K (.pe k base idx sz j)
  | .rs k base eo sz len cap => K (.rs k base eo sz len cap)
  | .ns b k sz len cap => K (.ns b k sz len cap)
  | .mp k => K (.mp k)
  | .fm f l => K (.fm f l)
def evsK (fr : List SV) : List Operand → (List SV → Prop) → Prop
  | [], K => K []
  | o :: l, K => forceK (ev fr o) fun x => evsK fr l fun m => K (x :: m)
def mapK {α β : Type} (f : α → β) : List α → (List β → Prop) → Prop
  | [], K => K []
  | x :: l, K => mapK f l fun m => K (f x :: m)
def putK (fr : List SV) (d : Option Tmp) (x : SV) (K : List SV → Prop) : Prop :=
  match d with
  | none => K fr
  | some k => setK fr k x K
def qstore (P : Program) (t off : Nat) (c : Cont) (x : SV) : Option (Bool × Cont) :=
  match c, x with
  | .a64 l, .a64 m => some (isRowT P t && Nat.beq off 0 && Nat.beq m.length l.length && Nat.beq m.length (sizeT P t), .a64 m)
  | .a32 l, .a32 m => some (isRowT P t && Nat.beq off 0 && Nat.beq m.length l.length && Nat.beq m.length (sizeT P t), .a32 m)
  | .a8 l, .a8 m => some (isRowT P t && Nat.beq off 0 && Nat.beq m.length l.length && Nat.beq m.length (sizeT P t), .a8 m)
  | .a64 l, .w64 a => some (Nat.beq (sizeT P t) 1 && Nat.blt off l.length, .a64 (l.set off a))
  | .a32 l, .w32 a => some (Nat.beq (sizeT P t) 1 && Nat.blt off l.length, .a32 (l.set off a))
  | .a8 l, .w8 a => some (Nat.beq (sizeT P t) 1 && Nat.blt off l.length, .a8 (l.set off a))
  | .ints l, .i a => some (Nat.beq (sizeT P t) 1 && Nat.blt off l.length, .ints (l.set off a))
  | .row l, .agg m => some (isRowT P t && Nat.beq m.length (sizeT P t) && Nat.beq off 0 && Nat.beq m.length l.length && m.all (fun y => oneCell y || nilV y), .row m)
  | .row l, .a32 m => some (isRowT P t && Nat.beq m.length (sizeT P t) && Nat.ble (off + m.length) l.length, .row (l.take off ++ m.map .w32 ++ l.drop (off + m.length)))
  | .row l, x => bif oneCell x || nilV x then some (Nat.beq (sizeT P t) 1 && Nat.blt off l.length, .row (l.set off x)) else none
  | .tr u l, x => bif oneCell x || nilV x then some (Nat.beq (sizeT P t) 1 && Nat.blt off l.length, .tr u (l.set off x)) else none
  | _, _ => none
def vstoreR (P : Program) (t k base idx sz j : Nat) (M : Mm) (x : SV) (K : SV → Mm → Prop) : Prop := match M[k]? with
  | some ⟨true, .recs ty fs pre l⟩ => match qstoreR P t base idx sz j fs pre l x with
    | some (b, l') => bif Nat.blt 0 (sizeT P t) && b then setK M k ⟨true, .recs ty fs pre l'⟩ fun M2 => K .any M2 else False
    | none => False
  | some ⟨true, .nrec b0 ty fs l⟩ => match qstoreR P t base idx sz j fs [] l x with
    | some (b, l') => bif Nat.blt 0 (sizeT P t) && (!b0 && b) then setK M k ⟨true, .nrec b0 ty fs l'⟩ fun M2 => K .any M2 else False
    | none => False
  | _ => False
/-- Calls that change what they are handed: what must hold that they lead to K. -/
abbrev CT := Nat → List SV → Mm → (SV → Mm → Prop) → Prop
/-- Operations that the reckoner leaves to others. -/
abbrev HT := Op → List SV → Mm → (SV → Mm → Prop) → Prop
def noH : HT := fun _ _ _ _ => False
structure Env where
  G : Mm
  T : PT
  C : CT
  H : HT := noH
def vsome (b : Bool) (K : Prop) : Prop := bif b then K else False
/-- Bytes that are added to a slice. -/
def addedBytes (P : Program) (tys : List Nat) (M : Mm) : SV → Option (Bool × List (BitVec 8))
  | .s m => some (true, m)
  | .sl k off len _ => match M[k]? with
    | some ⟨_, .a8 l⟩ => some (decide (off + len ≤ l.length), (l.drop off).take len)
    | _ => none
  | .i z => match tys with
    | [_, t] => bif isInt P .i64 t then some (ilt 0 z && ile z 1099511627776, List.replicate z.toNat 0) else none
    | _ => none
  | _ => none
def srcBlock : SV → Option Nat
  | .sl k _ _ _ => some k
  | _ => none
/-- What is added is of its type. -/
def srcOk (P : Program) (t : Nat) (x : SV) : Bool := match x, P.underlying t with
  | .s _, some .string => true
  | .sl _ _ _ _, some (.slice _) => true
  | .i _, some (.int _) => true
  | _, _ => false
def isBytes (P : Program) (t : Nat) : Bool := match P.underlying t with
  | some (.slice e) => isInt P .u8 e && Nat.beq (sizeT P e) 1 && zIs P .u8 e 1
  | _ => false
def vappend (P : Program) (tys : List Nat) (M : Mm) (xs : List SV) (K : SV → Mm → Prop) : Prop :=
  match tys, xs with
  | [t, tx], [d, x] => vsome (isBytes P t && srcOk P tx x) <| match addedBytes P tys M x with
    | none => False
    | some (c, m) => match d with
      | .sl k off len cap => match M[k]? with
        | some ⟨true, .a8 l⟩ => vsome (c && Nat.beq off 0 && decide (len ≤ cap) && decide (l.length = cap) && decide (len + m.length ≤ 1099511627776) && (match srcBlock x with
            | some j => !(Nat.beq j k)
            | none => true)) <|
          ∀ (cap' : Nat) (rest : List (BitVec 8)), len + m.length + rest.length = cap' → setK M k ⟨true, .gone⟩ fun M1 => snocK M1 ⟨true, .a8 (l.take len ++ m ++ rest)⟩ fun M2 => K (.sl M.length 0 (len + m.length) cap') M2
        | _ => False
      | .v (.slice none 0 0) => vsome (c && decide (0 < m.length) && decide (m.length ≤ 1099511627776)) <|
          ∀ (cap' : Nat) (rest : List (BitVec 8)), m.length + rest.length = cap' → snocK M ⟨true, .a8 (m ++ rest)⟩ fun M2 => K (.sl M.length 0 m.length cap') M2
      | _ => False
  | _, _ => False
def notI : SV → Bool
  | .i _ => false
  | _ => true
/-- Bytes that are added to a slice that begins anywhere in its block. -/
def vappendO (P : Program) (tys : List Nat) (M : Mm) (xs : List SV) (K : SV → Mm → Prop) : Prop :=
  match tys, xs with
  | [t, tx], [d, x] => vsome (isBytes P t && srcOk P tx x && notI x) <| match addedBytes P tys M x with
    | none => False
    | some (c, m) => match d with
      | .sl k off len cap => match M[k]? with
        | some ⟨true, .a8 l⟩ => vsome (c && decide (len ≤ cap) && decide (off + cap ≤ l.length) && decide (len + m.length ≤ 1099511627776) && (match srcBlock x with
            | some j => !(Nat.beq j k)
            | none => true)) <|
          ∀ (cap' : Nat) (pre rest : List (BitVec 8)), (len + m.length ≤ cap' ∧ cap' ≤ len + m.length + rest.length) → setK M k ⟨true, .gone⟩ fun M1 => snocK M1 ⟨true, .a8 (pre ++ ((l.drop off).take len ++ m) ++ rest)⟩ fun M2 => K (.sl M.length pre.length (len + m.length) cap') M2
        | _ => False
      | .v (.slice none 0 0) => vappend P tys M xs K
      | _ => False
  | _, _ => False
/-- The type of a slice's elements. -/
def elemT (P : Program) (t : Nat) : Nat := match P.underlying t with
  | some (.slice e) => e
  | _ => 0
/-- A text that is added to a slice of which the type is told. -/
def vappendT (P : Program) (tys : List Nat) (M : Mm) (xs : List SV) (K : SV → Mm → Prop) : Prop :=
  match tys, xs with
  | [t, tx], [d, .s m] => vsome (isBytes P t && srcOk P tx (.s m)) <| match d with
    | .sl k off len cap => match M[k]? with
      | some ⟨true, .t8 u l⟩ => vsome (Nat.beq off 0 && decide (len ≤ cap) && decide (l.length = cap) && decide (len + m.length ≤ 1099511627776) && Nat.beq u (elemT P t)) <|
        ∀ (cap' : Nat) (rest : List (BitVec 8)), len + m.length + rest.length = cap' → setK M k ⟨true, .gone⟩ fun M1 => snocK M1 ⟨true, .t8 u (l.take len ++ m ++ rest)⟩ fun M2 => K (.sl M.length 0 (len + m.length) cap') M2
      | _ => False
    | .v (.slice none 0 0) => vsome (decide (m.length ≤ 1099511627776)) <| bif Nat.beq m.length 0 then K (.v (.slice none 0 0)) M else
        ∀ (cap' : Nat) (rest : List (BitVec 8)), m.length + rest.length = cap' → snocK M ⟨true, .t8 (elemT P t) (m ++ rest)⟩ fun M2 => K (.sl M.length 0 m.length cap') M2
    | _ => False
  | _, _ => False
/-- A text out of bytes that are never written again. -/
def vustr (P : Program) (tys : List Nat) (M : Mm) (xs : List SV) (K : SV → Mm → Prop) : Prop :=
  match tys, xs with
  | [t, _], [.v (.pointer none), .i n] => vsome (n == 0) (K (.s []) M)
  | [t, _], [.ptr k off, .i n] => match M[k]? with
    | some ⟨true, .t8 u l⟩ => bif n == 0 then K (.s []) M else vsome ((match P.underlying t with
        | some (.pointer e) => Nat.beq e u && Nat.beq (P.cellsOf e) 1
        | _ => false) && Nat.beq off 0 && ile 0 n && ile n (l.length : Int) && ile n 1099511627776) <| setK M k ⟨true, .gone⟩ fun M2 => K (.s (l.take n.toNat)) M2
    | _ => False
  | _, _ => False
def isWords (P : Program) (t : Nat) : Bool := match P.underlying t with
  | some (.slice e) => isInt P .u64 e && Nat.beq (sizeT P e) 1 && zIs P .u64 e 8
  | _ => false
/-- Words that are added to a slice. -/
def vappendW (P : Program) (tys : List Nat) (M : Mm) (xs : List SV) (K : SV → Mm → Prop) : Prop :=
  match tys, xs with
  | [t, tx], [d, .sl j o n c] => vsome (isWords P t && srcOk P tx (.sl j o n c)) <| match M[j]? with
    | some ⟨_, .a64 q⟩ => match d with
      | .sl k off len cap => match M[k]? with
        | some ⟨true, .a64 l⟩ => vsome (decide (o + n ≤ q.length) && Nat.beq off 0 && decide (len ≤ cap) && decide (l.length = cap) && decide (len + n ≤ 68719476736) && !(Nat.beq j k)) <|
          ∀ (cap' : Nat) (rest : List (BitVec 64)), len + n + rest.length = cap' → setK M k ⟨true, .gone⟩ fun M1 => snocK M1 ⟨true, .a64 (l.take len ++ (q.drop o).take n ++ rest)⟩ fun M2 => K (.sl M.length 0 (len + n) cap') M2
        | _ => False
      | .v (.slice none 0 0) => vsome (decide (o + n ≤ q.length) && decide (0 < n) && decide (n ≤ 68719476736)) <|
          ∀ (cap' : Nat) (rest : List (BitVec 64)), n + rest.length = cap' → snocK M ⟨true, .a64 ((q.drop o).take n ++ rest)⟩ fun M2 => K (.sl M.length 0 n cap') M2
      | _ => False
    | _ => False
  | _, _ => False
def fkB : Fk → Fk → Bool
  | .u64, .u64 => true
  | .u32, .u32 => true
  | .u16, .u16 => true
  | .u8, .u8 => true
  | .i, .i => true
  | .s, .s => true
  | .b, .b => true
  | _, _ => false
theorem fkB_eq {a c : Fk} (h : fkB a c = true) : a = c := by cases a <;> cases c <;> first | rfl | cases h
def fsB : List Fk → List Fk → Bool
  | [], [] => true
  | a :: l, c :: m => fkB a c && fsB l m
  | _, _ => false
theorem fsB_eq : ∀ {l m : List Fk}, fsB l m = true → l = m
  | [], [], _ => rfl
  | a :: l, c :: m, h => by
    simp only [fsB, Bool.and_eq_true] at h
    rw [fkB_eq h.1, fsB_eq h.2]
  | [], _ :: _, h => by cases h
  | _ :: _, [], h => by cases h
/-- Records, as such of kinds that are the same. -/
def castL {fs gs : List Fk} (h : fs = gs) (l : List (Rc fs)) : List (Rc gs) := Eq.rec (motive := fun g _ => List (Rc g)) l h
theorem castL_self {fs : List Fk} (h : fs = fs) (l : List (Rc fs)) : castL h l = l := rfl
/-- Records that are handed to be added, or laid over others. -/
def recsOf (M : Mm) (fs : List Fk) : SV → Option (Bool × List (Rc fs))
  | .rs k base eo sz len _ => match M[k]? with
    | some ⟨_, .recs _ gs pre l⟩ => match hb : fsB gs fs with
      | true => some (Nat.beq sz fs.length && (Nat.beq base pre.length && Nat.ble (eo + len) l.length), castL (fsB_eq hb) ((l.drop eo).take len))
      | false => none
    | _ => none
  | _ => none
def bytesT (P : Program) (t : Nat) : Nat := ((P.info? t).map (·.bytes)).getD 0
def srcOkR (P : Program) (t : Nat) (x : SV) : Bool := match x, P.underlying t with
  | .rs _ _ _ _ _ _, some (.slice _) => true
  | .v (.slice none 0 0), some (.slice _) => true
  | .i _, some (.int _) => true
  | _, _ => false
def blkR : SV → Option Nat
  | .rs k _ _ _ _ _ => some k
  | _ => none
/-- A row of records that goes on, with m behind its first len. -/
def vgrow (ex : Bool) (e : Nat) (fs : List Fk) (k len cap : Nat) (l m : List (Rc fs)) (M : Mm) (K : SV → Mm → Prop) : Prop := match ex with
  | true => bif Nat.blt cap (len + m.length) then
      (∀ (cap' : Nat) (rest : List (Rc fs)), len + m.length + rest.length = cap' → snocK M ⟨true, .recs (some e) fs [] (l.take len ++ m ++ rest)⟩ fun M2 => K (.rs M.length 0 0 fs.length (len + m.length) cap') M2)
    else setK M k ⟨true, .recs (some e) fs [] (l.take len ++ m ++ l.drop (len + m.length))⟩ fun M2 => K (.rs k 0 0 fs.length (len + m.length) cap) M2
  | false => ∀ (cap' : Nat) (rest : List (Rc fs)), len + m.length + rest.length = cap' → setK M k ⟨true, .gone⟩ fun M1 => snocK M1 ⟨true, .recs (some e) fs [] (l.take len ++ m ++ rest)⟩ fun M2 => K (.rs M.length 0 0 fs.length (len + m.length) cap') M2
def vappendD (ex : Bool) (e : Nat) (fs : List Fk) (M : Mm) (d : SV) (src : Option Nat) (m : List (Rc fs)) (K : SV → Mm → Prop) : Prop := match d with
  | .rs k base eo sz len cap => match M[k]? with
    | some ⟨true, .recs (some e') gs [] l⟩ => match hb : fsB gs fs with
      | true => vsome (Nat.beq e' e && (Nat.beq base 0 && (Nat.beq eo 0 && (Nat.beq sz fs.length && (Nat.ble len cap && (Nat.beq l.length cap && (Nat.ble (len + m.length) 33554432 && (match src with
          | some j => !(Nat.beq j k)
          | none => true)))))))) (vgrow ex e fs k len cap (castL (fsB_eq hb) l) m M K)
      | false => False
    | _ => False
  | .v (.slice none 0 0) => vsome (Nat.ble m.length 33554432) <| bif Nat.beq m.length 0 then K (.v (.slice none 0 0)) M else
      ∀ (cap' : Nat) (rest : List (Rc fs)), m.length + rest.length = cap' → snocK M ⟨true, .recs (some e) fs [] (m ++ rest)⟩ fun M2 => K (.rs M.length 0 0 fs.length m.length cap') M2
  | _ => False
/-- Noughts that are added where there is no room for them. -/
def vappendZ (e : Nat) (fs : List Fk) (M : Mm) (d : SV) (n : Nat) (K : SV → Mm → Prop) : Prop := match d with
  | .rs k base eo sz len cap => match M[k]? with
    | some ⟨_, .recs _ gs [] l⟩ => match hb : fsB gs fs with
      | true => vsome (Nat.beq base 0 && (Nat.beq eo 0 && (Nat.beq sz fs.length && (Nat.ble len l.length && (Nat.ble (len + n) 33554432 && Nat.blt cap (len + n))))))
          (∀ (cap' : Nat) (rest : List (Rc fs)), len + n + rest.length = cap' → snocK M ⟨true, .recs (some e) fs [] ((castL (fsB_eq hb) l).take len ++ List.replicate n (rz fs) ++ rest)⟩ fun M2 => K (.rs M.length 0 0 fs.length (len + n) cap') M2)
      | false => False
    | _ => False
  | _ => False
def vappendR (P : Program) (ex : Bool) (tys : List Nat) (M : Mm) (xs : List SV) (K : SV → Mm → Prop) : Prop :=
  match tys, xs with
  | [t, tx], [d, x] => match P.underlying t with
    | some (.slice e) => match fksOf P e with
      | some fs => vsome (Nat.blt 0 fs.length && (Nat.ble (bytesT P e) 4096 && srcOkR P tx x)) <| match x with
        | .i z => vsome (ilt 0 z) (vappendZ e fs M d z.toNat K)
        | .v (.slice none 0 0) => vappendD ex e fs M d none [] K
        | x => match recsOf M fs x with
          | some (c, m) => vsome c (vappendD ex e fs M d (blkR x) m K)
          | none => False
      | none => False
    | _ => False
  | _, _ => False
def vcopyR (P : Program) (tys : List Nat) (M : Mm) (xs : List SV) (K : SV → Mm → Prop) : Prop :=
  match tys, xs with
  | [t, _], [.rs k base eo sz len _, x] => match P.underlying t with
    | some (.slice e) => match M[k]? with
      | some ⟨true, .recs ty fs pre l⟩ => match recsOf M fs x with
        | some (c, m) => vsome (c && (Nat.beq (sizeT P e) fs.length && (Nat.blt 0 fs.length && (Nat.beq sz fs.length && (Nat.beq base pre.length && Nat.ble (eo + len) l.length)))))
            (setK M k ⟨true, .recs ty fs pre (l.take eo ++ m.take len ++ l.drop (eo + min m.length len))⟩ fun M2 => K (.i ((min m.length len : Nat) : Int)) M2)
        | none => False
      | _ => False
    | _ => False
  | _, _ => False
def vclear (P : Program) (tys : List Nat) (M : Mm) (xs : List SV) (K : SV → Mm → Prop) : Prop :=
  match tys, xs with
  | [t], [.rs k base eo sz len _] => match P.underlying t with
    | some (.slice e) => match M[k]? with
      | some ⟨true, .recs ty fs pre l⟩ => match fksOf P e with
        | some gs => vsome (fsB gs fs && (Nat.blt 0 fs.length && (Nat.beq sz fs.length && (Nat.beq base pre.length && Nat.ble (eo + len) l.length))))
            (setK M k ⟨true, .recs ty fs pre (l.take eo ++ List.replicate len (rz fs) ++ l.drop (eo + len))⟩ fun M2 => K (.tup []) M2)
        | none => False
      | _ => False
    | _ => False
  | _, _ => False
def toRecs (P : Program) : List Nat → Bool
  | t :: _ => recT P t
  | [] => false
def toWords (P : Program) : List Nat → Bool
  | t :: _ => isWords P t
  | [] => false
def isWords32 (P : Program) (t : Nat) : Bool := match P.underlying t with
  | some (.slice e) => isInt P .u32 e && Nat.beq (sizeT P e) 1
  | _ => false
def words32 (M : Mm) : SV → Option (Bool × List (BitVec 32))
  | .sl k off len _ => match M[k]? with
    | some ⟨_, .a32 l⟩ => some (Nat.ble (off + len) l.length, (l.drop off).take len)
    | _ => none
  | _ => none
/-- Words that are laid over others. -/
def vcopyW (M : Mm) (k off len : Nat) (x : SV) (K : SV → Mm → Prop) : Prop := match words32 M x, M[k]? with
  | some (c, m), some ⟨true, .a32 l⟩ => vsome (c && Nat.ble (off + len) l.length) <|
      setK M k ⟨true, .a32 (l.take off ++ m.take len ++ l.drop (off + min m.length len))⟩ fun M2 => K (.i ((min m.length len : Nat) : Int)) M2
  | _, _ => False
def isWords64 (P : Program) (t : Nat) : Bool := match P.underlying t with
  | some (.slice e) => isInt P .u64 e && Nat.beq (sizeT P e) 1
  | _ => false
def words64 (M : Mm) : SV → Option (Bool × List (BitVec 64))
  | .sl k off len _ => match M[k]? with
    | some ⟨_, .a64 l⟩ => some (Nat.ble (off + len) l.length, (l.drop off).take len)
    | _ => none
  | _ => none
def vcopyX (M : Mm) (k off len : Nat) (x : SV) (K : SV → Mm → Prop) : Prop := match words64 M x, M[k]? with
  | some (c, m), some ⟨true, .a64 l⟩ => vsome (c && Nat.ble (off + len) l.length) <|
      setK M k ⟨true, .a64 (l.take off ++ m.take len ++ l.drop (off + min m.length len))⟩ fun M2 => K (.i ((min m.length len : Nat) : Int)) M2
  | _, _ => False
def isSrc : SV → Bool
  | .s _ => true
  | .sl _ _ _ _ => true
  | .v (.slice _ _ _) => true
  | _ => false
def vcopy (P : Program) (tys : List Nat) (M : Mm) (xs : List SV) (K : SV → Mm → Prop) : Prop :=
  match tys, xs with
  | [t, tx], [.v (.slice none 0 0), x] => vsome (isBytes P t && isSrc x) (K (.i 0) M)
  | [t, tx], [.sl k off len cap, x] => bif isWords32 P t then vcopyW M k off len x K else bif isWords64 P t then vcopyX M k off len x K else vsome (isBytes P t) <| match addedBytes P [] M x, M[k]? with
    | some (c, m), some ⟨true, .a8 l⟩ => vsome (c && decide (off + len ≤ l.length)) <|
        setK M k ⟨true, .a8 (l.take off ++ m.take len ++ l.drop (off + min m.length len))⟩ fun M2 => K (.i ((min m.length len : Nat) : Int)) M2
    | _, _ => False
  | _, _ => False
def vcopyT (P : Program) (tys : List Nat) (M : Mm) (xs : List SV) (K : SV → Mm → Prop) : Prop :=
  match tys, xs with
  | [t, _], [.sl k off len _, .s m] => match M[k]? with
    | some ⟨true, .t8 u l⟩ => vsome (isBytes P t && Nat.ble (off + len) l.length)
        (setK M k ⟨true, .t8 u (l.take off ++ m.take len ++ l.drop (off + min m.length len))⟩ fun M2 => K (.i ((min m.length len : Nat) : Int)) M2)
    | _ => False
  | _, _ => False
def vbytes (P : Program) (M : Mm) (x : SV) (K : SV → Mm → Prop) : Prop :=
  match x with
  | .s m => ∀ (cap : Nat) (x : List (BitVec 8)), m.length ≤ cap → x = m ++ List.replicate (cap - m.length) 0 → snocK M ⟨true, .a8 x⟩ fun M2 => K (.sl M.length 0 m.length cap) M2
  | _ => False
def noAny : List SV → Bool
  | [] => true
  | x :: l => !isAny x && noAny l
/-- The globals that are named lie in the list. -/
def globOk (n : Nat) : List Operand → Bool
  | [] => true
  | .global g :: l => Nat.blt g n && globOk n l
  | _ :: l => globOk n l
def isMove : Op → Bool
  | .move _ | .assign _ | .pick _ _ _ => true
  | _ => false
def vq (n : Nat) (M : Mm) (q : QR) (K : SV → Mm → Prop) : Prop :=
  match q with
  | .no => False
  | .ok c r => vsome ((isAny r || r.wf n) && c) (forceK r fun r' => K r' M)
  | .new c r x => vsome ((r.wf (n + 1) && x.wf n && x.fresh) && c) (snocK M ⟨true, x⟩ fun M2 => forceK r fun r' => K r' M2)
/-- Operations that may be left to others. -/
def hookable : Op → Bool
  | .load _ _ => true
  | .makeMap _ _ => true
  | .lookup _ _ _ _ => true
  | .mapUpdate _ _ _ _ => true
  | .fieldAddr _ _ _ => true
  | .nilCheck _ => true
  | .binOp _ _ _ _ _ => true
  | .call _ => true
  | .range _ _ => true
  | .next _ _ => true
  | .entry _ => true
  | _ => false
def vqH (H : HT) (op : Op) (xs : List SV) (M : Mm) (q : QR) (K : SV → Mm → Prop) : Prop :=
  match q with
  | .no => vsome (hookable op) (H op xs M K)
  | q => vq M.length M q K
def isStrToBytes (P : Program) (src dst : Nat) : Bool := match P.underlying src with
  | some .string => isBytes P dst
  | _ => false
/-- Sums that may go round are left to others. -/
def loose (T : PT) (b : BinOp) (q : QR) : QR := match b with
  | .add => bif (T 1000003 [] []).isSome then .no else q
  | _ => q
def vstep (P : Program) (E : Env) (o : Oper) (fr : List SV) (M : Mm) (K : SV → Mm → Prop) : Prop :=
  evsK fr o.op.operands.toList fun xs =>
  vsome (globOk E.G.length o.op.operands.toList && (isMove o.op || noAny xs)) <|
  match o.op with
  | .store t _ _ => match xs with
    | [.ptr k off, x] => match M[k]? with
      | some ⟨true, c⟩ => match qstore P t off c x with
        | some (b, c') => vsome ((Nat.blt 0 (sizeT P t) && c'.wf M.length) && b) (setK M k ⟨true, c'⟩ fun M2 => K .any M2)
        | none => False
      | _ => False
    | [.pe k base idx sz j, x] => vstoreR P t k base idx sz j M x K
    | _ => False
  | .convert src dst _ => bif isStrToBytes P src dst then
      (match xs with
      | [x] => vbytes P M x K
      | _ => False)
    else bif Nat.beq src dst && isBytes P dst then
      (match xs with
      | [.sl k off len cap] => match M[k]? with
        | some ⟨true, .a8 l⟩ => vsome (Nat.blt 0 l.length) (K (.sl k off len cap) M)
        | _ => False
      | _ => False)
    else mapK (tgt M) xs fun cs => vq M.length M (qcore P E.T M.length o.op xs cs) K
  | .call c => match c.callee with
    | .builtin .append => bif toRecs P c.argTypes.toList then vappendR P (exactOn E.T) c.argTypes.toList M xs K else bif typed E.T then vappendT P c.argTypes.toList M xs K else bif toWords P c.argTypes.toList then vappendW P c.argTypes.toList M xs K else bif offOn E.T then vappendO P c.argTypes.toList M xs K else vappend P c.argTypes.toList M xs K
    | .builtin .copy => bif toRecs P c.argTypes.toList then vcopyR P c.argTypes.toList M xs K else bif typed E.T then vcopyT P c.argTypes.toList M xs K else vcopy P c.argTypes.toList M xs K
    | .builtin .clear => vclear P c.argTypes.toList M xs K
    | .builtin .unsafeString => vustr P c.argTypes.toList M xs K
    | .value _ => mapK (tgt M) xs fun cs => match qcore P E.T M.length o.op xs cs with
      | .no => match xs with
        | .fn f caps :: args => E.C f (args ++ caps) M K
        | _ => False
      | q => vq M.length M q K
    | _ => mapK (tgt M) xs fun cs => vqH E.H o.op xs M (qcore P E.T M.length o.op xs cs) K
  | .binOp b _ _ _ _ => mapK (tgt M) xs fun cs => vqH E.H o.op xs M (loose E.T b (qcore P E.T M.length o.op xs cs)) K
  | _ => mapK (tgt M) xs fun cs => vqH E.H o.op xs M (qcore P E.T M.length o.op xs cs) K
def gval (ops : List Oper) (fr : List SV) (j : Nat) : Option Bool := match ops[j]? with
  | some o => match o.dst with
    | some d => match fr[d]? with
      | some (.b t) => some t
      | _ => none
    | none => none
  | none => none
/-- The operation whose answer is asked for was not done. -/
def gskip (ops : List Oper) (fr : List SV) (j : Nat) : Bool := match ops[j]? with
  | some o => match o.dst with
    | some d => match fr[d]? with
      | some (.v (.tuple _)) => true
      | _ => false
    | none => false
  | none => false
/-- What is true or false is told apart once. -/
def splitK (g : Bool) (r : SV) (K : SV → Prop) : Prop := match g, r with
  | true, .b t => bif t then K (.b true) else K (.b false)
  | _, r => K r
theorem splitK_eq (g : Bool) (r : SV) (K : SV → Prop) : splitK g r K = K r := by
  unfold splitK
  split
  · rename_i t; cases t <;> rfl
  · rfl
/-- Whether someone's guard asks for that slot. -/
def gdst (ops : List Oper) (d : Option Tmp) : Bool := ops.any fun o => match o.guard with
  | some (j, _) => match ops[j]? with
    | some x => match x.dst, d with
      | some a, some b => Nat.beq a b
      | _, _ => false
    | none => false
  | none => false
def putSK (T : PT) (ops : List Oper) (fr : List SV) (d : Option Tmp) (r : SV) (K : List SV → Prop) : Prop := bif splitOn T then splitK (gdst ops d) r fun r' => putK fr d r' K else putK fr d r K
theorem putSK_eq (T : PT) (ops : List Oper) (fr : List SV) (d : Option Tmp) (r : SV) (K : List SV → Prop) : putSK T ops fr d r K = putK fr d r K := by
  unfold putSK
  cases splitOn T
  · rfl
  · show splitK (gdst ops d) r (fun r' => putK fr d r' K) = _
    rw [splitK_eq]
def vlist (P : Program) (E : Env) (ops : List Oper) : List Oper → List SV → Mm → (List SV → Mm → Prop) → Prop
  | [], fr, M, K => K fr M
  | o :: rest, fr, M, K => match o.guard with
    | none => vstep P E o fr M fun r M2 => putSK E.T ops fr o.dst r fun fr2 => vlist P E ops rest fr2 M2 K
    | some (j, want) => match gval ops fr j with
      | some t => bif t == want then (vstep P E o fr M fun r M2 => putSK E.T ops fr o.dst r fun fr2 => vlist P E ops rest fr2 M2 K) else (putK fr o.dst (.v undef) fun fr2 => vlist P E ops rest fr2 M K)
      | none => bif gskip ops fr j then (putK fr o.dst (.v undef) fun fr2 => vlist P E ops rest fr2 M K) else False
/-- Operations that neither write nor call what writes. -/
def quietOp (P : Program) (T : Nat → Bool) : Op → Bool
  | .store _ _ _ => false
  | .convert src dst _ => !isStrToBytes P src dst
  | .call c => match c.callee with
    | .builtin .len => true
    | .builtin _ => false
    | .value (.func f) => T f
    | .value _ => true
    | _ => false
  | _ => true
abbrev Ko := Exit → List SV → Mm → Prop
def vcode (P : Program) (E : Env) (W : Code → List SV → Mm → Ko → Prop) (D : List Oper → List SV → Mm → (List SV → Mm → Prop) → Prop) : Code → List SV → Mm → Ko → Prop
  | .skip, fr, M, K => K .normal fr M
  | .region _ ops d, fr, M, K => match d with
    | true => D ops.toList fr M (fun fr2 M2 => K .normal fr2 M2)
    | false => vlist P E ops.toList ops.toList fr M (fun fr2 M2 => K .normal fr2 M2)
  | .seq a b, fr, M, K => vcode P E W D a fr M fun e fr2 M2 => match e with
    | .normal => vcode P E W D b fr2 M2 K
    | e => K e fr2 M2
  | .cond c a b, fr, M, K => match ev fr c with
    | .b t => bif t then vcode P E W D a fr M K else vcode P E W D b fr M K
    | _ => False
  | .block id (.loop c), fr, M, K => W (.block id (.loop c)) fr M K
  | .block id c, fr, M, K => vcode P E W D c fr M fun e fr2 M2 => match e with
    | .exit j => bif Nat.beq j id then K .normal fr2 M2 else K (.exit j) fr2 M2
    | e => K e fr2 M2
  | .exit id, fr, M, K => K (.exit id) fr M
  | .ret, fr, M, K => K .ret fr M
  | .scope c, fr, M, K => vcode P E W D c fr M fun e fr2 M2 => match e with
    | .goto _ => False
    | e => K e fr2 M2
  | .label _, fr, M, K => K .normal fr M
  | _, _, _, _ => False
end Go.Proofs.Ytkjfecdpakhggaa
