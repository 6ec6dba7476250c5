/-
  A reckoner of conditions: a region that draws its order leads where it leads in the order of the text. No statement is proved here.
-/
import Derived.Test.YtkjfecdpakhggaaVcP
namespace Go.Proofs.Ytkjfecdpakhggaa
open Go.RowKit
set_option linter.unusedVariables false
set_option linter.unusedSimpArgs false

/-- The functions that write what they are handed: in a region that draws its order they come last. -/
def writers (f : Nat) : Bool := Nat.beq f 18 || (Nat.beq f 19 || (Nat.beq f 16 || (Nat.beq f 17 || Nat.beq f 33)))
def okP (m0 m k : Nat) : Bool := Nat.blt k m0 || m.testBit (k - m0)
def okN (m0 m i k : Nat) : Bool := okP m0 m k || Nat.beq k (m0 + i)
/-- Whether a guarded operation is done: as the frame says. -/
def wantK (ops : List Oper) (fr : List SV) (g : Option (Nat × Bool)) (A B : Prop) : Prop := match g with
  | none => A
  | some (j, want) => match gval ops fr j with
    | some t => bif t == want then A else B
    | none => bif gskip ops fr j then B else False
def wantsF (ops : List Oper) (fr : List SV) (g : Option (Nat × Bool)) : Option Bool := match g with
  | none => some true
  | some (j, want) => match gval ops fr j with
    | some t => some (t == want)
    | none => bif gskip ops fr j then some false else none
theorem wantK_cases {ops : List Oper} {fr : List SV} {g : Option (Nat × Bool)} {A B : Prop} (h : wantK ops fr g A B) : (wantsF ops fr g = some true ∧ A) ∨ (wantsF ops fr g = some false ∧ B) := by
  unfold wantK at h
  unfold wantsF
  split at h
  · exact .inl ⟨rfl, h⟩
  · rename_i j want
    split at h
    · rename_i t hg
      cases hw : t == want <;> rw [hw] at h
      · exact .inr ⟨by simp only [hg, hw], h⟩
      · exact .inl ⟨by simp only [hg, hw], h⟩
    · rename_i hg
      cases hs : gskip ops fr j <;> rw [hs] at h
      · exact h.elim
      · exact .inr ⟨by simp only [hg, hs, cond_true], h⟩
theorem wantsF_ok {β : Nat → Nat} {n : Nat} {fr : List SV} {a : Act} (hF : RelF β n fr a) {ops : List Oper} {o : Oper} {t : Bool} (h : wantsF ops fr o.guard = some t) : Region.wanted o (yielded ops.toArray a.tmps) = t := by
  unfold wantsF at h
  split at h
  · rename_i hg
    obtain rfl := Option.some.inj h
    simp [Region.wanted, hg]
  · rename_i j want hg
    split at h
    · rename_i t' hv
      have hy := gval_ok hF hv
      obtain rfl := Option.some.inj h
      simp only [Region.wanted, hg, hy]
      cases t' <;> cases want <;> rfl
    · cases hs : gskip ops fr j <;> rw [hs] at h
      · cases h
      · have hy := gskip_ok hF hs
        obtain rfl := Option.some.inj h
        simp [Region.wanted, hg, hy]
/-- Whether someone's guard asks for the operation i. -/
def gidx (ops : List Oper) (i : Nat) : Bool := ops.any fun o => match o.guard with
  | some (j, _) => Nat.beq j i
  | none => false
def vquiet (P : Program) (E : Env) (ops : List Oper) (m0 : Nat) (ms : List Nat) : Nat → List Oper → List SV → Mm → (List SV → Mm → Prop) → Prop
  | _, [], fr, M, K => K fr M
  | i, o :: rest, fr, M, K => wantK ops fr o.guard (evsK fr o.op.operands.toList fun xs => vsome (globOk E.G.length o.op.operands.toList && (isMove o.op || noAny xs)) <| mapK (tgt M) xs fun cs => match qcore P E.T (m0 + i) o.op xs cs with
    | .no => False
    | .ok c r => vsome ((isAny r || (r.wf M.length && r.allP (okP m0 (ms.getD i 0)))) && c) (forceK r fun r2 => splitK (gidx ops i) r2 fun r3 => putK fr o.dst r3 fun fr2 => vquiet P E ops m0 ms (i + 1) rest fr2 M K)
    | .new c r x => vsome ((r.wf M.length && r.allP (okN m0 (ms.getD i 0) i) && (x.wf M.length && x.allP (okP m0 (ms.getD i 0))) && x.fresh && Nat.blt (m0 + i) M.length) && c) (setK M (m0 + i) ⟨true, x⟩ fun M2 => forceK r fun r2 => putK fr o.dst r2 fun fr2 => vquiet P E ops m0 ms (i + 1) rest fr2 M2 K)) (putK fr o.dst (.v undef) fun fr2 => vquiet P E ops m0 ms (i + 1) rest fr2 M K)
def vtail (P : Program) (E : Env) (ops : List Oper) : List Oper → List SV → Mm → (List SV → Mm → Prop) → Prop
  | [], fr, M, K => K fr M
  | o :: rest, fr, M, K => wantK ops fr o.guard (vstep P E o fr M fun r M2 => putK fr o.dst r fun fr2 => vtail P E ops rest fr2 M2 K) (putK fr o.dst (.v undef) fun fr2 => vtail P E ops rest fr2 M K)
def isTail : Op → Bool
  | .store _ _ _ => true
  | .lookup _ _ _ _ => true
  | .mapUpdate _ _ _ _ => true
  | .call c => match c.callee with
    | .builtin .append => true
    | .builtin .delete => true
    | .builtin .copy => true
    | .builtin .unsafeString => true
    | .value (.func f) => writers f
    | _ => false
  | _ => false
def makesNew : Op → Bool
  | .alloc _ | .box _ _ | .buildSlice _ _ _ | .makeSlice _ _ _ => true
  | _ => false
/-- Whether one of them reads the slot. -/
def readsT (d : Nat) (l : List Oper) : Bool := l.any fun o => o.op.operands.toList.any fun x => match x with
  | .tmp t => Nat.beq t d
  | _ => false
/-- A variable that is set behind what read it comes last as well. -/
def setsRead (seen : List Oper) (o : Oper) : Bool := match o.op, o.dst with
  | .assign _, some d => readsT d seen
  | _, _ => false
def tailFrom (seen : List Oper) : List Oper → Nat
  | [] => 0
  | o :: l => bif isTail o.op || setsRead seen o then 0 else tailFrom (seen ++ [o]) l + 1
def tailAt (l : List Oper) : Nat := tailFrom [] l
/-- Whoever writes slot t is waited for, or is the one who asks. -/
def dsOk (t m i : Nat) : Nat → List Oper → Bool
  | _, [] => true
  | j, o :: l => (match o.dst with
    | some d => !(Nat.beq d t) || Nat.beq j i || m.testBit j
    | none => true) && dsOk t m i (j + 1) l
def opsOk (l : List Oper) (ms : List Nat) : Nat → List Oper → Bool
  | _, [] => true
  | i, o :: rest => o.op.operands.toList.all (fun x => match x with
    | .tmp t => dsOk t (ms.getD i 0) i 0 l
    | _ => true) && opsOk l ms (i + 1) rest
def noDst (d : Nat) : List Oper → Bool
  | [] => true
  | o :: l => (match o.dst with
    | some e => !(Nat.beq e d)
    | none => true) && noDst d l
def dstsOk : List Oper → Bool
  | [] => true
  | o :: l => (match o.dst with
    | some d => noDst d l
    | none => true) && dstsOk l
/-- Those from i on wait for all ahead of them. -/
def fullOk (ms : List Nat) : Nat → List Oper → Bool
  | _, [] => true
  | i, o :: l => Nat.beq ((ms.getD i 0) % 2 ^ i) (2 ^ i - 1) && fullOk ms (i + 1) l
/-- Whoever writes what a guard asks for is waited for. -/
def gdsOk (ops l : List Oper) (ms : List Nat) : Nat → List Oper → Bool
  | _, [] => true
  | i, o :: rest => (match o.guard with
    | none => true
    | some (j, _) => match ops[j]? with
      | some x => match x.dst with
        | some d => dsOk d (ms.getD i 0) i 0 l
        | none => true
      | none => true) && gdsOk ops l ms (i + 1) rest
/-- Whether the first of them is a call that writes: then guards may follow. -/
def headW : List Oper → Bool
  | [] => false
  | o :: _ => match o.op with
    | .call c => match c.callee with
      | .value (.func f) => writers f
      | _ => false
    | _ => false
def drawOk (ops : List Oper) (n : Nat) (ms : List Nat) : Bool := lowB ops && ((ops.drop n).all (fun o => o.guard.isNone) || headW (ops.drop n)) && !ops.isEmpty && dstsOk (ops.take n) && opsOk (ops.take n) ms 0 (ops.take n) && fullOk ms n (ops.drop n) && gdsOk ops (ops.take n) ms 0 (ops.take n)
def entK : Mm → (Mm → Prop) → Prop
  | [], K => K []
  | ⟨a, c⟩ :: l, K => entK l fun m => K (⟨a, c⟩ :: m)
theorem entK_eq : ∀ (M : Mm) (K : Mm → Prop), entK M K = K M
  | [], K => rfl
  | ⟨a, c⟩ :: l, K => by rw [entK, entK_eq l]
def vdrawN (P : Program) (E : Env) (ops : List Oper) (n : Nat) (fr : List SV) (M : Mm) (K : List SV → Mm → Prop) : Prop :=
  masksK ops [] fun ms => vsome (drawOk ops n ms) <| entK (M ++ List.replicate (bif (ops.take n).any (fun o => makesNew o.op) then n else 0) ⟨true, .gone⟩) fun M1 => vquiet P E ops M.length ms 0 (ops.take n) fr M1 fun fr2 M2 => vtail P E ops (ops.drop n) fr2 M2 K
/-- Where operations wait for later ones: an order in which each comes behind what it waits for. -/
def depsIn (m : Nat) (o : Oper) : Bool := o.after.toList.all fun e => !Region.binds .any e || m.testBit e.on
def firstIn (m : Nat) : Nat → List Oper → Option Nat
  | _, [] => none
  | i, o :: l => bif !m.testBit i && depsIn m o then some i else firstIn m (i + 1) l
def ordOf (ops : List Oper) : Nat → Nat → List Nat
  | 0, _ => []
  | n + 1, m => match firstIn m 0 ops with
    | some i => i :: ordOf ops n (m + 2 ^ i)
    | none => []
def idxN (i : Nat) : List Nat → Nat
  | [] => 0
  | x :: l => bif Nat.beq x i then 0 else idxN i l + 1
def prm (ord : List Nat) (o : Oper) : Oper := { o with after := o.after.map fun e => { e with on := idxN e.on ord }, guard := o.guard.map fun g => (idxN g.1 ord, g.2) }
def prms (ord : List Nat) (ops : List Oper) : List Oper := ord.map fun i => match ops[i]? with
  | some o => prm ord o
  | none => { dst := none, op := .move (.const undef), type := 0, pos := "", after := #[], guard := none }
def prmOk (ord : List Nat) (ops : List Oper) : Bool := Nat.beq ord.length ops.length && ((List.range ops.length).all fun k => Nat.beq (idxN (ord.getD k k) ord) k && Nat.blt (ord.getD k k) ops.length && Nat.beq (ord.getD (idxN k ord) (idxN k ord)) k && Nat.blt (idxN k ord) ops.length) && ops.all fun o => (o.after.toList.all fun e => Nat.blt e.on ops.length) && (match o.guard with
  | some g => Nat.blt g.1 ops.length
  | none => true)
def ordK (l : List Nat) (K : List Nat → Prop) : Prop := match l with
  | [] => K []
  | x :: l => ordK l fun l => K (x :: l)
theorem ordK_eq : ∀ (l : List Nat) (K : List Nat → Prop), ordK l K = K l
  | [], K => rfl
  | x :: l, K => by rw [ordK, ordK_eq l]
/-- Each operation that is ready. -/
def vready (G : Nat → Oper → Prop) (m : Nat) : Nat → List Oper → Prop
  | _, [] => True
  | i, o :: l => bif !m.testBit i && depsIn m o then G i o ∧ vready G m (i + 1) l else vready G m (i + 1) l
/-- Every order that the operations allow, one by one (m: what is done). -/
def vall (P : Program) (E : Env) (ops : List Oper) : Nat → Nat → List SV → Mm → (List SV → Mm → Prop) → Prop
  | 0, m, fr, M, K => vsome (Nat.beq m (2 ^ ops.length - 1)) (K fr M)
  | n + 1, m, fr, M, K => bif Nat.beq m (2 ^ ops.length - 1) then K fr M else vready (fun i o => natK (m ||| 2 ^ i) fun m2 => wantK ops fr o.guard (vstep P E o fr M fun r M2 => putK fr o.dst r fun fr2 => vall P E ops n m2 fr2 M2 K) (putK fr o.dst (.v undef) fun fr2 => vall P E ops n m2 fr2 M K)) m 0 ops
/-- Operations that only read. -/
def qk : Op → Bool
  | .move _ | .assign _ | .pick _ _ _ | .load _ _ | .nilCheck _ | .binOp _ _ _ _ _ | .unOp _ _ _ | .fieldAddr _ _ _ | .field _ _ _ | .index _ _ _ | .indexAddr _ _ _ | .slice _ _ _ _ _ | .extract _ _ => true
  | .call c => match c.callee with
    | .builtin .len => true
    | .value (.func f) => !writers f
    | _ => false
  | _ => false
def vqk (P : Program) (E : Env) (o : Oper) (fr : List SV) (M : Mm) (K : SV → Prop) : Prop := evsK fr o.op.operands.toList fun xs => vsome (globOk E.G.length o.op.operands.toList && (isMove o.op || noAny xs)) <| mapK (tgt M) xs fun cs => match qcore P E.T 0 o.op xs cs with
  | .ok c r => vsome ((isAny r || r.wf M.length) && c) (forceK r K)
  | _ => False
/-- The first of them that is ready. -/
def firstQ (m : Nat) : Nat → List Oper → Option (Nat × Oper)
  | _, [] => none
  | i, o :: l => bif !m.testBit i && depsIn m o && qk o.op then some (i, o) else firstQ m (i + 1) l
def ptrIs (k : Nat) : SV → Bool
  | .ptr j _ => Nat.beq j k
  | .sl j _ _ _ => Nat.beq j k
  | .fn _ [.ptr j _] => Nat.beq j k
  | .pe j _ _ _ _ => Nat.beq j k
  | .rs j _ _ _ _ _ => Nat.beq j k
  | .ns _ j _ _ _ => Nat.beq j k
  | .mp j => Nat.beq j k
  | _ => false
/-- None of those that are done and not waited for points to the block k. -/
def lateFree (m mk k : Nat) (fr : List SV) : Nat → List Oper → Bool
  | _, [] => true
  | j, o :: l => (!m.testBit j || mk.testBit j || (o.op.operands.toList.all fun y => !(ptrIs k (ev fr y)))) && lateFree m mk k fr (j + 1) l
/-- Those that are done and not waited for only move. -/
def lateMv (m mk : Nat) : Nat → List Oper → Bool
  | _, [] => true
  | j, o :: l => (!m.testBit j || mk.testBit j || isMove o.op) && lateMv m mk (j + 1) l
def stepOkP (ops : List Oper) (o : Oper) (m mk : Nat) (fr : List SV) : Bool := match o.op with
  | .store _ p _ => match ev fr p with
    | .ptr k _ => lateFree m mk k fr 0 ops
    | _ => false
  | .alloc _ => true
  | .buildSlice _ _ _ => true
  | _ => lateMv m mk 0 ops
/-- What those read that are done and not waited for stays as it was. -/
def operEq (fr : List SV) (M M2 : Mm) : List Operand → Prop
  | [] => True
  | z :: l => tgt M2 (ev fr z) = tgt M (ev fr z) ∧ operEq fr M M2 l
def lateEq (m mk : Nat) (fr : List SV) (M M2 : Mm) : Nat → List Oper → Prop
  | _, [] => True
  | j, o :: l => bif m.testBit j && (!mk.testBit j && !isMove o.op) then operEq fr M M2 o.op.operands.toList ∧ lateEq m mk fr M M2 (j + 1) l else lateEq m mk fr M M2 (j + 1) l
/-- Those that only read at once; the others in every order. -/
def vallP (P : Program) (E : Env) (ops : List Oper) (ms : List Nat) : Nat → Nat → List SV → Mm → (List SV → Mm → Prop) → Prop
  | 0, m, fr, M, K => vsome (Nat.beq m (2 ^ ops.length - 1)) (K fr M)
  | n + 1, m, fr, M, K => bif Nat.beq m (2 ^ ops.length - 1) then K fr M else match firstQ m 0 ops with
    | some (i, o) => natK (m ||| 2 ^ i) fun m2 => vqk P E o fr M fun r => putK fr o.dst r fun fr2 => vallP P E ops ms n m2 fr2 M K
    | none => vready (fun i o => natK (m ||| 2 ^ i) fun m2 => bif stepOkP ops o m (ms.getD i 0) fr then (vstep P E o fr M fun r M2 => putK fr o.dst r fun fr2 => vallP P E ops ms n m2 fr2 M2 K) else (vstep P E o fr M fun r M2 => lateEq m (ms.getD i 0) fr M M2 0 ops ∧ putK fr o.dst r fun fr2 => vallP P E ops ms n m2 fr2 M2 K)) m 0 ops
/-- Whoever writes a slot that is read is waited for. -/
def dsOkS (t m : Nat) : Nat → List Oper → Bool
  | _, [] => true
  | j, o :: l => (match o.dst with
    | some d => !(Nat.beq d t) || m.testBit j
    | none => true) && dsOkS t m (j + 1) l
def opsOkS (l : List Oper) (ms : List Nat) : Nat → List Oper → Bool
  | _, [] => true
  | i, o :: rest => o.op.operands.toList.all (fun x => match x with
    | .tmp t => dsOkS t (ms.getD i 0) 0 l
    | _ => true) && opsOkS l ms (i + 1) rest
def porOk (ops : List Oper) (ms : List Nat) : Bool := ops.all (fun o => o.guard.isNone && (!(qk o.op) || o.dst.isSome)) && dstsOk ops && opsOkS ops ms 0 ops
def dstIn (n : Nat) (ops : List Oper) : Bool := ops.all fun o => match o.dst with
  | some d => Nat.blt d n
  | none => true
/-- By one order, where that suffices; else by all of them. -/
def vdrawA (P : Program) (E : Env) (ops : List Oper) (n : Nat) (fr : List SV) (M : Mm) (K : List SV → Mm → Prop) : Prop :=
  masksK ops [] fun ms => bif drawOk ops n ms then (entK (M ++ List.replicate (bif (ops.take n).any (fun o => makesNew o.op) then n else 0) ⟨true, .gone⟩) fun M1 => vquiet P E ops M.length ms 0 (ops.take n) fr M1 fun fr2 M2 => vtail P E ops (ops.drop n) fr2 M2 K) else vsome (lowB ops && !ops.isEmpty) (bif porOk ops ms && dstIn fr.length ops then vallP P E ops ms ops.length 0 fr M K else vall P E ops ops.length 0 fr M K)
theorem vdrawA_cases {P : Program} {E : Env} {ops : List Oper} {n : Nat} {fr : List SV} {M : Mm} {K : List SV → Mm → Prop} (h : vdrawA P E ops n fr M K) : vdrawN P E ops n fr M K ∨ (lowB ops = true ∧ ops.isEmpty = false ∧ (((porOk ops (masks ops []) = true ∧ dstIn fr.length ops = true) ∧ vallP P E ops (masks ops []) ops.length 0 fr M K) ∨ vall P E ops ops.length 0 fr M K)) := by
  unfold vdrawA at h
  unfold vdrawN
  rw [masksK_eq] at h ⊢
  cases hd : drawOk ops n (masks ops []) <;> rw [hd] at h
  · right
    obtain ⟨h1, h2⟩ := vsome_iff.1 h
    simp only [Bool.and_eq_true, Bool.not_eq_true'] at h1
    refine ⟨h1.1, h1.2, ?_⟩
    cases hp : porOk ops (masks ops []) && dstIn fr.length ops <;> rw [hp] at h2
    · exact .inr h2
    · exact .inl ⟨by simpa using hp, h2⟩
  · left
    exact vsome_iff.2 ⟨rfl, h⟩
def vdraw (P : Program) (E : Env) (ops : List Oper) (fr : List SV) (M : Mm) (K : List SV → Mm → Prop) : Prop := bif lowB ops then vdrawA P E ops (tailAt ops) fr M K else ordK (ordOf ops ops.length 0) fun ord => vsome (prmOk ord ops) (vdrawA P E (prms ord ops) (tailAt (prms ord ops)) fr M K)

-- what the order of the text makes, and what is done of it
def setO (fr : List SV) (d : Option Tmp) (r : SV) : List SV := match d with
  | none => fr
  | some k => fr.set k r
def putsF (f : Nat → Bool) : Nat → List Oper → List SV → List SV → List SV
  | k, o :: os, r :: rs, fr => putsF f (k + 1) os rs (if f k = true then setO fr o.dst r else fr)
  | _, _, _, fr => fr
def setE (p : Nat) (b : Bool) (c : Option Cont) (M : Mm) : Mm := match c with
  | some x => if b = true then M.set p ⟨true, x⟩ else M
  | none => M
def setsM (m0 : Nat) (f : Nat → Bool) : Nat → List (Option Cont) → Mm → Mm
  | _, [], M => M
  | k, c :: cs, M => setsM m0 f (k + 1) cs (setE (m0 + k) (f k) c M)
theorem setE_len (p : Nat) (b : Bool) (c : Option Cont) (M : Mm) : (setE p b c M).length = M.length := by
  unfold setE
  split
  · split <;> simp
  · rfl
structure StepOk (P : Program) (E : Env) (m0 : Nat) (ms : List Nat) (N i : Nat) (o : Oper) (fr : List SV) (M : Mm) (r : SV) (c : Option Cont) : Prop where
  glob : globOk E.G.length o.op.operands.toList = true
  known : isMove o.op = true ∨ noAny (o.op.operands.toList.map (ev fr)) = true
  made : match c with
    | none => qcore P E.T (m0 + i) o.op (o.op.operands.toList.map (ev fr)) ((o.op.operands.toList.map (ev fr)).map (tgt M)) = .ok true r ∧ (r = .any ∨ (r.wf N = true ∧ r.allP (okP m0 (ms.getD i 0)) = true))
    | some x => qcore P E.T (m0 + i) o.op (o.op.operands.toList.map (ev fr)) ((o.op.operands.toList.map (ev fr)).map (tgt M)) = .new true r x ∧ (r.wf N = true ∧ r.allP (okN m0 (ms.getD i 0) i) = true) ∧ (x.wf N = true ∧ x.allP (okP m0 (ms.getD i 0)) = true) ∧ x.fresh = true ∧ m0 + i < N
def StepG (P : Program) (E : Env) (ops : List Oper) (m0 : Nat) (ms : List Nat) (N i : Nat) (o : Oper) (fr : List SV) (M : Mm) (r : SV) (c : Option Cont) : Prop := (wantsF ops fr o.guard = some true ∧ StepOk P E m0 ms N i o fr M r c) ∨ (wantsF ops fr o.guard = some false ∧ r = .v undef ∧ c = none)
section
variable {P : Program} {E : Env} {m0 : Nat} {ms : List Nat}
theorem putsF_len (f : Nat → Bool) : ∀ (k : Nat) (os : List Oper) (rs : List SV) (fr : List SV), (putsF f k os rs fr).length = fr.length
  | k, [], rs, fr => by cases rs <;> rfl
  | k, o :: os, [], fr => rfl
  | k, o :: os, r :: rs, fr => by
    rw [putsF, putsF_len f]
    split
    · unfold setO; split <;> simp
    · rfl
theorem setsM_len (f : Nat → Bool) : ∀ (k : Nat) (cs : List (Option Cont)) (M : Mm), (setsM m0 f k cs M).length = M.length
  | k, [], M => rfl
  | k, c :: cs, M => by
    rw [setsM, setsM_len f, setE_len]
theorem putsF_congr {f g : Nat → Bool} {t : Nat} : ∀ (os : List Oper) (k : Nat) (rs : List SV) (fr fr' : List SV), (∀ j o, os[j]? = some o → o.dst = some t → f (k + j) = g (k + j)) → fr[t]? = fr'[t]? → fr.length = fr'.length → (putsF f k os rs fr)[t]? = (putsF g k os rs fr')[t]?
  | [], k, rs, fr, fr', h, he, hl => by cases rs <;> exact he
  | o :: os, k, [], fr, fr', h, he, hl => he
  | o :: os, k, r :: rs, fr, fr', h, he, hl => by
    rw [putsF, putsF]
    have hlen : ∀ (x : Bool) (y : List SV), (if x = true then setO y o.dst r else y).length = y.length := fun x y => by
      split
      · unfold setO; split <;> simp
      · rfl
    refine putsF_congr os (k + 1) rs _ _ (fun j x hx hd => ?_) ?_ (by rw [hlen, hlen, hl])
    · have := h (j + 1) x hx hd
      rw [show k + 1 + j = k + (j + 1) by omega]; exact this
    · by_cases hd : o.dst = some t
      · have := h 0 o rfl hd
        rw [Nat.add_zero] at this
        rw [this]
        split
        · simp only [hd, setO, List.getElem?_set, hl]
          split <;> simp_all
        · exact he
      · have q : ∀ (x : Bool) (y : List SV), (if x = true then setO y o.dst r else y)[t]? = y[t]? := fun x y => by
          split
          · unfold setO
            split
            · rfl
            · rename_i d hd'
              rw [List.getElem?_set_ne (fun e => hd (by rw [hd', e]))]
          · rfl
        rw [q, q, he]
theorem setsM_congr {f g : Nat → Bool} {q : Nat} : ∀ (cs : List (Option Cont)) (k : Nat) (M M' : Mm), (∀ j, m0 + j = q → f j = g j) → M[q]? = M'[q]? → M.length = M'.length → (setsM m0 f k cs M)[q]? = (setsM m0 g k cs M')[q]?
  | [], k, M, M', h, he, hl => he
  | c :: cs, k, M, M', h, he, hl => by
    rw [setsM, setsM]
    refine setsM_congr cs (k + 1) _ _ h ?_ (by rw [setE_len, setE_len, hl])
    cases c with
    | none => exact he
    | some x =>
      unfold setE
      dsimp only
      by_cases hq : m0 + k = q
      · rw [h k hq]
        split
        · simp only [List.getElem?_set, hq, hl]
          split <;> simp_all
        · exact he
      · have e : ∀ (b : Bool) (y : Mm), (if b = true then y.set (m0 + k) ⟨true, x⟩ else y)[q]? = y[q]? := fun b y => by
          split
          · rw [List.getElem?_set_ne hq]
          · rfl
        rw [e, e, he]
theorem vquiet_tr {ops : List Oper} {N : Nat} {K : List SV → Mm → Prop} : ∀ (os : List Oper) (i : Nat) (fr : List SV) (M : Mm), M.length = N → vquiet P E ops m0 ms i os fr M K → ∃ (rs : List SV) (cs : List (Option Cont)), rs.length = os.length ∧ cs.length = os.length ∧ (∀ j o, os[j]? = some o → ∃ r c, rs[j]? = some r ∧ cs[j]? = some c ∧ StepG P E ops m0 ms N (i + j) o (putsF (fun k => decide (k < i + j)) i os rs fr) (setsM m0 (fun k => decide (k < i + j)) i cs M) r c) ∧ K (putsF (fun _ => true) i os rs fr) (setsM m0 (fun _ => true) i cs M) := by
  intro os
  induction os with
  | nil => intro i fr M hN h; exact ⟨[], [], rfl, rfl, (fun j o hj => by cases hj), h⟩
  | cons o os ih =>
    intro i fr M hN h
    have first : ∀ (rs : List SV) (r : SV), putsF (fun k => decide (k < i + 0)) i (o :: os) (r :: rs) fr = fr := fun rs r => by
      have : ∀ (os : List Oper) (k : Nat) (rs : List SV) (fr : List SV), i ≤ k → putsF (fun k => decide (k < i + 0)) k os rs fr = fr := by
        intro os
        induction os with
        | nil => intro k rs fr _; cases rs <;> rfl
        | cons o os ih2 =>
          intro k rs fr hk
          cases rs with
          | nil => rfl
          | cons r rs =>
            rw [putsF, if_neg (by simp; omega)]
            exact ih2 (k + 1) rs fr (by omega)
      exact this _ i _ _ (Nat.le_refl _)
    have firstM : ∀ (cs : List (Option Cont)) (c : Option Cont), setsM m0 (fun k => decide (k < i + 0)) i (c :: cs) M = M := fun cs c => by
      have : ∀ (cs : List (Option Cont)) (k : Nat) (M : Mm), i ≤ k → setsM m0 (fun k => decide (k < i + 0)) k cs M = M := by
        intro cs
        induction cs with
        | nil => intro k M _; rfl
        | cons c cs ih2 =>
          intro k M hk
          rw [setsM]
          have e : setE (m0 + k) (decide (k < i + 0)) c M = M := by
            unfold setE
            split
            · rw [if_neg (by simp; omega)]
            · rfl
          rw [e]
          exact ih2 (k + 1) M (by omega)
      exact this _ i _ (Nat.le_refl _)
    have pk : ∀ r, putK fr o.dst r = fun K => K (setO fr o.dst r) := fun r => by funext K; rw [putK_eq]; rfl
    unfold vquiet at h
    rcases wantK_cases h with ⟨hwt, h⟩ | ⟨hwt, h⟩
    rotate_left
    · rw [pk] at h
      obtain ⟨rs, cs, h1, h2, h3, h4⟩ := ih (i + 1) _ M hN h
      refine ⟨.v undef :: rs, none :: cs, by simp [h1], by simp [h2], fun j x hx => ?_, ?_⟩
      · cases j with
        | zero =>
          obtain rfl := Option.some.inj hx
          refine ⟨.v undef, none, rfl, rfl, ?_⟩
          rw [first, firstM]
          exact .inr ⟨hwt, rfl, rfl⟩
        | succ j =>
          obtain ⟨r', c', e1, e2, h5⟩ := h3 j x hx
          refine ⟨r', c', e1, e2, ?_⟩
          rw [putsF, setsM, if_pos (by simp)]
          rw [show i + (j + 1) = i + 1 + j by omega]
          exact h5
      · rw [putsF, setsM, if_pos rfl]; exact h4
    rw [evsK_eq] at h
    replace h := vsome_iff.1 h
    obtain ⟨hc, h⟩ := h
    simp only [Bool.and_eq_true, Bool.or_eq_true] at hc
    rw [mapK_eq] at h
    split at h
    · exact h.elim
    · rename_i c r hq
      replace h := vsome_iff.1 h
      obtain ⟨hb, h⟩ := h
      simp only [Bool.and_eq_true, Bool.or_eq_true] at hb
      obtain ⟨hr, rfl⟩ := hb
      rw [forceK_eq, splitK_eq, pk] at h
      obtain ⟨rs, cs, h1, h2, h3, h4⟩ := ih (i + 1) _ M hN h
      refine ⟨r :: rs, none :: cs, by simp [h1], by simp [h2], fun j x hx => ?_, ?_⟩
      · cases j with
        | zero =>
          obtain rfl := Option.some.inj hx
          refine ⟨r, none, rfl, rfl, ?_⟩
          rw [first, firstM]
          exact .inl ⟨hwt, hc.1, hc.2, hq, hr.imp (fun h => by cases r <;> first | rfl | cases h) (fun h => hN ▸ h)⟩
        | succ j =>
          obtain ⟨r', c', e1, e2, h5⟩ := h3 j x hx
          refine ⟨r', c', e1, e2, ?_⟩
          rw [putsF, setsM, if_pos (by simp)]
          rw [show i + (j + 1) = i + 1 + j by omega]
          exact h5
      · rw [putsF, setsM, if_pos rfl]; exact h4
    · rename_i c r x hq
      replace h := vsome_iff.1 h
      obtain ⟨hb, h⟩ := h
      simp only [Bool.and_eq_true] at hb
      obtain ⟨⟨⟨⟨⟨hr1, hr⟩, hx1, hx0⟩, hh⟩, hlt⟩, rfl⟩ := hb
      rw [setK_eq, forceK_eq, pk] at h
      obtain ⟨rs, cs, h1, h2, h3, h4⟩ := ih (i + 1) _ _ (by simpa using hN) h
      refine ⟨r :: rs, some x :: cs, by simp [h1], by simp [h2], fun j y hy => ?_, ?_⟩
      · cases j with
        | zero =>
          obtain rfl := Option.some.inj hy
          refine ⟨r, some x, rfl, rfl, ?_⟩
          rw [first, firstM]
          exact .inl ⟨hwt, hc.1, hc.2, hq, ⟨hN ▸ hr1, hr⟩, ⟨hN ▸ hx1, hx0⟩, hh, by rw [← hN]; exact blt_lt hlt⟩
        | succ j =>
          obtain ⟨r', c', e1, e2, h5⟩ := h3 j y hy
          refine ⟨r', c', e1, e2, ?_⟩
          rw [putsF, setsM, if_pos (by simp)]
          have e : setE (m0 + i) (decide (i < i + (j + 1))) (some x) M = M.set (m0 + i) ⟨true, x⟩ := by unfold setE; simp
          rw [e, show i + (j + 1) = i + 1 + j by omega]
          exact h5
      · rw [putsF, setsM, if_pos rfl]
        exact h4
theorem dsOk_get {t m i : Nat} : ∀ (l : List Oper) (k j : Nat) (o : Oper), dsOk t m i k l = true → l[j]? = some o → o.dst = some t → k + j = i ∨ m.testBit (k + j) = true := by
  intro l
  induction l with
  | nil => intro k j o _ h; cases h
  | cons x l ih =>
    intro k j o h hj hd
    simp only [dsOk, Bool.and_eq_true] at h
    cases j with
    | zero =>
      obtain rfl := Option.some.inj hj
      rw [hd] at h
      simp only [Bool.or_eq_true, Bool.not_eq_true'] at h
      rcases h.1 with (h1 | h1) | h1
      · rw [Nat.beq_refl] at h1; cases h1
      · exact .inl (Nat.eq_of_beq_eq_true h1)
      · exact .inr h1
    | succ j =>
      have := ih (k + 1) j o h.2 hj hd
      rw [show k + (j + 1) = k + 1 + j by omega]; exact this
theorem opsOk_get {l : List Oper} : ∀ (os : List Oper) (i j : Nat) (o : Oper), opsOk l ms i os = true → os[j]? = some o → ∀ t, Operand.tmp t ∈ o.op.operands.toList → dsOk t (ms.getD (i + j) 0) (i + j) 0 l = true := by
  intro os
  induction os with
  | nil => intro i j o _ h; cases h
  | cons x os ih =>
    intro i j o h hj t ht
    simp only [opsOk, Bool.and_eq_true] at h
    cases j with
    | zero =>
      obtain rfl := Option.some.inj hj
      exact List.all_eq_true.1 h.1 _ ht
    | succ j =>
      have := ih (i + 1) j o h.2 hj t ht
      rw [show i + (j + 1) = i + 1 + j by omega]; exact this
theorem gdsOk_get {ops l : List Oper} : ∀ (os : List Oper) (i j : Nat) (o : Oper), gdsOk ops l ms i os = true → os[j]? = some o → ∀ k want x d, o.guard = some (k, want) → ops[k]? = some x → x.dst = some d → dsOk d (ms.getD (i + j) 0) (i + j) 0 l = true := by
  intro os
  induction os with
  | nil => intro i j o _ h; cases h
  | cons x os ih =>
    intro i j o h hj k want y d hg hy hd
    simp only [gdsOk, Bool.and_eq_true] at h
    cases j with
    | zero =>
      obtain rfl := Option.some.inj hj
      have := h.1
      rw [hg] at this
      simp only [hy, hd] at this
      exact this
    | succ j =>
      have := ih (i + 1) j o h.2 hj k want y d hg hy hd
      rw [show i + (j + 1) = i + 1 + j by omega]; exact this
theorem noDst_get {d : Nat} : ∀ (l : List Oper) (j : Nat) (o : Oper), noDst d l = true → l[j]? = some o → o.dst ≠ some d := by
  intro l
  induction l with
  | nil => intro j o _ h; cases h
  | cons x l ih =>
    intro j o h hj hd
    simp only [noDst, Bool.and_eq_true] at h
    cases j with
    | zero =>
      obtain rfl := Option.some.inj hj
      rw [hd] at h
      simp at h
    | succ j => exact ih j o h.2 hj hd
theorem fullOk_get : ∀ (l : List Oper) (i j : Nat) (o : Oper), fullOk ms i l = true → l[j]? = some o → ∀ k, k < i + j → (ms.getD (i + j) 0).testBit k = true := by
  intro l
  induction l with
  | nil => intro i j o _ h; cases h
  | cons x l ih =>
    intro i j o h hj k hk
    simp only [fullOk, Bool.and_eq_true] at h
    cases j with
    | zero =>
      have e := Nat.eq_of_beq_eq_true h.1
      have h1 : ((ms.getD i 0) % 2 ^ i).testBit k = true := by rw [e, Nat.testBit_two_pow_sub_one]; exact decide_eq_true hk
      rw [Nat.testBit_mod_two_pow] at h1
      simp only [Bool.and_eq_true] at h1
      exact h1.2
    | succ j =>
      have := ih (i + 1) j o h.2 hj k (by omega)
      rw [show i + (j + 1) = i + 1 + j by omega]; exact this
theorem putsF_comm {f : Nat → Bool} {d : Nat} {r : SV} : ∀ (os : List Oper) (k : Nat) (rs : List SV) (fr : List SV), noDst d os = true → putsF f k os rs (fr.set d r) = (putsF f k os rs fr).set d r := by
  intro os
  induction os with
  | nil => intro k rs fr _; cases rs <;> rfl
  | cons o os ih =>
    intro k rs fr h
    simp only [noDst, Bool.and_eq_true] at h
    cases rs with
    | nil => rfl
    | cons q rs =>
      rw [putsF, putsF, ← ih (k + 1) rs _ h.2]
      congr 1
      split
      · cases hd : o.dst with
        | none => rfl
        | some e =>
          rw [hd] at h
          have hne : e ≠ d := fun x => by subst x; simp at h
          exact List.set_comm _ _ (Ne.symm hne)
      · rfl
theorem putsF_upd {f : Nat → Bool} {i : Nat} {o : Oper} {r : SV} : ∀ (os : List Oper) (k j : Nat) (rs : List SV) (fr : List SV), dstsOk os = true → os[j]? = some o → rs[j]? = some r → k + j = i → f i = false → putsF (upd f i) k os rs fr = setO (putsF f k os rs fr) o.dst r := by
  intro os
  induction os with
  | nil => intro k j rs fr _ h; cases h
  | cons x os ih =>
    intro k j rs fr hd ho hr hij hf
    simp only [dstsOk, Bool.and_eq_true] at hd
    cases rs with
    | nil => cases hr
    | cons q rs =>
      cases j with
      | zero =>
        obtain rfl := Option.some.inj ho
        obtain rfl := Option.some.inj hr
        rw [Nat.add_zero] at hij
        subst hij
        have e1 : upd f k k = true := by simp [upd]
        have e2 : ∀ (os : List Oper) (m : Nat) (rs : List SV) (fr : List SV), k < m → putsF (upd f k) m os rs fr = putsF f m os rs fr := by
          intro os
          induction os with
          | nil => intro m rs fr _; cases rs <;> rfl
          | cons y os ih2 =>
            intro m rs fr hm
            cases rs with
            | nil => rfl
            | cons z rs =>
              have : upd f k m = f m := by simp [upd]; omega
              rw [putsF, putsF, this]
              exact ih2 (m + 1) rs _ (by omega)
        rw [putsF, putsF, if_pos e1, if_neg (by rw [hf]; simp), e2 os (k + 1) rs _ (by omega)]
        cases hdst : x.dst with
        | none => rfl
        | some d =>
          rw [hdst] at hd
          exact putsF_comm os (k + 1) rs fr hd.1
      | succ j =>
        have e1 : upd f i k = f k := by simp [upd]; omega
        rw [putsF, putsF, e1]
        exact ih (k + 1) j rs _ hd.2 ho hr (by omega) hf
theorem setsM_upd {f : Nat → Bool} {i : Nat} {c : Option Cont} : ∀ (cs : List (Option Cont)) (k j : Nat) (M : Mm), cs[j]? = some c → k + j = i → f i = false → setsM m0 (upd f i) k cs M = (match c with
    | some x => (setsM m0 f k cs M).set (m0 + i) ⟨true, x⟩
    | none => setsM m0 f k cs M) := by
  intro cs
  induction cs with
  | nil => intro k j M h; cases h
  | cons y cs ih =>
    intro k j M hc hij hf
    cases j with
    | zero =>
      obtain rfl := Option.some.inj hc
      rw [Nat.add_zero] at hij
      subst hij
      have e2 : ∀ (cs : List (Option Cont)) (m : Nat) (M : Mm), k < m → setsM m0 (upd f k) m cs M = setsM m0 f m cs M := by
        intro cs
        induction cs with
        | nil => intro m M _; rfl
        | cons z cs ih2 =>
          intro m M hm
          have : upd f k m = f m := by simp [upd]; omega
          rw [setsM, setsM, this]
          exact ih2 (m + 1) _ (by omega)
      have e3 : ∀ (x : Cont) (cs : List (Option Cont)) (m : Nat) (M : Mm), k < m → setsM m0 f m cs (M.set (m0 + k) ⟨true, x⟩) = (setsM m0 f m cs M).set (m0 + k) ⟨true, x⟩ := by
        intro x cs
        induction cs with
        | nil => intro m M _; rfl
        | cons z cs ih2 =>
          intro m M hm
          rw [setsM, setsM, ← ih2 (m + 1) _ (by omega)]
          congr 1
          cases z with
          | none => rfl
          | some z =>
            unfold setE
            dsimp only
            split
            · exact List.set_comm _ _ (by omega)
            · rfl
      rw [setsM, setsM, e2 cs (k + 1) _ (by omega)]
      cases y with
      | none => rfl
      | some x =>
        have e4 : setE (m0 + k) (upd f k k) (some x) M = M.set (m0 + k) ⟨true, x⟩ := by unfold setE; simp [upd]
        have e5 : setE (m0 + k) (f k) (some x) M = M := by unfold setE; simp [hf]
        rw [e4, e5]
        exact e3 x cs (k + 1) M (by omega)
    | succ j =>
      have e1 : upd f i k = f k := by simp [upd]; omega
      rw [setsM, setsM, e1]
      exact ih (k + 1) j _ hc (by omega) hf
end
end Go.Proofs.Ytkjfecdpakhggaa
