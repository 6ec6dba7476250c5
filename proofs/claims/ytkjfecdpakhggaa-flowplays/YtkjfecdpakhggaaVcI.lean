/-
  A reckoner of conditions: each operation, as the model runs it, makes what is reckoned. No statement is proved here.
-/
import Derived.Test.YtkjfecdpakhggaaVcHr
namespace Go.Proofs.Ytkjfecdpakhggaa
open Go.RowKit
set_option linter.unusedVariables false
set_option linter.unusedSimpArgs false

/-- What an operation yields, and in which world. -/
def Yl (P : Program) (ρ : Operand → Value) (o : Oper) (W : World) (R : Value → World → Prop) : Prop :=
  (∃ v W', (execOp ρ o).run P W = .ok (.value v) W' ∧ R v W') ∨ (∃ W', (execOp ρ o).run P W = .ok .skip W' ∧ R undef W') ∨ (∃ f args, (execOp ρ o).run P W = .ok (.enter f args) W ∧ Calls P f args W fun e W' => ∃ v, e = .returned v ∧ R v W')
theorem Yl.wp {P : Program} {a : Act} {o : Oper} {W : World} {R : Value → World → Prop} {Q : Exit → Act → World → Prop} {K : Act → World → Prop} (h : Yl P a.eval o W R) (hK : ∀ v W', R v W' → K (a.put o.dst v) W') : o.wp P a W K Q := by
  unfold Oper.wp
  rcases h with ⟨v, W', h1, h2⟩ | ⟨W', h1, h2⟩ | ⟨f, args, h1, h2⟩
  · rw [h1]; exact hK _ _ h2
  · rw [h1]; exact hK _ _ h2
  · rw [h1]; exact h2.mono fun e W' ⟨v, he, hR⟩ => by subst he; exact hK _ _ hR
theorem Yl.mono {P : Program} {ρ : Operand → Value} {o : Oper} {W : World} {R R' : Value → World → Prop} (h : Yl P ρ o W R) (hR : ∀ v W', R v W' → R' v W') : Yl P ρ o W R' := by
  rcases h with ⟨v, W', h1, h2⟩ | ⟨W', h1, h2⟩ | ⟨f, args, h1, h2⟩
  · exact .inl ⟨v, W', h1, hR _ _ h2⟩
  · exact .inr (.inl ⟨W', h1, hR _ _ h2⟩)
  · exact .inr (.inr ⟨f, args, h1, h2.mono fun e W' ⟨v, he, h3⟩ => ⟨v, he, hR _ _ h3⟩⟩)
/-- What a call of a function answers. -/
def CallR (P : Program) (f : Nat) (args : Array Value) (W : World) (R : Value → World → Prop) : Prop :=
  (∃ v W', (callFunc f args).run P W = .ok (.value v) W' ∧ R v W') ∨ ((callFunc f args).run P W = .ok (.enter f args) W ∧ Calls P f args W fun e W' => ∃ v, e = .returned v ∧ R v W')
def PTok (P : Program) (nG : Mm) (T : PT) : Prop := ∀ f args acs r, T f args acs = some (true, r) → ∀ β M w, Rel nG β M w → SV.wf.wfs M.length args = true → acs = args.map (tgt M) → CallR P f (vals β args).toArray w (fun v w' => v = val β r ∧ Fp0 w w')
theorem run_v {P : Program} {w w' : World} {s : Sem Value} {x : Value} (h : s.run P w = .ok x w') : (do pure (Next.value (← s)) : Sem Next).run P w = .ok (.value x) w' := by
  rw [Sem.run_bind, h, Result.andThen_ok]; exact Sem.run_pure _ _ _
section
variable {P : Program} {nG : Mm} {β : Nat → Nat} {M : Mm} {w : World} {fr : List SV} {a : Act}
theorem ev_ok (hF : RelF β M.length fr a) (hR : Rel nG β M w) {l : List Operand} (hg : globOk nG.length l = true) : ∀ x ∈ l, ev fr x = .any ∨ ((ev fr x).wf M.length = true ∧ a.eval x = val β (ev fr x)) := by
  induction l with
  | nil => intro x hx; cases hx
  | cons y l ih =>
    intro x hx
    have hg' : globOk nG.length l = true := by
      cases y <;> simp only [globOk, Bool.and_eq_true] at hg <;> first | exact hg | exact hg.2
    rcases List.mem_cons.1 hx with rfl | hx
    · cases x with
      | tmp t =>
        show fr.getD t .any = .any ∨ _
        cases h : fr[t]? with
        | none => left; rw [List.getD_eq_getElem?_getD, h]; rfl
        | some y =>
          have e : fr.getD t .any = y := by rw [List.getD_eq_getElem?_getD, h]; rfl
          show fr.getD t .any = .any ∨ ((fr.getD t .any).wf M.length = true ∧ a.tmps.getD t undef = val β (fr.getD t .any))
          rw [e]
          exact hF.at' t y h
      | const c => exact .inr ⟨(ofConst_val β c).2.2 _, (ofConst_val β c).1.symm⟩
      | global g =>
        simp only [globOk, Bool.and_eq_true] at hg
        have hlt := blt_lt hg.1
        refine .inr ⟨by show Nat.blt g M.length = true; rw [Nat.blt_eq]; exact Nat.lt_of_lt_of_le hlt hR.gl, ?_⟩
        show Value.pointer (some ⟨g, 0, none⟩) = .pointer (some ⟨β g, 0, none⟩)
        rw [hR.glob g hlt]
      | func f => exact .inr ⟨rfl, rfl⟩
    · exact ih hg' x hx
theorem noAny_ne {xs : List SV} (h : noAny xs = true) : ∀ x ∈ xs, x ≠ .any := by
  induction xs with
  | nil => intro x hx; cases hx
  | cons y l ih =>
    simp only [noAny, Bool.and_eq_true, Bool.not_eq_true'] at h
    intro x hx
    rcases List.mem_cons.1 hx with rfl | hx
    · intro e; subst e; exact absurd h.1 (by decide)
    · exact ih h.2 x hx
theorem ev_all (hF : RelF β M.length fr a) (hR : Rel nG β M w) {l : List Operand} (hg : globOk nG.length l = true) (hn : noAny (l.map (ev fr)) = true) : l.map a.eval = vals β (l.map (ev fr)) ∧ SV.wf.wfs M.length (l.map (ev fr)) = true := by
  have h1 := ev_ok hF hR hg
  have h2 : ∀ x ∈ l, ((ev fr x).wf M.length = true ∧ a.eval x = val β (ev fr x)) := fun x hx => (h1 x hx).resolve_left (noAny_ne hn _ (List.mem_map_of_mem hx))
  refine ⟨?_, wfs_all.2 fun y hy => by obtain ⟨x, hx, rfl⟩ := List.mem_map.1 hy; exact (h2 x hx).1⟩
  rw [vals_map, List.map_map]
  exact List.map_congr_left fun x hx => (h2 x hx).2
theorem atC (hR : Rel nG β M w) (x : SV) : AtC β w x (tgt M x) := by
  cases x <;> try trivial
  · rename_i k off
    show (match M[k]? with
      | some e => e.c
      | none => Cont.gone).here = true → _
    intro h
    cases hk : M[k]? with
    | none => rw [hk] at h; cases h
    | some e =>
      rw [hk] at h
      simp only [tgt, hk]
      exact ⟨e.rw, hR.all k e hk h⟩
  · rename_i k off l c
    show (match M[k]? with
      | some e => e.c
      | none => Cont.gone).here = true → _
    intro h
    cases hk : M[k]? with
    | none => rw [hk] at h; cases h
    | some e =>
      rw [hk] at h
      simp only [tgt, hk]
      exact ⟨e.rw, hR.all k e hk h⟩
  · rename_i k base idx sz j
    show (match M[k]? with
      | some e => e.c
      | none => Cont.gone).here = true → _
    intro h
    cases hk : M[k]? with
    | none => rw [hk] at h; cases h
    | some e =>
      rw [hk] at h
      simp only [tgt, hk]
      exact ⟨e.rw, hR.all k e hk h⟩
  · rename_i k base eo sz len cap
    show (match M[k]? with
      | some e => e.c
      | none => Cont.gone).here = true → _
    intro h
    cases hk : M[k]? with
    | none => rw [hk] at h; cases h
    | some e =>
      rw [hk] at h
      simp only [tgt, hk]
      exact ⟨e.rw, hR.all k e hk h⟩
  · rename_i b k sz len cap
    show (match M[k]? with
      | some e => e.c
      | none => Cont.gone).here = true → _
    intro h
    cases hk : M[k]? with
    | none => rw [hk] at h; cases h
    | some e =>
      rw [hk] at h
      simp only [tgt, hk]
      exact ⟨e.rw, hR.all k e hk h⟩
  · rename_i k
    show (match M[k]? with
      | some e => e.c
      | none => Cont.gone).here = true → _
    intro h
    cases hk : M[k]? with
    | none => rw [hk] at h; cases h
    | some e =>
      rw [hk] at h
      simp only [tgt, hk]
      exact ⟨e.rw, hR.all k e hk h⟩
/-- What an operation makes that is reckoned as a value. -/
def OkQ (β : Nat → Nat) (w : World) (r : SV) (v : Value) (w' : World) : Prop := (r = .any ∨ v = val β r) ∧ Fp0 w w'
/-- .. as a new block, and a value that points to it. -/
def NewQ (β : Nat → Nat) (n : Nat) (w : World) (r : SV) (c : Cont) (v : Value) (w' : World) : Prop := ∃ b, w.heap.size ≤ b ∧ Fp0 w w' ∧ v = val (upd1 β n b) r ∧ Holds w' b true (c.cells β) c.shp
theorem ok_same {ρ : Operand → Value} {o : Oper} {r : SV} (h : (execOp ρ o).run P w = .ok (.value (val β r)) w) : Yl P ρ o w (OkQ β w r) := .inl ⟨_, _, h, .inr rfl, Fp.refl _ w⟩
theorem holds_new {c : Cont} {t : Nat} {cs : Array Value} (hc : cs.toList = c.cells β) (hs : ∀ s, c.shp = some s → s = (t, (c.cells β).length)) : Holds (w.alloc (.cells cs t)) w.heap.size true (c.cells β) c.shp := by
  have h := Holds.new w cs t
  rw [hc] at h
  exact ⟨h.lt, h.cell, h.free, fun s h2 => by rw [hs s h2]; exact h.shp _ rfl, h.iv, fun hr _ => h.fz hr rfl⟩
theorem qmake_shp {P : Program} {t n : Nat} {x y r : SV} {c : Cont} (hq : qmake P t n x y = .new true r c) : c.shp = none := by
  unfold qmake at hq
  split at hq
  · rename_i e a b _ _ _
    generalize (isInt P .u8 e && Nat.beq (sizeT P e) 1 && zIs P .u8 e 1) = b1 at hq
    generalize (isInt P .u64 e && Nat.beq (sizeT P e) 1 && zIs P .u64 e 8) = b2 at hq
    generalize zF P e = b3 at hq
    cases b1
    · cases b2
      · cases b3
        · cases hq
        · simp only [cond_false, cond_true, QR.new.injEq] at hq
          obtain ⟨-, -, rfl⟩ := hq; rfl
      · simp only [cond_false, cond_true, QR.new.injEq] at hq
        obtain ⟨-, -, rfl⟩ := hq; rfl
    · simp only [cond_true, QR.new.injEq] at hq
      obtain ⟨-, -, rfl⟩ := hq; rfl
  · cases hq
theorem qbuildSlice_shp {P : Program} {t len n : Nat} {parts : List (Nat × Operand)} {xs : List SV} {r : SV} {c : Cont} (hq : qbuildSlice P t len n parts xs = .new true r c) : c.shp = none := by
  unfold qbuildSlice at hq
  split at hq
  · rename_i e _
    generalize (Nat.beq (sizeT P e) 1 && zeroCells P e 1 && inOrder 0 parts && Nat.beq xs.length len && Nat.ble len 1000) = bb at hq
    cases bb
    · cases hq
    · simp only [cond_true] at hq
      repeat' split at hq
      all_goals first
        | (cases hq; done)
        | (cases hq; rfl)
  · cases hq
theorem new_ptr {ρ : Operand → Value} {o : Oper} {c : Cont} {n t : Nat} {cs : Array Value} (h : (execOp ρ o).run P w = .ok (.value (.pointer (some ⟨w.heap.size, 0, none⟩))) (w.alloc (.cells cs t))) (hc : cs.toList = c.cells β) (hs : ∀ s, c.shp = some s → s = (t, (c.cells β).length)) : Yl P ρ o w (NewQ β n w (.ptr n 0) c) :=
  .inl ⟨_, _, h, w.heap.size, Nat.le_refl _, Fp.alloc w _, by simp [val, upd1], holds_new hc hs⟩
theorem new_sl {ρ : Operand → Value} {o : Oper} {c : Cont} {n t l m : Nat} {cs : Array Value} (h : (execOp ρ o).run P w = .ok (.value (.slice (some ⟨w.heap.size, 0, none⟩) l m)) (w.alloc (.cells cs t))) (hc : cs.toList = c.cells β) (hs : c.shp = none) : Yl P ρ o w (NewQ β n w (.sl n 0 l m) c) :=
  .inl ⟨_, _, h, w.heap.size, Nat.le_refl _, Fp.alloc w _, by simp [val, upd1], holds_new hc (fun s h => by rw [hs] at h; cases h)⟩
theorem call_run {ρ : Operand → Value} {o : Oper} {c : Call} {f : Operand} {g : Nat} {caps : List Value} (ho : o.op = .call c) (hc : c.callee = .value f) (hf : ρ f = .func (.func g) #[] caps.toArray) (R : Value → World → Prop) (h : CallR P g ((c.args.toList.map ρ) ++ caps).toArray w R) : Yl P ρ o w R := by
  have e : (execOp ρ o).run P w = (callFunc g ((c.args.toList.map ρ) ++ caps).toArray).run P w := by
    unfold execOp
    simp only [ho]
    have : (c.args.map ρ) ++ caps.toArray = ((c.args.toList.map ρ) ++ caps).toArray := by
      apply Array.ext'; simp
    simp [resolve, hc, hf, Deferred.ofValue, invoke, this]
  rcases h with ⟨v, W', h1, h2⟩ | ⟨h1, h2⟩
  · exact .inl ⟨v, W', e.trans h1, h2⟩
  · exact .inr (.inr ⟨_, _, e.trans h1, h2⟩)
theorem call_runF {ρ : Operand → Value} {o : Oper} {c : Call} {f : Operand} {g : Nat} {first : List Value} (ho : o.op = .call c) (hc : c.callee = .value f) (hf : ρ f = .func (.func g) first.toArray #[]) (R : Value → World → Prop) (h : CallR P g (first ++ (c.args.toList.map ρ)).toArray w R) : Yl P ρ o w R := by
  have e : (execOp ρ o).run P w = (callFunc g (first ++ (c.args.toList.map ρ)).toArray).run P w := by
    unfold execOp
    simp only [ho]
    have : first.toArray ++ (c.args.map ρ) = (first ++ (c.args.toList.map ρ)).toArray := by
      apply Array.ext'; simp
    simp [resolve, hc, hf, Deferred.ofValue, invoke, this]
  rcases h with ⟨v, W', h1, h2⟩ | ⟨h1, h2⟩
  · exact .inl ⟨v, W', e.trans h1, h2⟩
  · exact .inr (.inr ⟨_, _, e.trans h1, h2⟩)
theorem plain_tgt (M : Mm) {x : SV} (h : plainV x = true) : tgt M x = .gone := by cases x <;> first | rfl | cases h
theorem plain_tgts (M : Mm) : ∀ {l : List SV}, l.all plainV = true → l.map (tgt M) = l.map (fun _ => Cont.gone)
  | [], _ => rfl
  | x :: l, h => by
    simp only [List.all_cons, Bool.and_eq_true] at h
    rw [List.map_cons, List.map_cons, plain_tgt M h.1, plain_tgts M h.2]
theorem qcore0_ok {T : PT} (hT : PTok P nG T) (hF : RelF β M.length fr a) (hR : Rel nG β M w) {o : Oper} {xs : List SV} {cs : List Cont} (hx : xs = o.op.operands.toList.map (ev fr)) (hcs : cs = xs.map (tgt M)) (hg : globOk nG.length o.op.operands.toList = true) (hn : isMove o.op = true ∨ noAny xs = true) {r : SV} {n : Nat}
    (hq : qcore0 P T n o.op xs cs = .ok true r) : Yl P a.eval o w (OkQ β w r) := by
  by_cases hm : isMove o.op = true
  · have mv : ∀ x : Operand, o.op.operands = #[x] → ev fr x = r → (execOp a.eval o).run P w = .ok (.value (a.eval x)) w → Yl P a.eval o w (OkQ β w r) := fun x hops hr he =>
      .inl ⟨_, _, he, ((ev_ok hF hR hg) x (by rw [hops]; simp)).imp (fun h => hr ▸ h) (fun h => hr ▸ h.2), Fp.refl _ w⟩
    cases hop : o.op <;> rw [hop] at hm <;> simp only [isMove, Bool.false_eq_true] at hm
    · rename_i x
      rw [hop] at hq hx
      simp only [Op.operands, List.map_cons, List.map_nil] at hx
      rw [hx] at hq
      simp only [qcore0, QR.ok.injEq, true_and] at hq
      exact mv x (by rw [hop]; rfl) hq (by unfold execOp; simp only [hop]; exact Sem.run_pure _ _ _)
    · rename_i x
      rw [hop] at hq hx
      simp only [Op.operands, List.map_cons, List.map_nil] at hx
      rw [hx] at hq
      simp only [qcore0, QR.ok.injEq, true_and] at hq
      exact mv x (by rw [hop]; rfl) hq (by unfold execOp; simp only [hop]; exact Sem.run_pure _ _ _)
    · rename_i c x y
      have h1 := ev_ok hF hR hg
      rw [hop] at hq hx h1
      simp only [Op.operands, List.map_cons, List.map_nil] at hx
      subst hx
      simp only [qcore0] at hq
      split at hq
      · rename_i t p q he
        simp only [List.cons.injEq, and_true] at he
        obtain ⟨e1, e2, e3⟩ := he
        have hc := ((h1 c (by simp [Op.operands])).resolve_left (by rw [e1]; exact fun e => nomatch e)).2
        rw [e1] at hc
        have hx' : p = .any ∨ a.eval x = val β p := by
          have := h1 x (by simp [Op.operands]); rw [e2] at this; exact this.imp id (·.2)
        have hy' : q = .any ∨ a.eval y = val β q := by
          have := h1 y (by simp [Op.operands]); rw [e3] at this; exact this.imp id (·.2)
        have := qpick_ok β hq hx' hy'
        refine .inl ⟨_, _, ?_, this, Fp.refl _ w⟩
        unfold execOp
        simp only [hop, hc]
        cases t <;> rfl
      · cases hq
  · have hn' := hn.resolve_left hm
    rw [hx] at hn'
    have h1 := ev_ok hF hR hg
    have ne := noAny_ne hn'
    have hv : ∀ x ∈ o.op.operands.toList, a.eval x = val β (ev fr x) := fun x hm => ((h1 x hm).resolve_left (ne _ (List.mem_map_of_mem hm))).2
    obtain ⟨hall, hwfs⟩ := ev_all hF hR hg hn'
    clear ne h1
    subst hcs
    cases hop : o.op <;> rw [hop] at hq hx hv hall hwfs hm <;> try (simp only [qcore0, reduceCtorEq] at hq; done)
    case move => exact absurd rfl hm
    case assign => exact absurd rfl hm
    case pick => exact absurd rfl hm
    case alloc t =>
      simp only [qcore0, qalloc_eq] at hq
      split at hq <;> cases hq
    case box t x =>
      simp only [qcore0] at hq
      repeat' split at hq
      all_goals cases hq
    case load t x =>
      simp only [Op.operands, List.map_cons, List.map_nil] at hx
      subst hx
      simp only [qcore0] at hq
      split at hq
      · rename_i k off c he hc
        simp only [List.cons.injEq, and_true] at he
        simp only [List.map_cons, List.map_nil, List.cons.injEq, and_true] at hc
        cases hp : Nat.blt 0 (sizeT P t)
        · rw [hp] at hq; cases hq
        · rw [hp] at hq
          have := qloadT_ok (w := w) β (k := k) (hc ▸ he ▸ atC hR (ev fr x)) (blt_lt hp) hq
          refine ok_same ?_
          unfold execOp
          simp only [hop, hv x (by simp [Op.operands]), he]
          exact run_v this
      · cases hq
    case sliceToArrayPointer t x =>
      simp only [Op.operands, List.map_cons, List.map_nil] at hx
      subst hx
      simp only [qcore0, qarr] at hq
      split at hq
      · rename_i n e hu
        split at hq
        · rename_i k off len cap he
          simp only [QR.ok.injEq] at hq
          obtain ⟨h1, rfl⟩ := hq
          have h1 := Nat.le_of_ble_eq_true h1
          refine ok_same ?_
          unfold execOp
          simp only [hop, hv x (by simp [Op.operands]), he, val]
          refine run_v ?_
          simp [Instr.arrayAt, run_underlying hu, Nat.not_lt.2 h1]
        · cases hq
      · cases hq
    case nilCheck x =>
      simp only [Op.operands, List.map_cons, List.map_nil] at hx
      subst hx
      simp only [qcore0] at hq
      split at hq
      · rename_i k off he
        simp only [List.cons.injEq, and_true] at he
        simp only [QR.ok.injEq, true_and] at hq
        subst hq
        refine ok_same ?_
        unfold execOp
        simp only [hop, hv x (by simp [Op.operands]), he, val]
        exact Sem.run_pure _ _ _
      · cases hq
    case binOp op t x y t2 =>
      simp only [Op.operands, List.map_cons, List.map_nil] at hx
      subst hx
      simp only [qcore0] at hq
      have : (do eqGuard op t x y (val β (ev fr x)) (val β (ev fr y)); binOp op t (val β (ev fr x)) (val β (ev fr y)) : Sem Value).run P w = .ok (val β r) w := by
        split at hq
        · exact qnil_ok (P := P) (w := w) β op t x y _ _ r hq
        · rename_i c' r' hb
          simp only [QR.ok.injEq] at hq
          obtain ⟨rfl, rfl⟩ := hq
          exact qbin_ok (P := P) (w := w) β op t x y _ _ _ hb
        · cases hq
      refine ok_same ?_
      unfold execOp
      simp only [hop, hv x (by simp [Op.operands]), hv y (by simp [Op.operands])]
      exact run_v this
    case fieldAddr t x f =>
      simp only [Op.operands, List.map_cons, List.map_nil] at hx
      subst hx
      simp only [qcore0] at hq
      have := qfield_ok (P := P) (w := w) β hq
      refine ok_same ?_
      unfold execOp
      simp only [hop, hv x (by simp [Op.operands])]
      exact run_v this
    case unOp op t x =>
      simp only [Op.operands, List.map_cons, List.map_nil] at hx
      subst hx
      simp only [qcore0] at hq
      have := qun_ok (P := P) (w := w) β op _ r hq
      refine ok_same ?_
      unfold execOp
      simp only [hop, hv x (by simp [Op.operands])]
      exact run_v this
    case convert src dst x =>
      simp only [Op.operands, List.map_cons, List.map_nil] at hx
      subst hx
      simp only [qcore0, List.map_cons, List.map_nil] at hq
      have := qconv_ok (P := P) (w := w) β src dst _ _ r (atC hR (ev fr x)) hq
      refine ok_same ?_
      unfold execOp
      simp only [hop, hv x (by simp [Op.operands])]
      exact run_v this
    case makeFunc f first caps =>
      simp only [qcore0] at hq
      split at hq
      · rename_i g
        cases hf : first.isEmpty
        · rw [hf] at hq
          simp only [cond_false] at hq
          cases hcp : caps.isEmpty
          · rw [hcp] at hq; cases hq
          · rw [hcp] at hq
            simp only [cond_true, QR.ok.injEq, true_and] at hq
            subst hq
            have hc' : caps = #[] := by simpa using hcp
            subst hc'
            refine ok_same ?_
            unfold execOp
            simp only [hop]
            have e : first.map a.eval = (vals β xs).toArray := by
              rw [hx, ← hall]; apply Array.ext'; simp [Op.operands]
            simp [e, val, Instr.makeFunc]
        · rw [hf] at hq
          simp only [cond_true, QR.ok.injEq, true_and] at hq
          subst hq
          have hf' : first = #[] := by simpa using hf
          subst hf'
          refine ok_same ?_
          unfold execOp
          simp only [hop]
          have e : caps.map a.eval = (vals β xs).toArray := by
            rw [hx, ← hall]; apply Array.ext'; simp [Op.operands]
          simp [e, val, Instr.makeFunc]
      · cases hq
    case makeSlice t x y =>
      simp only [qcore0] at hq
      split at hq
      · unfold qmake at hq
        repeat' split at hq
        all_goals first
          | cases hq
          | (generalize (isInt P .u8 _ && Nat.beq (sizeT P _) 1 && zIs P .u8 _ 1) = b1 at hq; generalize (isInt P .u64 _ && Nat.beq (sizeT P _) 1 && zIs P .u64 _ 8) = b2 at hq; generalize zF P _ = b3 at hq; cases b1 <;> cases b2 <;> cases b3 <;> cases hq)
      · cases hq
    case slice t x lo hi mx =>
      have hx0 : a.eval x = val β (ev fr x) := hv x (by simp [Op.operands])
      have fin : ∀ (l h : Option SV), lo.map a.eval = l.map (val β) → hi.map a.eval = h.map (val β) → mx = none → qslice P t (ev fr x) l h = .ok true r → Yl P a.eval o w (OkQ β w r) := fun l h hlo hhi hmx hq2 => by
        subst hmx
        have := qslice_ok (P := P) (w := w) β hq2
        refine ok_same ?_
        unfold execOp
        simp only [hop, hx0, hlo, hhi]
        exact run_v this
      cases mx with
      | some y =>
        cases lo with
        | none =>
          cases hi with
          | none => cases hq
          | some b =>
            simp [Op.operands] at hx
            subst hx
            have := qslice3n_ok (P := P) (w := w) β hq
            refine ok_same ?_
            unfold execOp
            simp only [hop, hx0, Option.map_some, Option.map_none, hv b (by simp [Op.operands]), hv y (by simp [Op.operands])]
            exact run_v this
        | some c =>
          cases hi with
          | none => cases hq
          | some b =>
            simp [Op.operands] at hx
            subst hx
            have := qslice3_ok (P := P) (w := w) β hq
            refine ok_same ?_
            unfold execOp
            simp only [hop, hx0, Option.map_some, hv c (by simp [Op.operands]), hv b (by simp [Op.operands]), hv y (by simp [Op.operands])]
            exact run_v this
      | none =>
        cases lo with
        | none =>
          cases hi with
          | none =>
            simp [Op.operands] at hx
            subst hx
            exact fin none none rfl rfl rfl hq
          | some b =>
            simp [Op.operands] at hx
            subst hx
            exact fin none (some (ev fr b)) rfl (congrArg some (hv b (by simp [Op.operands]))) rfl hq
        | some c =>
          cases hi with
          | none =>
            simp [Op.operands] at hx
            subst hx
            exact fin (some (ev fr c)) none (congrArg some (hv c (by simp [Op.operands]))) rfl rfl hq
          | some b =>
            simp [Op.operands] at hx
            subst hx
            exact fin (some (ev fr c)) (some (ev fr b)) (congrArg some (hv c (by simp [Op.operands]))) (congrArg some (hv b (by simp [Op.operands]))) rfl hq
    case field t x f =>
      simp only [Op.operands, List.map_cons, List.map_nil] at hx
      subst hx
      simp only [qcore0] at hq
      have := qfieldV_ok (P := P) (w := w) β hq
      refine ok_same ?_
      unfold execOp
      simp only [hop, hv x (by simp [Op.operands])]
      exact run_v this
    case index t x y =>
      simp only [Op.operands, List.map_cons, List.map_nil] at hx
      subst hx
      simp only [qcore0] at hq
      have := qindex_ok (P := P) (w := w) β hq
      refine ok_same ?_
      unfold execOp
      simp only [hop, hv x (by simp [Op.operands]), hv y (by simp [Op.operands])]
      exact run_v this
    case indexAddr t x y =>
      simp only [Op.operands, List.map_cons, List.map_nil] at hx
      subst hx
      simp only [qcore0] at hq
      have := qixaddr_ok (P := P) (w := w) β hq
      refine ok_same ?_
      unfold execOp
      simp only [hop, hv x (by simp [Op.operands]), hv y (by simp [Op.operands])]
      exact run_v this
    case buildSlice t len parts =>
      simp only [qcore0] at hq
      exact absurd hq qbuildSlice_no
    case build t parts =>
      simp only [qcore0] at hq
      have hp : parts.toList.map (fun x => a.eval x.2) = vals β xs := by
        rw [hx, ← hall]; simp [Op.operands]
      have := qbuild_ok (P := P) (w := w) β a.eval parts hp hq
      refine ok_same ?_
      unfold execOp
      simp only [hop]
      exact run_v this
    case extract x j =>
      simp only [Op.operands, List.map_cons, List.map_nil] at hx
      subst hx
      simp only [qcore0] at hq
      split at hq
      · rename_i l he
        simp only [List.cons.injEq, and_true] at he
        split at hq
        · rename_i y hy
          simp only [QR.ok.injEq, true_and] at hq
          subst hq
          refine ok_same ?_
          unfold execOp
          simp only [hop, hv x (by simp [Op.operands]), he, val]
          exact run_v (by simp [Instr.extract, vals_map, hy])
        · cases hq
      · cases hq
    case call c =>
      simp only [qcore0] at hq
      split at hq
      · rename_i b hcal
        split at hq
        · split at hq
          · rename_i t x ht
            have hcl : c.args.toList.map a.eval = vals β [x] := by
              rw [← hx] at hall
              simpa [Op.operands, Call.operands, hcal] using hall
            have hargs : c.args.map a.eval = #[val β x] := by
              apply Array.ext'
              simpa [vals] using hcl
            have hty : ∃ rest, c.argTypes.toList = t :: rest := by
              cases hl : c.argTypes.toList with
              | nil => simp [← Array.getElem?_toList, hl] at ht
              | cons u rest => simp [← Array.getElem?_toList, hl] at ht; exact ⟨rest, by rw [ht]⟩
            have := qlen_ok (P := P) (w := w) β (t2 := o.type) hq
            refine ok_same ?_
            unfold execOp
            simp only [hop]
            simp [resolve, hcal, hargs, invoke, builtin]
            have e : (Builtin.len_ c.argTypes o.type #[val β x]).run P w = (Builtin.len_ #[t] o.type #[val β x]).run P w := by
              unfold Builtin.len_
              rw [ht]; rfl
            rw [e, this]
            rfl
          · cases hq
        · split at hq
          · rename_i t x ht
            have hcl : c.args.toList.map a.eval = vals β [x] := by
              rw [← hx] at hall
              simpa [Op.operands, Call.operands, hcal] using hall
            have hargs : c.args.map a.eval = #[val β x] := by
              apply Array.ext'
              simpa [vals] using hcl
            have := qcap_ok (P := P) (w := w) β (t2 := o.type) hq
            refine ok_same ?_
            unfold execOp
            simp only [hop]
            simp [resolve, hcal, hargs, invoke, builtin]
            have e : (Builtin.cap_ c.argTypes o.type #[val β x]).run P w = (Builtin.cap_ #[t] o.type #[val β x]).run P w := by
              unfold Builtin.cap_
              rw [ht]; rfl
            rw [e, this]
            rfl
          · cases hq
        · have hargs : c.args.map a.eval = (vals β xs).toArray := by
            rw [hx, ← hall]; apply Array.ext'; simp [Op.operands, Call.operands, hcal]
          have := qmin_ok (P := P) (w := w) β (ts := c.argTypes) (ty := o.type) hq
          refine ok_same ?_
          unfold execOp
          simp only [hop]
          simp only [resolve, hcal, hargs, invoke, builtin]
          simp [this]
        · have hargs : c.args.map a.eval = (vals β xs).toArray := by
            rw [hx, ← hall]; apply Array.ext'; simp [Op.operands, Call.operands, hcal]
          have := qsdata_ok (P := P) (w := w) β (ts := c.argTypes) (ty := o.type) hq
          refine ok_same ?_
          unfold execOp
          simp only [hop]
          simp only [resolve, hcal, hargs, invoke, builtin]
          simp [this]
        · cases hq
      · rename_i f hcal
        unfold qcall at hq
        split at hq
        · rename_i g caps args c0 acs hc2
          split at hq
          · split at hq
            · rename_i cc rr hT2
              simp only [QR.ok.injEq] at hq
              obtain ⟨rfl, rfl⟩ := hq
              simp only [List.map_cons, List.cons.injEq] at hc2
              have hops : (Op.call c).operands.toList = f :: c.args.toList := by simp [Op.operands, Call.operands, hcal]
              rw [hops] at hx hall hwfs hv
              simp only [List.map_cons, List.cons.injEq] at hx
              obtain ⟨e1, e2⟩ := hx
              have hf : a.eval f = .func (.func g) #[] ([] : List Value).toArray := by rw [hv f (by simp), ← e1]; rfl
              simp only [List.map_cons, vals, List.cons.injEq] at hall
              simp only [List.map_cons, SV.wf.wfs, Bool.and_eq_true] at hwfs
              have := hT g args acs _ hT2 β M w hR (by rw [e2]; exact hwfs.2) hc2.2.symm
              exact (call_run hop hcal hf (fun v w' => v = val β rr ∧ Fp0 w w') (by rw [List.append_nil, hall.2, ← e2]; exact this)).mono fun v w' h => ⟨.inr h.1, h.2⟩
            · cases hq
          · rename_i kc oc
            split at hq
            · rename_i cc rr hT2
              simp only [QR.ok.injEq] at hq
              obtain ⟨rfl, rfl⟩ := hq
              simp only [List.map_cons, List.cons.injEq] at hc2
              have hops : (Op.call c).operands.toList = f :: c.args.toList := by simp [Op.operands, Call.operands, hcal]
              rw [hops] at hx hall hwfs hv
              simp only [List.map_cons, List.cons.injEq] at hx
              obtain ⟨e1, e2⟩ := hx
              have hf : a.eval f = .func (.func g) #[] (vals β [SV.ptr kc oc]).toArray := by rw [hv f (by simp), ← e1]; rfl
              simp only [List.map_cons, vals, List.cons.injEq] at hall
              simp only [List.map_cons, SV.wf.wfs, Bool.and_eq_true] at hwfs
              rw [← e1, ← e2] at hwfs
              have hw2 : SV.wf.wfs M.length (args ++ [SV.ptr kc oc]) = true := wfs_all.2 fun y hy => (List.mem_append.1 hy).elim (wfs_all.1 hwfs.2 y) (wfs_all.1 hwfs.1 y)
              have := hT g (args ++ [SV.ptr kc oc]) (acs ++ [c0]) _ hT2 β M w hR hw2 (by rw [List.map_append, ← hc2.2, ← hc2.1]; rfl)
              refine (call_run hop hcal hf (fun v w' => v = val β rr ∧ Fp0 w w') (by rw [hall.2, ← e2]; rw [vals_map, List.map_append, ← vals_map, ← vals_map] at this; exact this)).mono fun v w' h => ⟨.inr h.1, h.2⟩
            · cases hq
          · cases hq
        · rename_i g first args c0 acs hc2
          cases hpl : first.all plainV <;> rw [hpl] at hq
          · cases hq
          · simp only [cond_true] at hq
            split at hq
            · rename_i cc rr hT2
              simp only [QR.ok.injEq] at hq
              obtain ⟨rfl, rfl⟩ := hq
              simp only [List.map_cons, List.cons.injEq] at hc2
              have hops : (Op.call c).operands.toList = f :: c.args.toList := by simp [Op.operands, Call.operands, hcal]
              rw [hops] at hx hall hwfs hv
              simp only [List.map_cons, List.cons.injEq] at hx
              obtain ⟨e1, e2⟩ := hx
              have hf : a.eval f = .func (.func g) (vals β first).toArray #[] := by rw [hv f (by simp), ← e1]; rfl
              simp only [List.map_cons, vals, List.cons.injEq] at hall
              simp only [List.map_cons, SV.wf.wfs, Bool.and_eq_true] at hwfs
              rw [← e1, ← e2] at hwfs
              have hw2 : SV.wf.wfs M.length (first ++ args) = true := wfs_all.2 fun y hy => (List.mem_append.1 hy).elim (wfs_all.1 hwfs.1 y) (wfs_all.1 hwfs.2 y)
              have := hT g (first ++ args) _ _ hT2 β M w hR hw2 (by rw [List.map_append, ← hc2.2, plain_tgts M hpl])
              refine (call_runF hop hcal hf (fun v w' => v = val β rr ∧ Fp0 w w') (by rw [hall.2, ← e2]; rw [vals_map, List.map_append, ← vals_map, ← vals_map] at this; exact this)).mono fun v w' h => ⟨.inr h.1, h.2⟩
            · cases hq
        · cases hq
      · cases hq
theorem qcore0_new {T : PT} (hF : RelF β M.length fr a) (hR : Rel nG β M w) {o : Oper} {xs : List SV} {cs : List Cont} (hx : xs = o.op.operands.toList.map (ev fr)) (hg : globOk nG.length o.op.operands.toList = true) (hn : isMove o.op = true ∨ noAny xs = true) {r : SV} {c : Cont} {n : Nat}
    (hq : qcore0 P T n o.op xs cs = .new true r c) : Yl P a.eval o w (NewQ β n w r c) := by
  have nb : ∀ (op : BinOp) (x y : SV), qbin op x y ≠ .new true r c := by
    intro op x y h
    have hw : ∀ {n : Nat} (mk : BitVec n → SV) (a b : BitVec n), wop mk op a b ≠ .new true r c := fun mk a b h => by cases op <;> cases h
    have hi : ∀ (a b : Int), iop op a b ≠ .new true r c := fun a b h => by cases op <;> cases h
    have hs : ∀ a b, sop op a b ≠ .new true r c := fun a b h => by cases op <;> cases h
    have hc : ∀ (b : Bool) x y, (bif b then icmp op x y else QR.no) ≠ .new true r c := fun b x y h => by cases b <;> cases op <;> cases h
    have h1 : ∀ {n : Nat} (mk : BitVec n → SV) (l : Bool) (a : BitVec n) (y : SV), wsh mk l a y ≠ .new true r c := fun mk l a y h => by
      unfold wsh at h
      split at h
      · cases l <;> cases h
      · cases h
    have h2 : ∀ (l : Bool) (a : Int) (y : SV), ish l a y ≠ .new true r c := fun l a y h => by
      unfold ish at h
      split at h
      · cases l <;> cases h
      · cases h
    unfold qbin at h
    repeat' split at h
    all_goals first | cases h | exact hw _ _ _ h | exact hi _ _ h | exact hs _ _ h | exact hc _ _ _ h | exact h1 _ _ _ _ h | exact h2 _ _ _ h
  have nk : ∀ (k : IntKind) (x : SV), toKind k x ≠ .new true r c := by
    intro k x h
    unfold toKind at h
    repeat' split at h
    all_goals cases h
  cases hop : o.op <;> rw [hop] at hq hx <;> try (simp only [qcore0, reduceCtorEq] at hq; done)
  case move x => simp only [qcore0] at hq; split at hq <;> cases hq
  case assign x => simp only [qcore0] at hq; split at hq <;> cases hq
  case pick c x y =>
    simp only [qcore0] at hq
    split at hq
    · unfold qpick at hq; split at hq <;> cases hq
    · cases hq
  case alloc t =>
    simp only [qcore0, qalloc_eq] at hq
    split at hq
    · rename_i c' hz
      simp only [QR.new.injEq, true_and] at hq
      obtain ⟨rfl, rfl⟩ := hq
      obtain ⟨cs', h1, h2⟩ := alloc_ok (P := P) (w := w) β hz
      refine new_ptr (t := t) (cs := cs') ?_ (by rw [tyC_cells]; exact h2) (fun s hs => by rw [tyC_cells]; exact tyC_shp β t _ (zc_shp hz) s hs)
      unfold execOp
      simp only [hop]
      exact run_v h1
    · cases hq
  case box t x =>
    simp only [Op.operands, List.map_cons, List.map_nil] at hx
    subst hx
    simp only [qcore0] at hq
    split at hq
    · rename_i c' hz
      simp only [QR.new.injEq, true_and] at hq
      obtain ⟨rfl, rfl⟩ := hq
      obtain ⟨cs', h1, h2⟩ := box_ok (P := P) (w := w) (t := t) β hz
      have hne : ev fr x ≠ .any := fun e => by rw [e] at hz; cases hz
      have hv := ((ev_ok hF hR hg) x (by simp [hop, Op.operands])).resolve_left hne
      refine new_ptr (t := t) ?_ h2 (fun s hs => by rw [boxc_shp hz] at hs; cases hs)
      unfold execOp
      simp only [hop, hv.2]
      exact run_v h1
    · cases hq
  case load t x =>
    simp only [qcore0] at hq
    split at hq
    · rename_i k off c'
      cases hb : Nat.blt 0 (sizeT P t) <;> rw [hb] at hq
      · cases hq
      · exact (qloadT_old hq).elim
    · cases hq
  case nilCheck x => simp only [qcore0] at hq; split at hq <;> cases hq
  case sliceToArrayPointer t x =>
    simp only [qcore0] at hq
    split at hq
    · unfold qarr at hq
      repeat' split at hq
      all_goals cases hq
    · cases hq
  case binOp op t x y t2 =>
    simp only [qcore0] at hq
    split at hq
    · split at hq
      · have n2 : ∀ (neg : Bool) (a b : Option Bool), qnil2 neg a b ≠ .new true r c := fun neg a b h => by unfold qnil2 at h; split at h <;> cases h
        have n4 : ∀ (neg : Bool) (x y : SV), qbool neg x y ≠ .new true r c := fun neg x y h => by unfold qbool at h; split at h <;> cases h
        have n5 : ∀ (t n e : Nat) (neg : Bool) (x y : SV), qeq64 P t n e neg x y ≠ .new true r c := fun t n e neg x y h => by unfold qeq64 at h; split at h <;> cases h
        have n3 : ∀ (e : Nat) (neg : Bool) (x y : SV), qptr P e neg x y ≠ .new true r c := fun e neg x y h => by
          unfold qptr at h
          split at h
          · cases h
          · exact n2 _ _ _ h
        unfold qnil at hq
        split at hq
        · unfold qnil1 at hq; split at hq <;> first | exact absurd hq (n2 _ _ _) | exact absurd hq (n3 _ _ _ _) | exact absurd hq (n4 _ _ _) | exact absurd hq (n5 _ _ _ _ _ _) | cases hq
        · unfold qnil1 at hq; split at hq <;> first | exact absurd hq (n2 _ _ _) | exact absurd hq (n3 _ _ _ _) | exact absurd hq (n4 _ _ _) | exact absurd hq (n5 _ _ _ _ _ _) | cases hq
        · cases hq
      · cases hq
      · cases hq
    · cases hq
  case fieldAddr t x f =>
    simp only [qcore0] at hq
    split at hq
    · unfold qfield at hq
      repeat' split at hq
      all_goals cases hq
    · cases hq
  case unOp op t x =>
    simp only [qcore0] at hq
    split at hq
    · unfold qun at hq; split at hq <;> cases hq
    · cases hq
  case convert src dst x =>
    simp only [qcore0] at hq
    split at hq
    · unfold qconv at hq
      repeat' split at hq
      all_goals first | cases hq | exact absurd hq (nk _ _)
    · cases hq
  case makeFunc f first caps =>
    simp only [qcore0] at hq
    split at hq
    · cases hf : first.isEmpty <;> rw [hf] at hq
      · cases hcp : caps.isEmpty <;> rw [hcp] at hq <;> cases hq
      · cases hq
    · cases hq
  case makeSlice t x y =>
    simp only [Op.operands, List.map_cons, List.map_nil] at hx
    subst hx
    simp only [qcore0] at hq
    have hn' : noAny [ev fr x, ev fr y] = true := hn.resolve_left (by rw [hop]; simp [isMove])
    have ne := noAny_ne hn'
    have h1 := ev_ok hF hR hg
    have hvx := ((h1 x (by simp [hop, Op.operands])).resolve_left (ne _ (by simp))).2
    have hvy := ((h1 y (by simp [hop, Op.operands])).resolve_left (ne _ (by simp))).2
    have hsh := qmake_shp hq
    obtain ⟨cs', e, l, m, h2, h3, h4⟩ := qmake_ok (P := P) (w := w) β hq
    have hrun : (execOp a.eval o).run P w = .ok (.value (.slice (some ⟨w.heap.size, 0, none⟩) l m)) (w.alloc (.cells cs' e)) := by
      unfold execOp
      simp only [hop, hvx, hvy]
      exact run_v h2
    rcases h4 with rfl | rfl
    · exact new_sl (t := e) hrun h3 hsh
    · exact .inl ⟨_, _, hrun, w.heap.size, Nat.le_refl _, Fp.alloc w _, by simp [val, upd1], holds_new h3 (fun s h => by rw [hsh] at h; cases h)⟩
  case slice t x lo hi mx =>
    simp only [qcore0, qslice, qslice3, qslice3n] at hq
    repeat' split at hq
    all_goals cases hq
  case field t x f =>
    simp only [qcore0] at hq
    split at hq
    · unfold qfieldV at hq
      repeat' split at hq
      all_goals first | cases hq | (rename_i d _; cases hr : isRowT P d.type <;> rw [hr] at hq <;> cases hq)
    · cases hq
  case index t x y =>
    simp only [qcore0] at hq
    split at hq
    · unfold qindex at hq
      repeat' split at hq
      all_goals first | cases hq | (rename_i e _ _; cases hr : isRowT P e <;> rw [hr] at hq <;> cases hq)
    · cases hq
  case indexAddr t x y =>
    simp only [qcore0] at hq
    split at hq
    · unfold qixaddr at hq
      repeat' split at hq
      all_goals first | cases hq | (revert hq; cases Nat.beq (sizeT P _) 1 <;> intro hq <;> cases hq)
    · cases hq
  case buildSlice t len parts =>
    simp only [qcore0] at hq
    have hn' : noAny xs = true := hn.resolve_left (by rw [hop]; simp [isMove])
    rw [hx] at hn'
    obtain ⟨hall, -⟩ := ev_all hF hR (l := (Op.buildSlice t len parts).operands.toList) (by rw [← hop]; exact hg) hn'
    have hp : parts.toList.map (fun x => a.eval x.2) = vals β xs := by
      rw [hx, ← hall]; simp [Op.operands]
    have hsh := qbuildSlice_shp hq
    obtain ⟨cs', e, h2, h3, rfl⟩ := qbuildSlice_ok (P := P) (w := w) β a.eval parts hp hq
    refine new_sl (t := e) ?_ h3 hsh
    unfold execOp
    simp only [hop]
    exact run_v h2
  case build t parts =>
    simp only [qcore0, qbuild] at hq
    split at hq
    · rename_i n e hu
      generalize (Nat.beq (sizeT P e) 1 && zeroCells P t n && inOrder 0 parts.toList && Nat.beq xs.length n) = bb at hq
      cases bb
      · simp only [cond_false] at hq
        generalize (Nat.beq (sizeT P e) 1 && zeroCells P t n && inOrder 0 parts.toList && Nat.ble xs.length n) = bb at hq
        cases bb
        · simp only [cond_false] at hq
          split at hq
          · generalize Nat.blt 0 (sizeT P e) = bb at hq
            cases bb
            · cases hq
            · simp only [cond_true] at hq
              repeat' split at hq
              all_goals cases hq
          · cases hq
        · simp only [cond_true] at hq
          repeat' split at hq
          all_goals cases hq
      · simp only [cond_true] at hq
        repeat' split at hq
        all_goals cases hq
    · rename_i fs hu
      generalize (fs.toList.all fun f => sized P f.type) = bb at hq
      cases bb
      · cases hq
      · simp only [cond_true] at hq
        repeat' split at hq
        all_goals cases hq
    · cases hq
  case extract x j =>
    simp only [qcore0] at hq
    repeat' split at hq
    all_goals cases hq
  case call cc =>
    simp only [qcore0] at hq
    split at hq
    · repeat' split at hq
      all_goals first
        | cases hq
        | (unfold qlen at hq; split at hq <;> cases hq)
        | (unfold qcap at hq; split at hq <;> cases hq)
        | (unfold qmin at hq; split at hq <;> cases hq)
        | (unfold qsdata at hq; split at hq <;> cases hq)
    · unfold qcall at hq
      repeat' split at hq
      all_goals first
        | cases hq
        | (generalize List.all _ plainV = b1 at hq; cases b1 <;> cases hq)
    · cases hq
theorem new_rs {ρ : Operand → Value} {o : Oper} {c : Cont} {n t sz l m : Nat} {cs : Array Value} (h : (execOp ρ o).run P w = .ok (.value (.slice (some ⟨w.heap.size, 0, none⟩) l m)) (w.alloc (.cells cs t))) (hc : cs.toList = c.cells β) (hs : c.shp = some (t, (c.cells β).length)) : Yl P ρ o w (NewQ β n w (.rs n 0 0 sz l m) c) :=
  .inl ⟨_, _, h, w.heap.size, Nat.le_refl _, Fp.alloc w _, by simp [val, upd1], holds_new hc (fun s h => by rw [hs] at h; exact (Option.some.inj h).symm)⟩
theorem qrec_move {ty : Bool} {n : Nat} {op : Op} {xs : List SV} {cs : List Cont} (h : isMove op = true) : qrec P ty n op xs cs = .no := by
  cases op <;> first | rfl | cases h
theorem qrec_ok (hF : RelF β M.length fr a) (hR : Rel nG β M w) {o : Oper} {xs : List SV} {cs : List Cont} (hx : xs = o.op.operands.toList.map (ev fr)) (hcs : cs = xs.map (tgt M)) (hg : globOk nG.length o.op.operands.toList = true) (hn : isMove o.op = true ∨ noAny xs = true) {r : SV} {ty : Bool} {n : Nat}
    (hq : qrec P ty n o.op xs cs = .ok true r) : Yl P a.eval o w (OkQ β w r) := by
  by_cases hm : isMove o.op = true
  · rw [qrec_move hm] at hq; cases hq
  · have hn' := hn.resolve_left hm
    rw [hx] at hn'
    have h1 := ev_ok hF hR hg
    have ne := noAny_ne hn'
    have hv : ∀ x ∈ o.op.operands.toList, a.eval x = val β (ev fr x) := fun x hm => ((h1 x hm).resolve_left (ne _ (List.mem_map_of_mem hm))).2
    obtain ⟨hall, hwfs⟩ := ev_all hF hR hg hn'
    clear ne h1
    subst hcs
    cases hop : o.op <;> rw [hop] at hq hx hv hall hwfs hm <;> try (simp only [qrec, reduceCtorEq] at hq; done)
    case load t x =>
      simp only [Op.operands, List.map_cons, List.map_nil] at hx
      subst hx
      simp only [qrec] at hq
      split at hq
      · rename_i k base idx sz j ty fs pre l he hc
        simp only [List.cons.injEq, and_true] at he
        simp only [List.map_cons, List.map_nil, List.cons.injEq, and_true] at hc
        have := qloadR_ok (w := w) β (k := k) (j := j) (ty := ty) (hc ▸ he ▸ atC hR (ev fr x)) hq
        refine ok_same ?_
        unfold execOp
        simp only [hop, hv x (by simp [Op.operands]), he]
        exact run_v this
      · rename_i k base idx sz j b ty fs l he hc
        simp only [List.cons.injEq, and_true] at he
        simp only [List.map_cons, List.map_nil, List.cons.injEq, and_true] at hc
        have := qloadN_ok (w := w) β (k := k) (j := j) (ty := ty) (hc ▸ he ▸ atC hR (ev fr x)) hq
        refine ok_same ?_
        unfold execOp
        simp only [hop, hv x (by simp [Op.operands]), he]
        exact run_v this
      · cases hq
    case nilCheck x =>
      simp only [Op.operands, List.map_cons, List.map_nil] at hx
      subst hx
      simp only [qrec] at hq
      split at hq
      · rename_i k base idx sz j he
        simp only [List.cons.injEq, and_true] at he
        simp only [QR.ok.injEq, true_and] at hq
        subst hq
        refine ok_same ?_
        unfold execOp
        simp only [hop, hv x (by simp [Op.operands]), he, val]
        exact Sem.run_pure _ _ _
      · cases hq
    case fieldAddr t x f =>
      simp only [Op.operands, List.map_cons, List.map_nil] at hx
      subst hx
      simp only [qrec] at hq
      split at hq
      · rename_i k base idx sz j he
        simp only [List.cons.injEq, and_true] at he
        have := qfieldR_ok (P := P) (w := w) β hq
        refine ok_same ?_
        unfold execOp
        simp only [hop, hv x (by simp [Op.operands]), he]
        exact run_v this
      · cases hq
    case indexAddr t x y =>
      simp only [Op.operands, List.map_cons, List.map_nil] at hx
      subst hx
      simp only [qrec] at hq
      split at hq
      · rename_i k base eo sz len cap y' he
        simp only [List.cons.injEq, and_true] at he
        have := qixR_ok (P := P) (w := w) β (cap := cap) hq
        refine ok_same ?_
        unfold execOp
        simp only [hop, hv x (by simp [Op.operands]), hv y (by simp [Op.operands]), he.1, he.2]
        exact run_v this
      · rename_i b k sz len cap y' he
        simp only [List.cons.injEq, and_true] at he
        have := qixN_ok (P := P) (w := w) β (cap := cap) hq
        refine ok_same ?_
        unfold execOp
        simp only [hop, hv x (by simp [Op.operands]), hv y (by simp [Op.operands]), he.1, he.2]
        exact run_v this
      · cases hq
    case slice t x lo hi mx =>
      have hx0 : a.eval x = val β (ev fr x) := hv x (by simp [Op.operands])
      have fin : ∀ (l h : Option SV), lo.map a.eval = l.map (val β) → hi.map a.eval = h.map (val β) → mx = none → qslR P t (ev fr x) l h = .ok true r → Yl P a.eval o w (OkQ β w r) := fun l h hlo hhi hmx hq2 => by
        subst hmx
        have := qslR_ok (P := P) (w := w) β hq2
        refine ok_same ?_
        unfold execOp
        simp only [hop, hx0, hlo, hhi]
        exact run_v this
      cases mx with
      | some y => cases hq
      | none =>
        cases lo with
        | none =>
          cases hi with
          | none =>
            simp [Op.operands] at hx
            subst hx
            exact fin none none rfl rfl rfl hq
          | some b =>
            simp [Op.operands] at hx
            subst hx
            exact fin none (some (ev fr b)) rfl (congrArg some (hv b (by simp [Op.operands]))) rfl hq
        | some c =>
          cases hi with
          | none =>
            simp [Op.operands] at hx
            subst hx
            exact fin (some (ev fr c)) none (congrArg some (hv c (by simp [Op.operands]))) rfl rfl hq
          | some b =>
            simp [Op.operands] at hx
            subst hx
            exact fin (some (ev fr c)) (some (ev fr b)) (congrArg some (hv c (by simp [Op.operands]))) (congrArg some (hv b (by simp [Op.operands]))) rfl hq
    case binOp op t x y t2 =>
      simp only [Op.operands, List.map_cons, List.map_nil] at hx
      subst hx
      have key : ∀ neg : Bool, op = (bif neg then .neq else .eql) → qcmpR P t neg [ev fr x, ev fr y] = .ok true r → Yl P a.eval o w (OkQ β w r) := fun neg ho hc => by
        have := qcmpR_ok (P := P) (w := w) β (xo := x) (yo := y) hc
        refine ok_same ?_
        unfold execOp
        simp only [hop, hv x (by simp [Op.operands]), hv y (by simp [Op.operands]), ho]
        exact run_v this
      simp only [qrec] at hq
      split at hq
      · exact key false rfl hq
      · exact key true rfl hq
      · cases hq
    case buildSlice t len parts =>
      simp only [qrec, qbuildR] at hq
      split at hq
      · rename_i e _
        cases hst : isStructT P e <;> rw [hst] at hq
        · cases hq
        · simp only [cond_true] at hq
          repeat' split at hq
          all_goals cases hq
      · cases hq
    case makeSlice t x y =>
      simp only [qrec] at hq
      split at hq
      · unfold qmakeT at hq
        split at hq
        · rename_i e _ _ _ _ _
          generalize (isInt P .u8 e && Nat.beq (sizeT P e) 1 && zIs P .u8 e 1) = b1 at hq
          cases b1 <;> cases hq
        · cases hq
      · cases hq
    case call c =>
      simp only [qrec] at hq
      split at hq
      · rename_i b hcal
        have one : ∀ x, xs = [x] → c.args.map a.eval = #[val β x] := fun x hxs => by
          have hcl : c.args.toList.map a.eval = vals β [x] := by
            rw [← hxs, hx, ← hall]; simp [Op.operands, Call.operands, hcal]
          apply Array.ext'
          simpa [vals] using hcl
        split at hq
        · split at hq
          · rename_i k s _
            cases hwas : s.was
            rotate_left
            · rw [hwas] at hq; cases hq
            rw [hwas, cond_false] at hq
            unfold qlenM at hq
            split at hq
            · rename_i t ht
              split at hq
              · rename_i kt vt hu
                simp only [QR.ok.injEq, true_and] at hq
                subst hq
                have hat : AtC β w (.mp k) (.res s) := by
                  have h0 := atC hR (SV.mp k)
                  have : tgt M (.mp k) = .res s := by
                    rename_i he0 _ _
                    simp only [List.map_cons, List.map_nil, List.cons.injEq, and_true] at he0
                    exact he0
                  rw [this] at h0; exact h0
                obtain ⟨r0, h2, h3⟩ := hat rfl
                have h3' : RIn ((s.mb, .map (s.es.map EntE.entry).toArray s.clk) :: []) w := by
                  have h3 : RIn s.objs w := h3
                  unfold St.objs at h3
                  rw [hwas] at h3
                  exact h3
                have h4 := h3'.all _ (List.mem_cons_self ..)
                refine ok_same ?_
                unfold execOp
                simp only [hop]
                simp [resolve, hcal, one _ rfl, invoke, builtin]
                have : (Builtin.len_ c.argTypes o.type #[val β (.mp k)]).run P w = .ok (val β (.i (s.len : Nat))) w := by
                  unfold Builtin.len_
                  rw [ht]
                  have h5 : w.heap[β k]? = some (.map (s.es.map EntE.entry).toArray s.clk) := by rw [h2]; exact h4
                  simp [run_underlying hu, val, goInt, getObj, Sem.run, h5, St.len]
                rw [this]; rfl
              · cases hq
            · cases hq
          rename_i hno
          clear hno
          unfold qlenR at hq
          split at hq
          · rename_i t k base eo sz len cap ht
            cases hr : slT P t <;> rw [hr] at hq
            · cases hq
            · simp only [cond_true, QR.ok.injEq, true_and] at hq
              subst hq
              obtain ⟨e, hu⟩ := slT_ok hr
              refine ok_same ?_
              unfold execOp
              simp only [hop]
              simp [resolve, hcal, one _ rfl, invoke, builtin]
              have : (Builtin.len_ c.argTypes o.type #[val β (.rs k base eo sz len cap)]).run P w = .ok (val β (.i (len : Nat))) w := by
                unfold Builtin.len_
                rw [ht]
                simp [run_underlying hu, val, goInt]
              rw [this]; rfl
          · rename_i t b k sz len cap ht
            cases hr : recT P t <;> rw [hr] at hq
            · cases hq
            · simp only [cond_true, QR.ok.injEq] at hq
              obtain ⟨hb, rfl⟩ := hq
              obtain ⟨e, hu⟩ := recT_ok hr
              refine ok_same ?_
              unfold execOp
              simp only [hop]
              simp [resolve, hcal, one _ rfl, invoke, builtin]
              have : (Builtin.len_ c.argTypes o.type #[val β (.ns b k sz len cap)]).run P w = .ok (val β (.i (len : Nat))) w := by
                unfold Builtin.len_
                rw [ht]
                cases b
                · simp [run_underlying hu, val, goInt]
                · have h0 : len = 0 := Nat.eq_of_beq_eq_true hb
                  subst h0
                  simp [run_underlying hu, val, goInt]
              rw [this]; rfl
          · cases hq
        · split at hq
          · rename_i t k base eo sz len cap ht
            cases hr : recT P t <;> rw [hr] at hq
            · cases hq
            · simp only [cond_true, QR.ok.injEq, true_and] at hq
              subst hq
              obtain ⟨e, hu⟩ := recT_ok hr
              refine ok_same ?_
              unfold execOp
              simp only [hop]
              simp [resolve, hcal, one _ rfl, invoke, builtin]
              have : (Builtin.cap_ c.argTypes o.type #[val β (.rs k base eo sz len cap)]).run P w = .ok (val β (.i (cap : Nat))) w := by
                unfold Builtin.cap_
                rw [ht]
                simp [run_underlying hu, val, goInt]
              rw [this]; rfl
          · cases hq
        · have hargs : c.args.map a.eval = (vals β xs).toArray := by
            rw [hx, ← hall]; apply Array.ext'; simp [Op.operands, Call.operands, hcal]
          have := qmax_ok (P := P) (w := w) β (ts := c.argTypes) (ty := o.type) hq
          refine ok_same ?_
          unfold execOp
          simp only [hop]
          simp only [resolve, hcal, hargs, invoke, builtin]
          simp [this]
        · cases hq
      · cases hq
theorem qrec_new (hF : RelF β M.length fr a) (hR : Rel nG β M w) {o : Oper} {xs : List SV} {cs : List Cont} (hx : xs = o.op.operands.toList.map (ev fr)) (hg : globOk nG.length o.op.operands.toList = true) (hn : isMove o.op = true ∨ noAny xs = true) {r : SV} {c : Cont} {ty : Bool} {n : Nat}
    (hq : qrec P ty n o.op xs cs = .new true r c) : Yl P a.eval o w (NewQ β n w r c) := by
  cases hop : o.op <;> rw [hop] at hq hx <;> try (simp only [qrec, reduceCtorEq] at hq; done)
  case load t x =>
    simp only [qrec] at hq
    split at hq
    · unfold qloadR at hq
      generalize (known P t && Nat.blt 0 (sizeT P t)) = b1 at hq
      generalize isRowT P t = b2 at hq
      cases b1 <;> cases b2 <;> simp only [cond_true, cond_false] at hq
      all_goals first | cases hq | (split at hq <;> cases hq)
    · exact (also_new hq).elim
    · cases hq
  case nilCheck x => simp only [qrec] at hq; split at hq <;> cases hq
  case fieldAddr t x f =>
    simp only [qrec] at hq
    split at hq
    · unfold qfieldR at hq
      repeat' split at hq
      all_goals cases hq
    · cases hq
  case indexAddr t x y =>
    simp only [qrec] at hq
    split at hq
    · unfold qixR at hq
      split at hq <;> cases hq
    · exact (also_new hq).elim
    · cases hq
  case slice t x lo hi mx =>
    have key : ∀ (x : SV) (l h : Option SV), qslR P t x l h ≠ .new true r c := fun x l h e => by
      unfold qslR at e
      split at e
      · unfold qsliceR at e
        repeat' split at e
        all_goals cases e
      · cases hb : recT P t <;> rw [hb] at e
        · cases e
        · simp only [cond_true, qsliceN] at e
          split at e <;> cases e
      · cases e
    simp only [qrec] at hq
    repeat' split at hq
    all_goals first | cases hq | exact absurd hq (key _ _ _)
  case binOp op t x y t2 =>
    have key : ∀ (neg : Bool), qcmpR P t neg xs ≠ .new true r c := fun neg e => by
      unfold qcmpR qeqR qeq8 at e
      repeat' split at e
      all_goals cases e
    simp only [qrec] at hq
    split at hq
    · exact absurd hq (key _)
    · exact absurd hq (key _)
    · cases hq
  case buildSlice t len parts =>
    simp only [qrec] at hq
    have hn' : noAny xs = true := hn.resolve_left (by rw [hop]; simp [isMove])
    rw [hx] at hn'
    obtain ⟨hall, -⟩ := ev_all hF hR (l := (Op.buildSlice t len parts).operands.toList) (by rw [← hop]; exact hg) hn'
    have hp : parts.toList.map (fun x => a.eval x.2) = vals β xs := by
      rw [hx, ← hall]; simp [Op.operands]
    obtain ⟨cs', e, sz, h2, h3, rfl, h4⟩ := qbuildR_ok (P := P) (w := w) β a.eval parts hp hq
    refine new_rs (t := e) ?_ h3 h4
    unfold execOp
    simp only [hop]
    exact run_v h2
  case makeSlice t x y =>
    simp only [Op.operands, List.map_cons, List.map_nil] at hx
    subst hx
    simp only [qrec] at hq
    split at hq
    · rename_i x' y' he
      simp only [List.cons.injEq, and_true] at he
      have hn' : noAny [ev fr x, ev fr y] = true := hn.resolve_left (by rw [hop]; simp [isMove])
      have ne := noAny_ne hn'
      have h1 := ev_ok hF hR hg
      have hvx := ((h1 x (by simp [hop, Op.operands])).resolve_left (ne _ (by simp))).2
      have hvy := ((h1 y (by simp [hop, Op.operands])).resolve_left (ne _ (by simp))).2
      obtain ⟨cs', e, l, m, h2, h3, rfl, h4⟩ := qmakeT_ok (P := P) (w := w) β hq
      refine .inl ⟨.slice (some ⟨w.heap.size, 0, none⟩) l m, w.alloc (.cells cs' e), ?_, w.heap.size, Nat.le_refl _, Fp.alloc w _, by simp [val, upd1], holds_new h3 (fun s h => by rw [h4] at h; exact (Option.some.inj h).symm)⟩
      unfold execOp
      simp only [hop, hvx, hvy, he.1, he.2]
      exact run_v h2
    · cases hq
  case call cc =>
    simp only [qrec] at hq
    split at hq
    · repeat' split at hq
      all_goals first
        | cases hq
        | (unfold qlenM at hq; split at hq <;> first | (split at hq <;> cases hq) | cases hq)
        | (rename_i t _ _ _ _ _ _ _; cases hr : recT P t <;> rw [hr] at hq <;> cases hq)
        | (unfold qmax at hq; split at hq <;> cases hq)
        | (rename_i hno; clear hno; unfold qlenR at hq; split at hq <;> first | cases hq | (rename_i t _ _ _ _ _ _ _; cases hr : slT P t <;> rw [hr] at hq <;> cases hq) | (rename_i t _ _ _ _ _ _; cases hr : recT P t <;> rw [hr] at hq <;> cases hq))
    · cases hq
theorem qcore_ok {T : PT} (hT : PTok P nG T) (hF : RelF β M.length fr a) (hR : Rel nG β M w) {o : Oper} {xs : List SV} {cs : List Cont} (hx : xs = o.op.operands.toList.map (ev fr)) (hcs : cs = xs.map (tgt M)) (hg : globOk nG.length o.op.operands.toList = true) (hn : isMove o.op = true ∨ noAny xs = true) {r : SV} {n : Nat}
    (hq : qcore P T n o.op xs cs = .ok true r) : Yl P a.eval o w (OkQ β w r) := by
  unfold qcore at hq
  split at hq
  · exact qcore0_ok hT hF hR hx hcs hg hn hq
  · rename_i c' r' he
    simp only [QR.ok.injEq] at hq
    obtain ⟨rfl, rfl⟩ := hq
    exact qrec_ok hF hR hx hcs hg hn he
  · cases hq
theorem qcore_new {T : PT} (hF : RelF β M.length fr a) (hR : Rel nG β M w) {o : Oper} {xs : List SV} {cs : List Cont} (hx : xs = o.op.operands.toList.map (ev fr)) (hg : globOk nG.length o.op.operands.toList = true) (hn : isMove o.op = true ∨ noAny xs = true) {r : SV} {c : Cont} {n : Nat}
    (hq : qcore P T n o.op xs cs = .new true r c) : Yl P a.eval o w (NewQ β n w r c) := by
  unfold qcore at hq
  split at hq
  · exact qcore0_new hF hR hx hg hn hq
  · cases hq
  · rename_i c' r' x' he
    simp only [QR.new.injEq] at hq
    obtain ⟨rfl, rfl, rfl⟩ := hq
    exact qrec_new hF hR hx hg hn he
end
end Go.Proofs.Ytkjfecdpakhggaa
