/-
  A reckoner of conditions: what is reckoned of an operation, of a row of operations, of code holds of the model's run. No statement is proved here.
-/
import Derived.Test.YtkjfecdpakhggaaVcKr
namespace Go.Proofs.Ytkjfecdpakhggaa
open Go.RowKit
set_option linter.unusedVariables false
set_option linter.unusedSimpArgs false

def CTok (P : Program) (nG : Mm) (C : CT) : Prop := ∀ f args M K, C f args M K → ∀ β w, Rel nG β M w → SV.wf.wfs M.length args = true → CallR P f (vals β args).toArray w (fun v w' => ∃ β' M' r, Ext β M w β' M' w' ∧ Rel nG β' M' w' ∧ (r.wf M'.length = true ∧ v = val β' r) ∧ K r M')
/-- What is said of other operations. -/
def HTok (P : Program) (nG : Mm) (H : HT) : Prop := ∀ (o : Oper) xs M K, H o.op xs M K → ∀ (ρ : Operand → Value) β w, Rel nG β M w → o.op.operands.toList.map ρ = vals β xs → SV.wf.wfs M.length xs = true → Yl P ρ o w (OutQ nG β M w K)
theorem noH_ok (P : Program) (nG : Mm) : HTok P nG noH := fun _ _ _ _ h => h.elim
structure EnvOk (P : Program) (E : Env) : Prop where
  T : PTok P E.G E.T
  C : CTok P E.G E.C
  H : HTok P E.G E.H := by exact noH_ok _ _
theorem vals_append (β : Nat → Nat) (l m : List SV) : vals β (l ++ m) = vals β l ++ vals β m := by simp [vals_map]
theorem wfs_append {n : Nat} {l m : List SV} (h1 : SV.wf.wfs n l = true) (h2 : SV.wf.wfs n m = true) : SV.wf.wfs n (l ++ m) = true := wfs_all.2 fun x hx => (List.mem_append.1 hx).elim (wfs_all.1 h1 x) (wfs_all.1 h2 x)
section
variable {P : Program} {E : Env} {β : Nat → Nat} {M : Mm} {w : World} {fr : List SV} {a : Act}
theorem vq_ok (hE : EnvOk P E) (hF : RelF β M.length fr a) (hR : Rel E.G β M w) {o : Oper} {xs : List SV} {cs : List Cont} (hx : xs = o.op.operands.toList.map (ev fr)) (hcs : cs = xs.map (tgt M)) (hg : globOk E.G.length o.op.operands.toList = true) (hn : isMove o.op = true ∨ noAny xs = true) {K : SV → Mm → Prop}
    (h : vq M.length M (qcore P E.T M.length o.op xs cs) K) : Yl P a.eval o w (OutQ E.G β M w K) := by
  unfold vq at h
  split at h
  · exact h.elim
  · rename_i c r hq
    replace h := vsome_iff.1 h
    obtain ⟨hc, h⟩ := h
    rw [forceK_eq] at h
    simp only [Bool.and_eq_true, Bool.or_eq_true] at hc
    obtain ⟨hr, rfl⟩ := hc
    refine (qcore_ok hE.T hF hR hx hcs hg hn hq).mono fun v w' hv => ⟨β, M, r, Ext.step hv.2, hR.step hv.2, ?_, h⟩
    rcases hv.1 with e | e
    · exact .inl e
    · rcases hr with q | q
      · left; cases r <;> first | rfl | cases q
      · exact .inr ⟨q, e⟩
  · rename_i c r x hq
    replace h := vsome_iff.1 h
    obtain ⟨hc, h⟩ := h
    rw [snocK_eq, forceK_eq] at h
    simp only [Bool.and_eq_true] at hc
    obtain ⟨⟨⟨hr, hxw⟩, hxf⟩, rfl⟩ := hc
    have hxh := fresh_here hxf
    refine (qcore_new (T := E.T) (cs := cs) hF hR hx hg hn hq).mono fun v w' hv => ?_
    obtain ⟨b, hb, hfp, hv, hh⟩ := hv
    obtain ⟨h1, h2⟩ := hR.more hfp hb hxw hh (fresh_not hxf)
    exact ⟨_, _, r, h2, h1, .inr ⟨by rw [len_app]; exact hr, hv⟩, h⟩
theorem hook_move {op : Op} (h : hookable op = true) : isMove op = false := by cases op <;> first | rfl | cases h
theorem vqH_ok (hE : EnvOk P E) (hF : RelF β M.length fr a) (hR : Rel E.G β M w) {o : Oper} {xs : List SV} {cs : List Cont} (hx : xs = o.op.operands.toList.map (ev fr)) (hcs : cs = xs.map (tgt M)) (hg : globOk E.G.length o.op.operands.toList = true) (hn : isMove o.op = true ∨ noAny xs = true) {K : SV → Mm → Prop}
    (h : vqH E.H o.op xs M (qcore P E.T M.length o.op xs cs) K) : Yl P a.eval o w (OutQ E.G β M w K) := by
  unfold vqH at h
  split at h
  · rename_i hq
    obtain ⟨hm, h⟩ := vsome_iff.1 h
    have hn' : noAny xs = true := hn.resolve_left fun hm' => by rw [hook_move hm] at hm'; cases hm'
    subst hx
    obtain ⟨hall, hwfs⟩ := ev_all hF hR hg hn'
    exact hE.H o _ M K h a.eval β w hR hall hwfs
  · exact vq_ok hE hF hR hx hcs hg hn h
theorem vqH_okL (hE : EnvOk P E) (hF : RelF β M.length fr a) (hR : Rel E.G β M w) {o : Oper} {xs : List SV} {cs : List Cont} (hx : xs = o.op.operands.toList.map (ev fr)) (hcs : cs = xs.map (tgt M)) (hg : globOk E.G.length o.op.operands.toList = true) (hn : isMove o.op = true ∨ noAny xs = true) {K : SV → Mm → Prop}
    {b : BinOp} (h : vqH E.H o.op xs M (loose E.T b (qcore P E.T M.length o.op xs cs)) K) : Yl P a.eval o w (OutQ E.G β M w K) := by
  have no : vqH E.H o.op xs M .no K → Yl P a.eval o w (OutQ E.G β M w K) := fun h => by
    obtain ⟨hm, h⟩ := vsome_iff.1 h
    have hn' : noAny xs = true := hn.resolve_left fun hm' => by rw [hook_move hm] at hm'; cases hm'
    subst hx
    obtain ⟨hall, hwfs⟩ := ev_all hF hR hg hn'
    exact hE.H o _ M K h a.eval β w hR hall hwfs
  unfold loose at h
  split at h
  · cases hq : (E.T 1000003 [] []).isSome <;> rw [hq] at h
    · exact vqH_ok hE hF hR hx hcs hg hn h
    · exact no h
  · exact vqH_ok hE hF hR hx hcs hg hn h
theorem bi_run {ρ : Operand → Value} {o : Oper} {c : Call} {b : Builtin} {v : Value} {w' : World} (ho : o.op = .call c) (hc : c.callee = .builtin b) (s : Sem Value) (hb : ∀ consts, builtin b c.argTypes o.type consts (c.args.map ρ) = (do pure (Next.value (← s)))) (h : s.run P w = .ok v w') (R : Value → World → Prop) (hR : R v w') : Yl P ρ o w R := by
  refine .inl ⟨v, w', ?_, hR⟩
  unfold execOp
  simp only [ho]
  simp [resolve, hc, invoke, hb, h]
theorem vstep_ok (hE : EnvOk P E) (hF : RelF β M.length fr a) (hR : Rel E.G β M w) {o : Oper} {K : SV → Mm → Prop} (h : vstep P E o fr M K) : Yl P a.eval o w (OutQ E.G β M w K) := by
  unfold vstep at h
  rw [evsK_eq] at h
  replace h := vsome_iff.1 h
  obtain ⟨hc, h⟩ := h
  simp only [Bool.and_eq_true, Bool.or_eq_true] at hc
  obtain ⟨hg, hn⟩ := hc
  split at h
  · rename_i t x y hop
    have hn' : noAny (o.op.operands.toList.map (ev fr)) = true := hn.resolve_left (by rw [hop]; simp [isMove])
    obtain ⟨hall, hwfs⟩ := ev_all hF hR hg hn'
    rw [hop] at hall
    simp only [hop, Op.operands, List.map_cons, List.map_nil] at h hall
    split at h
    · rename_i k off v he
      simp only [List.cons.injEq, and_true] at he
      split at h
      · rename_i c hk
        split at h
        · rename_i b c' hq
          replace h := vsome_iff.1 h
          obtain ⟨hcs, h⟩ := h
          simp only [Bool.and_eq_true] at hcs
          obtain ⟨⟨hp, hw⟩, rfl⟩ := hcs
          rw [setK_eq] at h
          have hhere : c.here = true := by
            cases c <;> first | rfl | (unfold qstore at hq; simp at hq)
          have hhere' : c'.here = true := by
            unfold qstore at hq
            split at hq <;> first
              | (simp only [Option.some.injEq, Prod.mk.injEq] at hq; obtain ⟨-, rfl⟩ := hq; rfl)
              | (rename_i q; cases hb : (oneCell v || nilV v) <;> rw [hb] at hq <;> simp at hq; obtain ⟨-, rfl⟩ := hq; rfl)
              | cases hq
          obtain ⟨vs, h1, h2⟩ := qstore_ok (P := P) (w := w) β (k := k) (blt_lt hp) ((At_of (by cases c <;> first | rfl | (unfold qstore at hq; simp at hq))).1 (hR.all k _ hk hhere)) hq
          have hres : c.isRes = false := by
            cases c <;> first | rfl | (unfold qstore at hq; simp at hq)
          have hres' : c'.isRes = false := by
            unfold qstore at hq
            split at hq <;> first
              | (simp only [Option.some.injEq, Prod.mk.injEq] at hq; obtain ⟨-, rfl⟩ := hq; rfl)
              | (rename_i q; cases hb : (oneCell v || nilV v) <;> rw [hb] at hq <;> simp at hq; obtain ⟨-, rfl⟩ := hq; rfl)
              | cases hq
          obtain ⟨h3, h4⟩ := hR.set (w' := w.setCells (β k) off vs) (c' := c') hk hhere (Fp.setCells _ _ _ _) hw (fun _ => h2) hres hres'
          refine .inr (.inl ⟨w.setCells (β k) off vs, ?_, β, _, .any, h4, h3, .inl rfl, h⟩)
          simp only [vals, List.cons.injEq, and_true, he.1, he.2, val] at hall
          unfold execOp
          simp only [hop, hall.1, hall.2]
          rw [Sem.run_bind, h1, Result.andThen_ok]
          exact Sem.run_pure _ _ _
        · exact h.elim
      · exact h.elim
    · rename_i k base idx sz j v he
      simp only [List.cons.injEq, and_true] at he
      obtain ⟨w', M', h1, h2, h3, h4⟩ := vstoreR_ok (P := P) (w := w) (β := β) hR h
      refine .inr (.inl ⟨w', ?_, β, M', .any, h2, h3, .inl rfl, h4⟩)
      simp only [vals, List.cons.injEq, and_true, he.1, he.2] at hall
      unfold execOp
      simp only [hop, hall.1, hall.2]
      rw [Sem.run_bind, h1, Result.andThen_ok]
      exact Sem.run_pure _ _ _
    · exact h.elim
  · rename_i src dst x hop
    cases hs : isStrToBytes P src dst
    · rw [hs] at h
      simp only [cond_false, mapK_eq] at h
      cases hm : (Nat.beq src dst && isBytes P dst) <;> rw [hm] at h
      · exact vq_ok hE hF hR rfl rfl hg hn (by rw [hop] at h ⊢; exact h)
      · simp only [Bool.and_eq_true] at hm
        obtain rfl := Nat.eq_of_beq_eq_true hm.1
        have hn' : noAny (o.op.operands.toList.map (ev fr)) = true := hn.resolve_left (by rw [hop]; simp [isMove])
        obtain ⟨hall, hwfs⟩ := ev_all hF hR hg hn'
        rw [hop] at hall
        simp only [hop, Op.operands, List.map_cons, List.map_nil, vals, cond_true] at h hall
        split at h
        · rename_i k off len cap he
          split at h
          · rename_i l hk
            obtain ⟨hl, h⟩ := vsome_iff.1 h
            obtain ⟨w', h1, h2, h3⟩ := vmark_ok (P := P) (off := off) (len := len) (cap := cap) hR hm.2 hk (blt_lt hl)
            simp only [List.cons.injEq, and_true] at he
            refine .inl ⟨_, w', ?_, β, M, .sl k off len cap, h2, h3, .inr ⟨by show Nat.blt k M.length = true; rw [Nat.blt_eq]; exact lt_of_get hk, rfl⟩, h⟩
            simp only [List.cons.injEq, and_true, he] at hall
            unfold execOp
            simp only [hop, hall]
            exact run_v h1
          · exact h.elim
        · exact h.elim
    · rw [hs] at h
      have hn' : noAny (o.op.operands.toList.map (ev fr)) = true := hn.resolve_left (by rw [hop]; simp [isMove])
      obtain ⟨hall, hwfs⟩ := ev_all hF hR hg hn'
      rw [hop] at hall
      simp only [hop, Op.operands, List.map_cons, List.map_nil, vals, cond_true] at h hall
      obtain ⟨v, w', h1, h2⟩ := vbytes_ok (P := P) hR hs h
      refine .inl ⟨v, w', ?_, h2⟩
      simp only [List.cons.injEq, and_true] at hall
      unfold execOp
      simp only [hop, hall]
      exact run_v h1
  · rename_i c hop
    have hn' : noAny (o.op.operands.toList.map (ev fr)) = true := hn.resolve_left (by rw [hop]; simp [isMove])
    obtain ⟨hall, hwfs⟩ := ev_all hF hR hg hn'
    split at h
    · rename_i hcal
      have hap : ∃ v w', (Builtin.append_ c.argTypes.toList.toArray o.type (vals β (o.op.operands.toList.map (ev fr))).toArray).run P w = .ok v w' ∧ OutQ E.G β M w K v w' := by
        cases hrc : toRecs P c.argTypes.toList <;> rw [hrc] at h
        · cases hty : typed E.T <;> rw [hty] at h
          · cases hq : toWords P c.argTypes.toList <;> rw [hq] at h
            · cases ho : offOn E.T <;> rw [ho] at h
              · exact vappend_ok (P := P) (ty := o.type) hR h
              · exact vappendO_ok (P := P) (ty := o.type) hR h
            · exact vappendW_ok (P := P) (ty := o.type) hR h
          · exact vappendT_ok (P := P) (ty := o.type) hR h
        · exact vappendR_ok (P := P) (ty := o.type) hR h
      obtain ⟨v, w', h1, h2⟩ := hap
      have hargs : c.args.map a.eval = (vals β (o.op.operands.toList.map (ev fr))).toArray := by
        rw [← hall, hop]; apply Array.ext'; simp [Op.operands, Call.operands, hcal]
      exact bi_run hop hcal (Builtin.append_ c.argTypes o.type (c.args.map a.eval)) (fun _ => rfl) (by rw [hargs]; simpa using h1) _ h2
    · rename_i hcal
      have hap : ∃ v w', (Builtin.copy_ c.argTypes.toList.toArray o.type (vals β (o.op.operands.toList.map (ev fr))).toArray).run P w = .ok v w' ∧ OutQ E.G β M w K v w' := by
        cases hrc : toRecs P c.argTypes.toList <;> rw [hrc] at h
        · cases hty : typed E.T <;> rw [hty] at h
          · exact vcopy_ok (P := P) (ty := o.type) hR h
          · exact vcopyT_ok (P := P) (ty := o.type) hR h
        · exact vcopyR_ok (P := P) (ty := o.type) hR h
      obtain ⟨v, w', h1, h2⟩ := hap
      have hargs : c.args.map a.eval = (vals β (o.op.operands.toList.map (ev fr))).toArray := by
        rw [← hall, hop]; apply Array.ext'; simp [Op.operands, Call.operands, hcal]
      exact bi_run hop hcal (Builtin.copy_ c.argTypes o.type (c.args.map a.eval)) (fun _ => rfl) (by rw [hargs]; simpa using h1) _ h2
    · rename_i hcal
      obtain ⟨v, w', h1, h2⟩ := vclear_ok (P := P) (ty := o.type) hR h
      have hargs : c.args.map a.eval = (vals β (o.op.operands.toList.map (ev fr))).toArray := by
        rw [← hall, hop]; apply Array.ext'; simp [Op.operands, Call.operands, hcal]
      exact bi_run hop hcal (Builtin.clear_ c.argTypes o.type (c.args.map a.eval)) (fun _ => rfl) (by rw [hargs]; simpa using h1) _ h2
    · rename_i hcal
      obtain ⟨v, w', h1, h2⟩ := vustr_ok (P := P) (ty := o.type) hR h
      have hargs : c.args.map a.eval = (vals β (o.op.operands.toList.map (ev fr))).toArray := by
        rw [← hall, hop]; apply Array.ext'; simp [Op.operands, Call.operands, hcal]
      exact bi_run hop hcal (Builtin.unsafeString_ c.argTypes o.type (c.args.map a.eval)) (fun _ => rfl) (by rw [hargs]; simpa using h1) _ h2
    · rename_i f hcal
      rw [mapK_eq] at h
      split at h
      · split at h
        · rename_i g caps args hxs
          have hops : o.op.operands.toList = f :: c.args.toList := by simp [hop, Op.operands, Call.operands, hcal]
          rw [hops] at hall hwfs hxs
          simp only [List.map_cons, List.cons.injEq] at hxs
          obtain ⟨e1, e2⟩ := hxs
          simp only [List.map_cons, vals, List.cons.injEq, e1, e2] at hall
          simp only [List.map_cons, SV.wf.wfs, Bool.and_eq_true, e1, e2] at hwfs
          have := hE.C g (args ++ caps) M K h β w hR (wfs_append hwfs.2 hwfs.1)
          rw [vals_append, ← hall.2] at this
          refine (call_run hop hcal (caps := vals β caps) hall.1 _ this).mono fun v w' hv => ?_
          obtain ⟨β', M', r, h1, h2, h3, h4⟩ := hv
          exact ⟨β', M', r, h1, h2, .inr h3, h4⟩
        · exact h.elim
      · exact vq_ok hE hF hR rfl rfl hg hn h
    · rw [mapK_eq] at h
      exact vqH_ok hE hF hR rfl rfl hg hn h
  · rw [mapK_eq] at h
    exact vqH_okL hE hF hR rfl rfl hg hn h
  · rw [mapK_eq] at h
    exact vqH_ok hE hF hR rfl rfl hg hn h
end
end Go.Proofs.Ytkjfecdpakhggaa
