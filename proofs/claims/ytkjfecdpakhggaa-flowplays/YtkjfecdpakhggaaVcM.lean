/-
  A reckoner of conditions: code and functions. No statement is proved here.
-/
import Derived.Scope
import Derived.Test.YtkjfecdpakhggaaVcL
namespace Go.Proofs.Ytkjfecdpakhggaa
open Go.RowKit
set_option linter.unusedVariables false
set_option linter.unusedSimpArgs false

/-- What stands behind code that leads to K. -/
def OutS (nG : Mm) (β : Nat → Nat) (M : Mm) (w : World) (K : List SV → Mm → Prop) (a' : Act) (w' : World) : Prop :=
  ∃ β' fr' M', Ext β M w β' M' w' ∧ RelF β' M'.length fr' a' ∧ Rel nG β' M' w' ∧ K fr' M'
theorem OutS.trans {nG : Mm} {β β1 : Nat → Nat} {M M1 : Mm} {w w1 : World} {K : List SV → Mm → Prop} {a' : Act} {w' : World} (h : Ext β M w β1 M1 w1) (k : OutS nG β1 M1 w1 K a' w') : OutS nG β M w K a' w' := by
  obtain ⟨β', fr', M', h1, h2, h3, h4⟩ := k
  exact ⟨β', fr', M', h.trans h1, h2, h3, h4⟩
/-- Code leads from the frame fr and the blocks M to K. -/
def Wq (P : Program) (nG : Mm) (c : Code) (fr : List SV) (M : Mm) (K : Ko) : Prop := ∀ β a w, RelF β M.length fr a → Rel nG β M w → c.wp P (fun e a' w' => OutS nG β M w (K e) a' w') a w
/-- .. in a function that was entered with the blocks B. -/
def Wp (P : Program) (nG B : Mm) (c : Code) (fr : List SV) (M : Mm) (K : Ko) : Prop := ∀ β0 w0 β a w, Ext β0 B w0 β M w → RelF β M.length fr a → Rel nG β M w → c.wp P (fun e a' w' => OutS nG β0 B w0 (K e) a' w') a w
theorem Wp.mono {P : Program} {nG B : Mm} {c : Code} {fr : List SV} {M : Mm} {K K' : Ko} (h : Wp P nG B c fr M K) (hK : ∀ e fr' M', K e fr' M' → K' e fr' M') : Wp P nG B c fr M K' := fun β0 w0 β a w hx hF hR =>
  Code.wp_mono (fun e a' w' ⟨β', fr', M', h1, h2, h3, h4⟩ => ⟨β', fr', M', h1, h2, h3, hK _ _ _ h4⟩) (h β0 w0 β a w hx hF hR)
theorem Wq.wp {P : Program} {nG B : Mm} {c : Code} {fr : List SV} {M : Mm} {K : Ko} (h : Wq P nG c fr M K) : Wp P nG B c fr M K := fun β0 w0 β a w hx hF hR =>
  Code.wp_mono (fun e a' w' hh => OutS.trans hx hh) (h β a w hF hR)
theorem putK_eq (fr : List SV) (d : Option Tmp) (x : SV) (K : List SV → Prop) : putK fr d x K = K (match d with
    | none => fr
    | some k => fr.set k x) := by cases d <;> simp [putK, setK_eq]
section
variable {P : Program} {E : Env}
theorem put_ok {β : Nat → Nat} {n : Nat} {fr : List SV} {a : Act} (hF : RelF β n fr a) (d : Option Tmp) {x : SV} {v : Value} (hx : x = .any ∨ (x.wf n = true ∧ v = val β x)) : RelF β n (match d with
    | none => fr
    | some k => fr.set k x) (a.put d v) := by
  cases d with
  | none => exact hF
  | some k => exact hF.put k hx
theorem gval_ok {β : Nat → Nat} {n : Nat} {fr : List SV} {a : Act} (hF : RelF β n fr a) {ops : List Oper} {j : Nat} {t : Bool} (h : gval ops fr j = some t) : yielded ops.toArray a.tmps j = some t := by
  unfold gval at h
  cases ho : ops[j]? with
  | none => simp [ho] at h
  | some o =>
    simp only [ho] at h
    cases hd : o.dst with
    | none => simp [hd] at h
    | some d =>
      simp only [hd] at h
      split at h
      · rename_i t' hx
        obtain rfl := Option.some.inj h
        have h1 := (hF.at' d _ hx).resolve_left (fun e => nomatch e)
        have hlt : d < a.tmps.size := by rw [hF.size]; exact lt_of_get hx
        have h2 : a.tmps[d]? = some (.bool t') := by
          have := h1.2
          rw [Array.getD_eq_getD_getElem?, Array.getElem?_eq_getElem hlt] at this
          rw [Array.getElem?_eq_getElem hlt]
          exact congrArg some this
        unfold yielded
        simp [ho, hd, h2]
      · cases h
theorem gskip_ok {β : Nat → Nat} {n : Nat} {fr : List SV} {a : Act} (hF : RelF β n fr a) {ops : List Oper} {j : Nat} (h : gskip ops fr j = true) : yielded ops.toArray a.tmps j = none := by
  unfold gskip at h
  cases ho : ops[j]? with
  | none => simp [ho] at h
  | some o =>
    simp only [ho] at h
    cases hd : o.dst with
    | none => simp [hd] at h
    | some d =>
      simp only [hd] at h
      split at h
      · rename_i t' hx
        have h1 := (hF.at' d _ hx).resolve_left (fun e => nomatch e)
        have hlt : d < a.tmps.size := by rw [hF.size]; exact lt_of_get hx
        have h2 : a.tmps[d]? = some (.tuple t') := by
          have := h1.2
          rw [Array.getD_eq_getD_getElem?, Array.getElem?_eq_getElem hlt] at this
          rw [Array.getElem?_eq_getElem hlt]
          exact congrArg some this
        unfold yielded
        simp [ho, hd, h2]
      · cases h
theorem vlist_ok (hE : EnvOk P E) {ops : List Oper} {K : List SV → Mm → Prop} : ∀ (l : List Oper) (fr : List SV) (M : Mm) (β : Nat → Nat) (a : Act) (w : World) (Q : Exit → Act → World → Prop), RelF β M.length fr a → Rel E.G β M w → vlist P E ops l fr M K → (∀ a' w', OutS E.G β M w K a' w' → Q .normal a' w') → wpList P ops.toArray Q l a w := by
  intro l
  induction l with
  | nil => intro fr M β a w Q hF hR h hQ; exact hQ a w ⟨β, fr, M, Ext.refl _ _ _, hF, hR, h⟩
  | cons o l ih =>
    intro fr M β a w Q hF hR h hQ
    have run : vstep P E o fr M (fun r M2 => putSK E.T ops fr o.dst r fun fr2 => vlist P E ops l fr2 M2 K) → ∀ K' : Act → World → Prop, (∀ a w, wpList P ops.toArray Q l a w → K' a w) → o.wp P a w K' Q := by
      intro h K' hK'
      refine (vstep_ok hE hF hR h).wp fun v w' hv => hK' _ _ ?_
      obtain ⟨β', M', r, h1, h2, h3, h4⟩ := hv
      rw [putSK_eq, putK_eq] at h4
      exact ih _ M' β' _ w' Q (put_ok (hF.mono h1.len h1.agree) o.dst h3) h2 h4 fun a' w'' h5 => hQ a' w'' (OutS.trans h1 h5)
    refine wpList_step fun K' hK' => ?_
    unfold vlist at h
    split at h
    · rename_i hgd
      rw [if_pos (by simp [Region.wanted, hgd])]
      exact run h K' hK'
    · rename_i j want hgd
      split at h
      · rename_i t hg
        have hy := gval_ok hF hg
        cases hw : t == want
        · rw [hw] at h
          simp only [cond_false] at h
          rw [if_neg (by simp only [Region.wanted, hgd, hy]; simpa using hw)]
          rw [putK_eq] at h
          exact hK' _ _ (ih _ M β _ w Q (put_ok hF o.dst (.inr ⟨rfl, rfl⟩)) hR h hQ)
        · rw [hw] at h
          simp only [cond_true] at h
          rw [if_pos (by simp only [Region.wanted, hgd, hy]; simpa using hw)]
          exact run h K' hK'
      · cases hgs : gskip ops fr j <;> rw [hgs] at h
        · exact h.elim
        · simp only [cond_true] at h
          have hy := gskip_ok hF hgs
          rw [if_neg (by simp [Region.wanted, hgd, hy])]
          rw [putK_eq] at h
          exact hK' _ _ (ih _ M β _ w Q (put_ok hF o.dst (.inr ⟨rfl, rfl⟩)) hR h hQ)
theorem cond_ev {β : Nat → Nat} {n : Nat} {fr : List SV} {a : Act} (hF : RelF β n fr a) {c : Operand} {t : Bool} (h : ev fr c = .b t) : a.eval c = .bool t := by
  cases c with
  | tmp k =>
    show a.tmps.getD k undef = _
    have e : fr.getD k .any = .b t := h
    cases hx : fr[k]? with
    | none => rw [List.getD_eq_getElem?_getD, hx] at e; cases e
    | some y =>
      rw [List.getD_eq_getElem?_getD, hx] at e
      obtain rfl : y = .b t := e
      exact ((hF.at' k _ hx).resolve_left (fun e => nomatch e)).2
  | const c =>
    have := (ofConst_val (fun _ => 0) c).1
    have e : ofConst c = .b t := h
    rw [e] at this
    exact this.symm
  | global g => cases h
  | func f => cases h
structure WD (P : Program) (nG B : Mm) (W : Code → List SV → Mm → Ko → Prop) (D : List Oper → List SV → Mm → (List SV → Mm → Prop) → Prop) : Prop where
  W : ∀ c fr M K, W c fr M K → Wp P nG B c fr M K
  D : ∀ id ops fr M K, D ops fr M K → Wq P nG (.region id ops.toArray true) fr M (fun e fr' M' => e = .normal ∧ K fr' M')
theorem vcode_ok (hE : EnvOk P E) {B : Mm} {W : Code → List SV → Mm → Ko → Prop} {D : List Oper → List SV → Mm → (List SV → Mm → Prop) → Prop} (hW : WD P E.G B W D) : ∀ (c : Code) (fr : List SV) (M : Mm) (K : Ko), vcode P E W D c fr M K → Wp P E.G B c fr M K := by
  intro c
  induction c with
  | skip => intro fr M K h β0 w0 β a w hx hF hR; exact wp_skip ⟨β, fr, M, hx, hF, hR, h⟩
  | region id ops d =>
    intro fr M K h β0 w0 β a w hx hF hR
    cases d
    · refine wp_region_list ?_
      have := vlist_ok hE (ops := ops.toList) ops.toList fr M β a w (fun e a' w' => OutS E.G β0 B w0 (K e) a' w') hF hR h (fun a' w' h => OutS.trans hx h)
      simpa using this
    · have := hW.D id ops.toList fr M _ h β a w hF hR
      refine Code.wp_mono (fun e a' w' hh => ?_) (by simpa using this)
      obtain ⟨β', fr', M', h1, h2, h3, rfl, h4⟩ := hh
      exact ⟨β', fr', M', hx.trans h1, h2, h3, h4⟩
  | seq x y ihx ihy =>
    intro fr M K h β0 w0 β a w hx hF hR
    refine wp_seq (Code.wp_mono (fun e a' w' hh => ?_) (ihx fr M _ h β0 w0 β a w hx hF hR))
    obtain ⟨β', fr', M', h1, h2, h3, h4⟩ := hh
    cases e with
    | normal => exact ihy fr' M' K h4 β0 w0 β' a' w' h1 h2 h3
    | exit id => exact ⟨β', fr', M', h1, h2, h3, h4⟩
    | goto l => exact ⟨β', fr', M', h1, h2, h3, h4⟩
    | ret => exact ⟨β', fr', M', h1, h2, h3, h4⟩
    | panic ch => exact ⟨β', fr', M', h1, h2, h3, h4⟩
    | outgrown => exact ⟨β', fr', M', h1, h2, h3, h4⟩
  | cond c x y ihx ihy =>
    intro fr M K h β0 w0 β a w hx hF hR
    simp only [vcode] at h
    split at h
    · rename_i t hc
      refine wp_cond (cond_ev hF hc) ?_
      cases t
      · exact ihy fr M K h β0 w0 β a w hx hF hR
      · exact ihx fr M K h β0 w0 β a w hx hF hR
    · exact h.elim
  | block id c ih =>
    intro fr M K h β0 w0 β a w hx hF hR
    by_cases hl : ∃ c', c = .loop c'
    · obtain ⟨c', rfl⟩ := hl
      exact hW.W _ fr M K h β0 w0 β a w hx hF hR
    · have hv : vcode P E W D (.block id c) fr M K = vcode P E W D c fr M (fun e fr2 M2 => match e with
          | .exit j => bif Nat.beq j id then K .normal fr2 M2 else K (.exit j) fr2 M2
          | e => K e fr2 M2) := by
        cases c <;> first | rfl | exact absurd ⟨_, rfl⟩ hl
      rw [hv] at h
      refine wp_block (Code.wp_mono (fun e a' w' hh => ?_) (ih fr M _ h β0 w0 β a w hx hF hR))
      obtain ⟨β', fr', M', h1, h2, h3, h4⟩ := hh
      cases e with
      | normal => exact ⟨β', fr', M', h1, h2, h3, h4⟩
      | exit j =>
        show if j = id then _ else _
        split
        · rename_i e
          subst e
          simp only [Nat.beq_refl, cond_true] at h4
          exact ⟨β', fr', M', h1, h2, h3, h4⟩
        · rename_i e
          have : Nat.beq j id = false := by
            cases hb : Nat.beq j id
            · rfl
            · exact absurd (Nat.eq_of_beq_eq_true hb) e
          simp only [this, cond_false] at h4
          exact ⟨β', fr', M', h1, h2, h3, h4⟩
      | goto l => exact ⟨β', fr', M', h1, h2, h3, h4⟩
      | ret => exact ⟨β', fr', M', h1, h2, h3, h4⟩
      | panic ch => exact ⟨β', fr', M', h1, h2, h3, h4⟩
      | outgrown => exact ⟨β', fr', M', h1, h2, h3, h4⟩
  | exit id => intro fr M K h β0 w0 β a w hx hF hR; exact wp_exit ⟨β, fr, M, hx, hF, hR, h⟩
  | ret => intro fr M K h β0 w0 β a w hx hF hR; exact wp_ret ⟨β, fr, M, hx, hF, hR, h⟩
  | loop c ih => intro fr M K h; exact h.elim
  | rangeFunc f p x y => intro fr M K h; exact h.elim
  | scope c ih =>
    intro fr M K h β0 w0 β a w hx hF hR
    refine wp_scope_straight (Code.wp_mono (fun e a' w' hh => ?_) (ih fr M _ h β0 w0 β a w hx hF hR))
    obtain ⟨β', fr', M', h1, h2, h3, h4⟩ := hh
    cases e with
    | normal => exact ⟨β', fr', M', h1, h2, h3, h4⟩
    | exit j => exact ⟨β', fr', M', h1, h2, h3, h4⟩
    | goto l => exact h4.elim
    | ret => exact ⟨β', fr', M', h1, h2, h3, h4⟩
    | panic ch => exact ⟨β', fr', M', h1, h2, h3, h4⟩
    | outgrown => exact ⟨β', fr', M', h1, h2, h3, h4⟩
  | label l => intro fr M K h β0 w0 β a w hx hF hR; exact wp_label ⟨β, fr, M, hx, hF, hR, h⟩
  | goto l => intro fr M K h; exact h.elim
  | refuse s => intro fr M K h; exact h.elim
/-- What a function answers. -/
def vres1 (P : Program) (fr : List SV) (M : Mm) : ResultVar → Option (Bool × SV)
  | .tmp t => some (true, ev fr (.tmp t))
  | .cell t ty => match ev fr (.tmp t) with
    | .ptr k off => match M[k]? with
      | some e => bif Nat.blt 0 (sizeT P ty) then (match qload P ty off e.c with
        | .ok c r => some (c, r)
        | _ => none) else none
      | none => none
    | _ => none
def vres (P : Program) (rs : List ResultVar) (fr : List SV) (M : Mm) (K : SV → Prop) : Prop :=
  match rs with
  | [] => K (.tup [])
  | [x] => match vres1 P fr M x with
    | some (c, r) => vsome (c && r.wf M.length) (forceK r K)
    | none => False
  | [x, y] => match vres1 P fr M x, vres1 P fr M y with
    | some (c, r), some (d, q) => vsome (c && r.wf M.length && (d && q.wf M.length)) (forceK r fun r' => forceK q fun q' => K (.tup [r', q']))
    | _, _ => False
  | [x, y, z] => match vres1 P fr M x, vres1 P fr M y, vres1 P fr M z with
    | some (c, r), some (d, q), some (e, p) => vsome (c && r.wf M.length && (d && q.wf M.length) && (e && p.wf M.length)) (forceK r fun r' => forceK q fun q' => forceK p fun p' => K (.tup [r', q', p']))
    | _, _, _ => False
  | [x, y, z, u, v] => match vres1 P fr M x, vres1 P fr M y, vres1 P fr M z, vres1 P fr M u, vres1 P fr M v with
    | some (c, r), some (d, q), some (e, p), some (f, o), some (g, n) => vsome (c && r.wf M.length && (d && q.wf M.length) && (e && p.wf M.length) && (f && o.wf M.length) && (g && n.wf M.length)) (forceK r fun r' => forceK q fun q' => forceK p fun p' => forceK o fun o' => forceK n fun n' => K (.tup [r', q', p', o', n']))
    | _, _, _, _, _ => False
  | _ => False
def one1 (tmps : Array Value) : ResultVar → Sem Value
  | .tmp t => pure (tmps.getD t undef)
  | .cell a t => do loadVar t (← asAddr (tmps.getD a undef))
theorem vres1_ok {nG : Mm} {β : Nat → Nat} {M : Mm} {fr : List SV} {a : Act} {w : World} (hF : RelF β M.length fr a) (hR : Rel nG β M w) {x : ResultVar} {r : SV} (h : vres1 P fr M x = some (true, r)) (hw : r.wf M.length = true) : (one1 a.tmps x).run P w = .ok (val β r) w := by
  have get : ∀ t, ev fr (.tmp t) ≠ .any → a.tmps.getD t undef = val β (ev fr (.tmp t)) := fun t ht => by
    have := ev_ok hF hR (l := [.tmp t]) rfl (.tmp t) (by simp)
    exact (this.resolve_left ht).2
  cases x with
  | tmp t =>
    simp only [vres1, Option.some.injEq, Prod.mk.injEq, true_and] at h
    subst h
    have := get t (fun e => by rw [e] at hw; cases hw)
    show (Sem.pure _ : Sem Value).run P w = _
    rw [this]; rfl
  | cell t ty =>
    simp only [vres1] at h
    split at h
    · rename_i k off he
      split at h
      · rename_i e hk
        cases hp : Nat.blt 0 (sizeT P ty) <;> rw [hp] at h
        · cases h
        · simp only [cond_true] at h
          split at h
          · rename_i c r' hq
            simp only [Option.some.injEq, Prod.mk.injEq] at h
            obtain ⟨rfl, rfl⟩ := h
            have hc : AtC β w (.ptr k off) e.c := fun hh => ⟨e.rw, hR.all k e hk hh⟩
            have := qload_ok (P := P) (w := w) β hc (blt_lt hp) hq
            have ht := get t (by rw [he]; exact fun e => nomatch e)
            rw [he] at ht
            simp only [one1, ht, val]
            rw [Sem.run_bind]
            exact this
          · cases h
      · cases h
    · cases h
theorem vres_ok {nG : Mm} {β : Nat → Nat} {M : Mm} {fr : List SV} {a : Act} {w : World} (hF : RelF β M.length fr a) (hR : Rel nG β M w) {fn : Func} {K : SV → Prop} (h : vres P fn.results.toList fr M K) : ∃ r, r.wf M.length = true ∧ (results fn a.tmps).run P w = .ok (val β r) w ∧ K r := by
  have e0 : fn.results = fn.results.toList.toArray := by simp
  generalize fn.results.toList = rs at h e0
  have er : results fn a.tmps = (do
      let vs ← rs.toArray.mapM (one1 a.tmps)
      pure (if h : vs.size = 1 then vs[0] else .tuple vs)) := by
    unfold results
    rw [e0]
    congr 1
  rw [er]
  unfold vres at h
  split at h
  · exact ⟨.tup [], rfl, by simp [val, vals], h⟩
  · split at h
    · rename_i x c r hx
      replace h := vsome_iff.1 h
      obtain ⟨hc, h⟩ := h
      simp only [Bool.and_eq_true] at hc
      obtain ⟨rfl, hw⟩ := hc
      rw [forceK_eq] at h
      exact ⟨r, hw, by simp [vres1_ok hF hR hx hw], h⟩
    · exact h.elim
  · split at h
    · rename_i x y c r d q hx hy
      replace h := vsome_iff.1 h
      obtain ⟨hc, h⟩ := h
      simp only [Bool.and_eq_true] at hc
      obtain ⟨⟨rfl, hw⟩, rfl, hw2⟩ := hc
      rw [forceK_eq, forceK_eq] at h
      exact ⟨.tup [r, q], by simp [SV.wf, SV.wf.wfs, hw, hw2], by simp [vres1_ok hF hR hx hw, vres1_ok hF hR hy hw2, val, vals], h⟩
    · exact h.elim
  · split at h
    · rename_i x y z c r d q e p hx hy hz
      replace h := vsome_iff.1 h
      obtain ⟨hc, h⟩ := h
      simp only [Bool.and_eq_true] at hc
      obtain ⟨⟨⟨rfl, hw⟩, rfl, hw2⟩, rfl, hw3⟩ := hc
      rw [forceK_eq, forceK_eq, forceK_eq] at h
      exact ⟨.tup [r, q, p], by simp [SV.wf, SV.wf.wfs, hw, hw2, hw3], by simp [vres1_ok hF hR hx hw, vres1_ok hF hR hy hw2, vres1_ok hF hR hz hw3, val, vals], h⟩
    · exact h.elim
  · split at h
    · rename_i x y z u v c r d q e p f o g n hx hy hz hu hv
      replace h := vsome_iff.1 h
      obtain ⟨hc, h⟩ := h
      simp only [Bool.and_eq_true] at hc
      obtain ⟨⟨⟨⟨⟨rfl, hw⟩, rfl, hw2⟩, rfl, hw3⟩, rfl, hw4⟩, rfl, hw5⟩ := hc
      rw [forceK_eq, forceK_eq, forceK_eq, forceK_eq, forceK_eq] at h
      exact ⟨.tup [r, q, p, o, n], by simp [SV.wf, SV.wf.wfs, hw, hw2, hw3, hw4, hw5], by simp [vres1_ok hF hR hx hw, vres1_ok hF hR hy hw2, vres1_ok hF hR hz hw3, vres1_ok hF hR hu hw4, vres1_ok hF hR hv hw5, val, vals], h⟩
    · exact h.elim
  · exact h.elim
/-- What a call of a function leads to. -/
def Spec (P : Program) (G : Mm) (f : Nat) (args : List SV) (M : Mm) (K : SV → Mm → Prop) : Prop := ∀ β w, Rel G β M w → SV.wf.wfs M.length args = true → CallR P f (vals β args).toArray w (fun v w' => ∃ β' M' r, Ext β M w β' M' w' ∧ Rel G β' M' w' ∧ (r.wf M'.length = true ∧ v = val β' r) ∧ K r M')
def repK : Nat → (List SV → Prop) → Prop
  | 0, K => K []
  | n + 1, K => repK n fun m => K (.any :: m)
def padK : List SV → Nat → (List SV → Prop) → Prop
  | [], n, K => repK n K
  | x :: l, n + 1, K => padK l n fun m => K (x :: m)
  | _ :: _, 0, _ => False
theorem repK_eq : ∀ (n : Nat) (K : List SV → Prop), repK n K = K (List.replicate n .any)
  | 0, K => rfl
  | n + 1, K => by simp [repK, repK_eq n, List.replicate_succ]
theorem padK_ok : ∀ (l : List SV) (n : Nat) (K : List SV → Prop), padK l n K → l.length ≤ n ∧ K (l ++ List.replicate (n - l.length) .any)
  | [], n, K, h => by rw [padK, repK_eq] at h; simpa using h
  | x :: l, n + 1, K, h => by
    have := padK_ok l n _ h
    simp only [List.length_cons, Nat.add_le_add_iff_right, List.cons_append, Nat.reduceSubDiff]
    exact this
def Kfin (P : Program) (rs : List ResultVar) (K : SV → Mm → Prop) : Ko := fun e fr M => match e with
  | .ret => vres P rs fr M fun r => K r M
  | .normal => vres P rs fr M fun r => K r M
  | _ => False
def vfun (P : Program) (E : Env) (W : Code → List SV → Mm → Ko → Prop) (D : List Oper → List SV → Mm → (List SV → Mm → Prop) → Prop) (f : Nat) (args : List SV) (M : Mm) (K : SV → Mm → Prop) : Prop :=
  match P.funcs[f]? with
  | some fn => match fn.body with
    | some c => vsome (!(fn.name == "runtime.NumGoroutine")) (padK args fn.ntmps fun fr => vcode P E W D c fr M (Kfin P fn.results.toList K))
    | none => False
  | none => False
theorem enter_run {f : Nat} {fn : Func} {c : Code} (hf : P.funcs[f]? = some fn) (hb : fn.body = some c) (hn : (fn.name == "runtime.NumGoroutine") = false) (args : Array Value) (w : World) : (callFunc f args).run P w = .ok (.enter f args) w := by
  have h1 : fn.name ≠ "runtime.NumGoroutine" := by simpa using hn
  simp [callFunc, hf, hb, h1]
theorem vfun_ok (hE : EnvOk P E) {W : Code → List SV → Mm → Ko → Prop} {D : List Oper → List SV → Mm → (List SV → Mm → Prop) → Prop} {M : Mm} (hW : WD P E.G M W D) {f : Nat} {args : List SV} {K : SV → Mm → Prop} (h : vfun P E W D f args M K) : Spec P E.G f args M K := by
  intro β w hR hargs
  unfold vfun at h
  split at h
  · rename_i fn hf
    split at h
    · rename_i c hb
      replace h := vsome_iff.1 h
      obtain ⟨hn, h⟩ := h
      obtain ⟨hl, h⟩ := padK_ok _ _ _ h
      refine .inr ⟨enter_run hf hb (by simpa using hn) _ _, calls_of_wp hf hb ?_⟩
      have hF : RelF β M.length (args ++ List.replicate (fn.ntmps - args.length) .any) { tmps := (vals β args).toArray ++ Array.replicate (fn.ntmps - (vals β args).toArray.size) undef, defers := [] } := by
        refine ⟨by simp [vals_map], fun k x hx => ?_, rfl⟩
        rcases Nat.lt_or_ge k args.length with q | q
        · rw [List.getElem?_append_left q] at hx
          refine .inr ⟨wfs_all.1 hargs x (List.mem_of_getElem? hx), ?_⟩
          rw [Array.getD_eq_getD_getElem?, Array.getElem?_append_left (by simpa [vals_map] using q)]
          simp [vals_map, hx]
        · rw [List.getElem?_append_right q] at hx
          exact .inl (List.eq_of_mem_replicate (List.mem_of_getElem? hx))
      refine Code.wp_mono (fun e a' w' hh => ?_) (vcode_ok hE hW c _ M _ h β w β _ w (Ext.refl _ _ _) hF hR)
      obtain ⟨β', fr', M', h1, h2, h3, h4⟩ := hh
      have fin : vres P fn.results.toList fr' M' (fun r => K r M') → bodyPost P fn (fun e W' => ∃ v, e = .returned v ∧ ∃ β' M' r, Ext β M w β' M' W' ∧ Rel E.G β' M' W' ∧ (r.wf M'.length = true ∧ v = val β' r) ∧ K r M') .ret a' w' := fun hv => by
        obtain ⟨r, hr1, hr2, hr3⟩ := vres_ok h2 h3 hv
        exact ⟨h2.defers, _, hr2, _, rfl, β', M', r, h1, h3, ⟨hr1, rfl⟩, hr3⟩
      cases e with
      | ret => exact fin h4
      | normal => exact fin h4
      | exit id => exact h4.elim
      | goto l => exact h4.elim
      | panic ch => exact h4.elim
      | outgrown => exact h4.elim
    · exact h.elim
  · exact h.elim
end
end Go.Proofs.Ytkjfecdpakhggaa
