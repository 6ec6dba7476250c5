/-
  A reckoner of conditions: regions that draw their order. No statement is proved here.
-/
import Derived.Test.YtdfghknonbmadaaDoorVcQ
import Derived.OrdersIn
import Derived.TacticsIn
namespace Go.Proofs.YtdfghknonbmadaaDoor
open Go.RowKit
set_option linter.unusedVariables false
set_option linter.unusedSimpArgs false

section
variable {P : Program} {E : Env} {m0 : Nat} {ms : List Nat}
theorem putsF_mem {f : Nat → Bool} {t : Nat} {y : SV} : ∀ (os : List Oper) (k : Nat) (rs : List SV) (fr : List SV), (putsF f k os rs fr)[t]? = some y → fr[t]? = some y ∨ ∃ j o, os[j]? = some o ∧ rs[j]? = some y ∧ f (k + j) = true := by
  intro os
  induction os with
  | nil => intro k rs fr h; cases rs <;> exact .inl h
  | cons o os ih =>
    intro k rs fr h
    cases rs with
    | nil => exact .inl h
    | cons r rs =>
      rw [putsF] at h
      rcases ih (k + 1) rs _ h with h1 | ⟨j, x, h1, h2, h3⟩
      · split at h1
        · rename_i hf
          unfold setO at h1
          split at h1
          · exact .inl h1
          · rename_i d hd
            rw [List.getElem?_set] at h1
            split at h1
            · split at h1
              · obtain rfl := Option.some.inj h1
                exact .inr ⟨0, o, rfl, rfl, by rw [Nat.add_zero]; exact hf⟩
              · cases h1
            · exact .inl h1
        · exact .inl h1
      · exact .inr ⟨j + 1, x, h1, h2, by rw [show k + (j + 1) = k + 1 + j by omega]; exact h3⟩
theorem setsM_mem {f : Nat → Bool} {q : Nat} {e : Ent} : ∀ (cs : List (Option Cont)) (k : Nat) (M : Mm), (setsM m0 f k cs M)[q]? = some e → M[q]? = some e ∨ ∃ j x, cs[j]? = some (some x) ∧ e = ⟨true, x⟩ ∧ f (k + j) = true ∧ q = m0 + (k + j) := by
  intro cs
  induction cs with
  | nil => intro k M h; exact .inl h
  | cons c cs ih =>
    intro k M h
    rw [setsM] at h
    rcases ih (k + 1) _ h with h1 | ⟨j, x, h1, h2, h3, h4⟩
    · unfold setE at h1
      split at h1
      · rename_i x
        split at h1
        · rename_i hf
          rw [List.getElem?_set] at h1
          split at h1
          · rename_i hq
            split at h1
            · obtain rfl := Option.some.inj h1
              exact .inr ⟨0, x, rfl, rfl, by rw [Nat.add_zero]; exact hf, by rw [Nat.add_zero]; exact hq.symm⟩
            · cases h1
          · exact .inl h1
        · exact .inl h1
      · exact .inl h1
    · exact .inr ⟨j + 1, x, h1, h2, by rw [show k + (j + 1) = k + 1 + j by omega]; exact h3, by omega⟩
end
section
variable {nG : Mm} {β : Nat → Nat} {M : Mm} {w w' : World}
/-- A place that was kept free is filled with a new block. -/
theorem Rel.fill (h : Rel nG β M w) {p b : Nat} {x : Cont} (hp : M[p]? = some ⟨true, .gone⟩) (hF : Fp0 w w') (hb : w.heap.size ≤ b) (hG : nG.length ≤ p) (hm : ∀ (k : Nat) (e : Ent), M[k]? = some e → e.c.allP (fun q => !(Nat.beq q p)) = true) (hx : x.wf M.length = true) (hx2 : x.allP (fun q => !(Nat.beq q p)) = true) (hh : Holds w' b true (x.cells β) x.shp) :
    Rel nG (upd1 β p b) (M.set p ⟨true, x⟩) w' := by
  have ag : ∀ q, (!(Nat.beq q p)) = true → upd1 β p b q = β q := fun q hq => by
    unfold upd1
    rw [if_neg (fun e => by subst e; simp at hq)]
  have agn : ∀ q, q ≠ p → upd1 β p b q = β q := fun q hq => by unfold upd1; rw [if_neg hq]
  have agp : upd1 β p b p = b := by unfold upd1; rw [if_pos rfl]
  have hl := lt_of_get hp
  have h1 := h.step hF
  have get : ∀ (i : Nat) (e : Ent), (M.set p ⟨true, x⟩)[i]? = some e → (i ≠ p ∧ M[i]? = some e) ∨ (i = p ∧ e = ⟨true, x⟩) := fun i e he => by
    by_cases q : p = i
    · subst q; rw [List.getElem?_set_self hl] at he; exact .inr ⟨rfl, (Option.some.inj he).symm⟩
    · rw [List.getElem?_set_ne q] at he; exact .inl ⟨Ne.symm q, he⟩
  refine ⟨fun k e he hc => ?_, fun i j u v hu hv hij hr huc hvc => ?_, fun g hg => ?_, by simpa using h.gl, fun k hk => ?_, h.ro, fun k e he => ?_⟩
  · rcases get k e he with ⟨q, hM⟩ | ⟨rfl, rfl⟩
    · rw [agn k q, cells_agreeP ag _ (hm k e hM)]; exact h1.all k e hM hc
    · rw [agp, cells_agreeP ag _ hx2]; exact hh
  · rcases get i u hu with ⟨qi, hi⟩ | ⟨ei, rfl⟩
    · rcases get j v hv with ⟨qj, hj⟩ | ⟨ej, rfl⟩
      · rw [agn i qi, agn j qj]; exact h.dis i j u v hi hj hij hr huc hvc
      · rw [agn i qi, ej, agp]; have := (h.all i u hi huc).lt; omega
    · rcases get j v hv with ⟨qj, hj⟩ | ⟨ej, rfl⟩
      · rw [agn j qj, ei, agp]; have := (h.all j v hj hvc).lt; omega
      · omega
  · rw [agn g (by omega)]; exact h.glob g hg
  · rw [List.getElem?_set_ne (by omega)]; exact h.pre k hk
  · rcases get k e he with ⟨q, hM⟩ | ⟨rfl, rfl⟩
    · simpa using h.wf k e hM
    · simpa using hx
theorem Rel.gones (h : Rel nG β M w) (n : Nat) {β1 : Nat → Nat} (ag : ∀ k, k < M.length → β1 k = β k) : Rel nG β1 (M ++ List.replicate n ⟨true, .gone⟩) w := by
  have get : ∀ (k : Nat) (e : Ent), (M ++ List.replicate n ⟨true, .gone⟩)[k]? = some e → (k < M.length ∧ M[k]? = some e) ∨ e = ⟨true, .gone⟩ := fun k e he => by
    rcases Nat.lt_or_ge k M.length with q | q
    · rw [List.getElem?_append_left q] at he; exact .inl ⟨q, he⟩
    · rw [List.getElem?_append_right q] at he
      exact .inr (List.eq_of_mem_replicate (List.mem_of_getElem? he))
  refine ⟨fun k e he hc => ?_, fun i j u v hu hv hij hr huc hvc => ?_, fun g hg => ?_, by simp; have := h.gl; omega, fun k hk => ?_, h.ro, fun k e he => ?_⟩
  · rcases get k e he with ⟨q, hM⟩ | rfl
    · rw [ag k q, cells_agree ag _ (h.wf k e hM)]; exact h.all k e hM hc
    · cases hc
  · rcases get i u hu with ⟨qi, hi⟩ | rfl
    · rcases get j v hv with ⟨qj, hj⟩ | rfl
      · rw [ag i qi, ag j qj]; exact h.dis i j u v hi hj hij hr huc hvc
      · cases hvc
    · cases huc
  · rw [ag g (Nat.lt_of_lt_of_le hg h.gl)]; exact h.glob g hg
  · rw [List.getElem?_append_left (Nat.lt_of_lt_of_le hk h.gl)]; exact h.pre k hk
  · rcases get k e he with ⟨q, hM⟩ | rfl
    · exact cwf_mono (by simp) _ (h.wf k e hM)
    · rfl
end
mutual
theorem allP_and {p q : Nat → Bool} : ∀ (x : SV), x.allP p = true → x.allP q = true → x.allP (fun k => p k && q k) = true
  | .any, h, _ => h
  | .v _, h, _ | .i _, h, _ | .b _, h, _ | .w64 _, h, _ | .w32 _, h, _ | .w16 _, h, _ | .w8 _, h, _ | .s _, h, _ | .a64 _, h, _ | .a32 _, h, _ | .a8 _, h, _ => rfl
  | .ptr k off, h, g | .sl k off _ _, h, g => by simp only [SV.allP, Bool.and_eq_true] at h g ⊢; exact ⟨h, g⟩
  | .agg l, h, g | .tup l, h, g | .fn _ l, h, g => allPs_and l h g
theorem allPs_and {p q : Nat → Bool} : ∀ (l : List SV), SV.allP.allPs p l = true → SV.allP.allPs q l = true → SV.allP.allPs (fun k => p k && q k) l = true
  | [], _, _ => rfl
  | x :: l, h, g => by
    simp only [SV.allP.allPs, Bool.and_eq_true] at h g ⊢
    exact ⟨allP_and x h.1 g.1, allPs_and l h.2 g.2⟩
end
theorem tgt_congr {M M' : Mm} {y : SV} {p : Nat → Bool} (hy : y = .any ∨ y.allP p = true) (h : ∀ k, p k = true → M[k]? = M'[k]?) : tgt M y = tgt M' y := by
  rcases hy with rfl | hy
  · rfl
  · cases y <;> try first | rfl | (simp only [tgt]; rw [h _ hy]; done)
    rename_i f l
    match l, hy with
    | [], _ => rfl
    | [.ptr k off], hy =>
      simp only [SV.allP, SV.allP.allPs, Bool.and_true] at hy
      simp only [tgt]
      rw [h _ hy]
    | [.any], _ | [.v _], _ | [.i _], _ | [.b _], _ | [.w64 _], _ | [.w32 _], _ | [.w16 _], _ | [.w8 _], _ | [.s _], _ | [.sl _ _ _ _], _ | [.a64 _], _ | [.a32 _], _ | [.a8 _], _ | [.agg _], _ | [.tup _], _ | [.fn _ _], _ => rfl
    | .any :: _ :: _, _ | .v _ :: _ :: _, _ | .i _ :: _ :: _, _ | .b _ :: _ :: _, _ | .w64 _ :: _ :: _, _ | .w32 _ :: _ :: _, _ | .w16 _ :: _ :: _, _ | .w8 _ :: _ :: _, _ | .s _ :: _ :: _, _ | .ptr _ _ :: _ :: _, _ | .sl _ _ _ _ :: _ :: _, _ | .a64 _ :: _ :: _, _ | .a32 _ :: _ :: _, _ | .a8 _ :: _ :: _, _ | .agg _ :: _ :: _, _ | .tup _ :: _ :: _, _ | .fn _ _ :: _ :: _, _ => rfl
/-- An operation that yields, and is no deferring. -/
def OpY (P : Program) (x : Oper) (a : Act) (w : World) (K : Act → World → Prop) : Prop := (∀ c, x.op ≠ .defer c) ∧ ∃ Rr, Yl P a.eval x w Rr ∧ ∀ v w', Rr v w' → K (a.put x.dst v) w'
theorem OpY.wp {P : Program} {x : Oper} {a : Act} {w : World} {K : Act → World → Prop} {Q : Exit → Act → World → Prop} (h : OpY P x a w K) : x.wp P a w K Q := by
  obtain ⟨-, Rr, h1, h2⟩ := h
  exact h1.wp h2
theorem OpY.mono {P : Program} {x : Oper} {a : Act} {w : World} {K K' : Act → World → Prop} (hK : ∀ a w, K a w → K' a w) (h : OpY P x a w K) : OpY P x a w K' := by
  obtain ⟨h0, Rr, h1, h2⟩ := h
  exact ⟨h0, Rr, h1, fun v w' hv => hK _ _ (h2 v w' hv)⟩
/-- Everything is let in; the frame may be a round's. -/
def fen (R : Option Nat) : Fence := { Fence.wide with round := R }
theorem OpY.wpIn {P : Program} {x : Oper} {a : Act} {w : World} {K : Act → World → Prop} {Q : Exit → Act → World → Prop} {R : Option Nat} {n : Nat} (h : OpY P x a w K) : x.wpIn (fen R) n P a w K Q := by
  obtain ⟨h0, Rr, h1, h2⟩ := h
  refine ⟨fun _ _ => trivial, ?_⟩
  have e : Oper.semAt (fen R).round a.eval x = execOp a.eval x := by
    cases R with
    | none => rfl
    | some l => exact Oper.semAt_some l _ _ h0
  rw [e]
  rcases h1 with ⟨v, W', q1, q2⟩ | ⟨W', q1, q2⟩ | ⟨f, args, q1, q2⟩
  · rw [q1]; exact h2 _ _ q2
  · rw [q1]; exact h2 _ _ q2
  · rw [q1]
    refine ⟨fun h => (by cases h), ?_⟩
    have := (callsIn_wide (n := n - 1)).2 (q2.mono (R' := fun
      | .returned v, w'' => K (a.put x.dst v) w''
      | .panicked chain, w'' => Q (.panic chain) a w''
      | .outgrown, _ => LetsOut Q) fun e W' ⟨v, he, hR⟩ => by subst he; exact h2 _ _ hR)
    exact this
theorem wpAnyIn_inv {P : Program} {R : Option Nat} {m : Nat} {Q : Exit → Act → World → Prop} {ops : Array Oper} (I : (Nat → Bool) → Act → World → Prop)
    (hs : ∀ (f : Nat → Bool) (a : Act) (w : World) (i : Nat) (o : Oper), I f a w → f i = false → ops[i]? = some o → (∀ e ∈ o.after, Region.binds .any e = true → f e.on = true) → (Region.wanted o (yielded ops a.tmps) = true ∧ OpY P o a w (fun a' w' => I (upd f i) a' w')) ∨ (Region.wanted o (yielded ops a.tmps) = false ∧ I (upd f i) (a.put o.dst undef) w))
    (he : ∀ (f : Nat → Bool) (a : Act) (w : World), I f a w → (∀ i, i < ops.size → f i = true) → Q .normal a w) (hall : ∀ listed : Array Bool, listed.size = ops.size → Region.ready .any ops listed = [] → ∀ i, i < ops.size → listed.getD i false = true) :
    ∀ (fuel : Nat) (listed : Array Bool) (us : List Nat) (a : Act) (w : World), listed.size = ops.size → us.length ≤ fuel → (∀ i, listed.getD i true = false → i ∈ us) → I (fun k => listed.getD k false) a w → wpAnyIn (fen R) m P .any ops Q fuel listed a w := by
  intro fuel
  induction fuel with
  | zero =>
    intro listed us a w hz hu hi hI
    have hr : Region.ready .any ops listed = [] := by
      apply List.eq_nil_iff_forall_not_mem.2
      intro k hk
      have := hi k (mem_ready.1 hk).1
      have hu0 : us = [] := List.length_eq_zero_iff.1 (by omega)
      rw [hu0] at this
      cases this
    exact ⟨hr, he _ a w hI (hall listed hz hr)⟩
  | succ fuel ih =>
    intro listed us a w hz hu hi hI
    refine ⟨fun hr => he _ a w hI (hall listed hz hr), fun i hr => ?_⟩
    obtain ⟨h0, o, ho, hd⟩ := mem_ready.1 hr
    have hlt : i < ops.size := (Array.getElem?_eq_some_iff.1 ho).1
    have hlt2 : i < listed.size := by omega
    have hf : listed.getD i false = false := by
      simp [hlt2] at h0 ⊢
      exact h0
    have go : ∀ a' w', I (upd (fun k => listed.getD k false) i) a' w' → wpAnyIn (fen R) m P .any ops Q fuel (listed.setIfInBounds i true) a' w' := fun a' w' hI' => by
      refine ih _ (us.erase i) a' w' (by simpa using hz) ?_ ?_ ?_
      · have := List.length_erase_of_mem (hi i h0)
        omega
      · intro j hj
        have hji : j ≠ i := by
          intro e
          subst e
          simp [hlt2] at hj
        rw [getD_set_ne true (Ne.symm hji)] at hj
        exact (List.mem_erase_of_ne hji).2 (hi j hj)
      · have e : (fun k => (listed.setIfInBounds i true).getD k false) = (fun k => if k = i then true else listed.getD k false) := by
          funext k
          by_cases hk : k = i
          · subst hk
            simp [hlt2]
          · rw [if_neg hk, getD_set_ne false (Ne.symm hk)]
        rw [e]; exact hI'
    unfold wpOpIn
    rcases hs _ a w i o hI hf ho hd with ⟨hwant, hw⟩ | ⟨hwant, hw⟩
    · simp only [ho, hwant, if_true]
      exact (OpY.mono (fun a' w' hI' => go a' w' hI') hw).wpIn
    · simp only [ho, hwant, Bool.false_eq_true, if_false]
      exact ⟨fun _ _ => trivial, go _ _ hw⟩
theorem wpIn_region_inv {P : Program} {R : Option Nat} {m : Nat} {id : Nat} {Q : Exit → Act → World → Prop} {a : Act} {w : World} (l : List Oper) (o : Oper) (hm : P.follows .mixedOrders = true) (hlow : lowB (l ++ [o]) = true) (I : (Nat → Bool) → Act → World → Prop)
    (h0 : I (fun _ => false) a { w with drawn := w.drawn + 1 })
    (hs : ∀ (f : Nat → Bool) (a : Act) (w : World) (i : Nat) (x : Oper), I f a w → f i = false → (l ++ [o])[i]? = some x → (∀ e ∈ x.after, Region.binds .any e = true → f e.on = true) → (Region.wanted x (yielded (l ++ [o]).toArray a.tmps) = true ∧ OpY P x a w (fun a' w' => I (upd f i) a' w')) ∨ (Region.wanted x (yielded (l ++ [o]).toArray a.tmps) = false ∧ I (upd f i) (a.put x.dst undef) w))
    (he : ∀ (f : Nat → Bool) (a : Act) (w : World), I f a w → (∀ i, i < l.length + 1 → f i = true) → Q .normal a w) : (Code.region id (l ++ [o]).toArray true).wpIn (fen R) m P Q a w := by
  refine wpIn_region_any hm ?_
  refine wpAnyIn_inv I (fun f a w i x hI hf hx hd => hs f a w i x hI hf (by simpa using hx) hd) (fun f a w hI hf => he f a w hI (fun i hi => hf i (by simpa using hi))) ?_ _ _ (List.range (l ++ [o]).toArray.size) a _ (by simp) (by simp) ?_ ?_
  · intro listed hz hr i hi
    have hi2 : i < (l ++ [o]).length := by simpa using hi
    rcases all_listed hlow hr i hi2 with h | h
    · have : i < listed.size := by omega
      simp [this] at h ⊢
      exact h
    · omega
  · intro i hi
    rcases Nat.lt_or_ge i (l ++ [o]).toArray.size with h | h
    · simpa using h
    · have : ¬ i < (Array.replicate (l ++ [o]).toArray.size false).size := by simp at h ⊢; omega
      rw [Array.getD_eq_getD_getElem?, Array.getElem?_eq_none (Nat.le_of_not_lt this)] at hi
      cases hi
  · have e : (fun k => (Array.replicate (l ++ [o]).toArray.size false).getD k false) = fun _ => false := by
      funext k
      simp [Array.getD_eq_getD_getElem?, Array.getElem?_replicate]
      split <;> simp
    rw [e]; exact h0
theorem qcore_nd {P : Program} {T : PT} {n : Nat} {op : Op} {xs : List SV} {cs : List Cont} (h : qcore P T n op xs cs ≠ .no) : ∀ c, op ≠ .defer c := by
  intro c hc
  subst hc
  exact h rfl
theorem vstep_nd {P : Program} {E : Env} {o : Oper} {fr : List SV} {M : Mm} {K : SV → Mm → Prop} (h : vstep P E o fr M K) : ∀ c, o.op ≠ .defer c := by
  intro c hc
  unfold vstep at h
  rw [evsK_eq] at h
  replace h := (vsome_iff.1 h).2
  rw [hc] at h
  simp only [mapK_eq] at h
  exact h
/-- What a region that draws its order asks, whatever frame it stands in. -/
def RegI (P : Program) (l : List Oper) (a : Act) (w : World) (Kf : Act → World → Prop) : Prop := ∃ I : (Nat → Bool) → Act → World → Prop, I (fun _ => false) a { w with drawn := w.drawn + 1 } ∧
  (∀ (f : Nat → Bool) (a : Act) (w : World) (i : Nat) (x : Oper), I f a w → f i = false → l[i]? = some x → (∀ e ∈ x.after, Region.binds .any e = true → f e.on = true) → (Region.wanted x (yielded l.toArray a.tmps) = true ∧ OpY P x a w (fun a' w' => I (upd f i) a' w')) ∨ (Region.wanted x (yielded l.toArray a.tmps) = false ∧ I (upd f i) (a.put x.dst undef) w)) ∧
  (∀ (f : Nat → Bool) (a : Act) (w : World), I f a w → (∀ i, i < l.length → f i = true) → Kf a w)
theorem vdrawN_reg {P : Program} {E : Env} (hE : EnvOk P E) {n : Nat} {ops : List Oper} {fr : List SV} {M : Mm} {K : List SV → Mm → Prop} (h : vdrawN P E ops n fr M K) : lowB ops = true ∧ (∃ l o, ops = l ++ [o]) ∧ ∀ β0 a0 w0, RelF β0 M.length fr a0 → Rel E.G β0 M w0 → RegI P ops a0 w0 (fun a' w' => OutS E.G β0 M w0 K a' w') := by
  unfold vdrawN at h
  rw [masksK_eq] at h
  replace h := vsome_iff.1 h
  obtain ⟨hd, h⟩ := h
  rw [entK_eq] at h
  generalize hn' : (bif (ops.take n).any (fun o => makesNew o.op) then n else 0) = n' at h
  unfold drawOk at hd
  simp only [Bool.and_eq_true, Bool.not_eq_true'] at hd
  obtain ⟨⟨⟨⟨⟨⟨hlow, hgd⟩, hne⟩, hds⟩, hops⟩, hfull⟩, hgs⟩ := hd
  refine ⟨hlow, ?_, ?_⟩
  · cases hq : ops.reverse with
    | nil => simp at hq; subst hq; simp at hne
    | cons o l => exact ⟨l.reverse, o, by rw [← List.reverse_reverse ops, hq]; simp⟩
  intro β0 a0 w0 hF0 hR0
  generalize hm0 : M.length = m0 at *
  let M1 : Mm := M ++ List.replicate n' ⟨true, .gone⟩
  have hN : M1.length = m0 + n' := by simp [M1, hm0]
  obtain ⟨rs, cs, hrs, hcs, hst, hK⟩ := vquiet_tr (ops.take n) 0 fr M1 rfl h
  simp only [Nat.zero_add] at hst
  let F : (Nat → Bool) → List SV := fun f => putsF f 0 (ops.take n) rs fr
  let Mf : (Nat → Bool) → Mm := fun f => setsM m0 f 0 cs M1
  have hMl : ∀ f, (Mf f).length = M1.length := fun f => setsM_len f 0 cs M1
  have hlo : ∀ (j : Nat) (o : Oper), (ops.take n)[j]? = some o → j < n ∧ ops[j]? = some o := fun j o ho => by
    rw [List.getElem?_take] at ho
    split at ho
    · exact ⟨‹_›, ho⟩
    · cases ho
  have hlt : ∀ (j : Nat) (o : Oper), j < n → ops[j]? = some o → (ops.take n)[j]? = some o := fun j o hj ho => by rw [List.getElem?_take_of_lt hj]; exact ho
  -- what is pointed to is done
  let dn : (Nat → Bool) → Nat → Bool := fun f k => Nat.blt k m0 || f (k - m0)
  have okdn : ∀ (f : Nat → Bool) (j : Nat) (o : Oper), ShutF ops f → ops[j]? = some o → (∀ e ∈ o.after, Region.binds .any e = true → f e.on = true) → ∀ k, okP m0 ((masks ops []).getD j 0) k = true → dn f k = true := fun f j o hS ho hdep k hk => by
    simp only [okP, Bool.or_eq_true] at hk
    simp only [dn, Bool.or_eq_true]
    exact hk.imp id fun h1 => mask_done hS j o ho hdep _ h1
  have rsdn : ∀ (f : Nat → Bool) (j : Nat) (r : SV), ShutF ops f → rs[j]? = some r → f j = true → r = .any ∨ r.allP (dn f) = true := fun f j r hS hr hf => by
    have hj : j < (ops.take n).length := by rw [← hrs]; exact lt_of_get hr
    obtain ⟨r', c, h1, h2, h3⟩ := hst j _ (List.getElem?_eq_getElem hj)
    obtain rfl : r = r' := Option.some.inj (hr.symm.trans h1)
    obtain ⟨hjn, ho⟩ := hlo j _ (List.getElem?_eq_getElem hj)
    have hdep := hS j _ ho hf
    rcases h3 with ⟨-, h3⟩ | ⟨-, er, -⟩
    rotate_left
    · subst er; exact .inr rfl
    cases c with
    | none =>
      rcases h3.made.2 with h4 | h4
      · exact .inl h4
      · exact .inr (allP_mono (okdn f j _ hS ho hdep) _ h4.2)
    | some x =>
      refine .inr (allP_mono (fun k hk => ?_) _ h3.made.2.1.2)
      simp only [okN, Bool.or_eq_true] at hk
      rcases hk with hk | hk
      · exact okdn f j _ hS ho hdep k hk
      · have := Nat.eq_of_beq_eq_true hk
        simp only [dn, Bool.or_eq_true]
        right; rw [this, Nat.add_sub_cancel_left]; exact hf
  have csdn : ∀ (f : Nat → Bool) (j : Nat) (x : Cont), ShutF ops f → cs[j]? = some (some x) → f j = true → x.allP (dn f) = true := fun f j x hS hx hf => by
    have hj : j < (ops.take n).length := by rw [← hcs]; exact lt_of_get hx
    obtain ⟨r', c, h1, h2, h3⟩ := hst j _ (List.getElem?_eq_getElem hj)
    obtain rfl : some x = c := Option.some.inj (hx.symm.trans h2)
    obtain ⟨hjn, ho⟩ := hlo j _ (List.getElem?_eq_getElem hj)
    rcases h3 with ⟨-, h3⟩ | ⟨-, -, ec⟩
    rotate_left
    · cases ec
    exact callP_mono (okdn f j _ hS ho (hS j _ ho hf)) _ h3.made.2.2.1.2
  have Fdn : ∀ (f : Nat → Bool) (t : Nat) (y : SV), ShutF ops f → (F f)[t]? = some y → y = .any ∨ y.allP (dn f) = true := fun f t y hS hy => by
    rcases putsF_mem _ _ _ _ hy with h1 | ⟨j, o, h1, h2, h3⟩
    · rcases hF0.at' t y h1 with h2 | h2
      · exact .inl h2
      · exact .inr (allP_mono (fun k hk => by simp only [dn, Bool.or_eq_true]; exact .inl hk) _ (allP_of_wf y h2.1))
    · rw [Nat.zero_add] at h3; exact rsdn f j y hS h2 h3
  have Mdn : ∀ (f : Nat → Bool) (q : Nat) (e : Ent), ShutF ops f → (Mf f)[q]? = some e → e.c.allP (dn f) = true := fun f q e hS he => by
    rcases setsM_mem _ _ _ he with h1 | ⟨j, x, h1, rfl, h3, -⟩
    · rcases Nat.lt_or_ge q M.length with k | k
      · have h2 : M[q]? = some e := by
          have : M1[q]? = M[q]? := List.getElem?_append_left k
          rw [← this]; exact h1
        exact callP_mono (fun k hk => by simp only [dn, Bool.or_eq_true]; exact .inl hk) _ (callP_of_wf e.c (hm0 ▸ hR0.wf q e h2))
      · have h2 : M1[q]? = (List.replicate n' (⟨true, .gone⟩ : Ent))[q - M.length]? := List.getElem?_append_right k
        rw [h2] at h1
        have := List.eq_of_mem_replicate (List.mem_of_getElem? h1)
        subst this; rfl
    · rw [Nat.zero_add] at h3; exact csdn f j x hS h1 h3
  have shutLt : ∀ m, ShutF ops (fun k => decide (k < m)) := fun m k y hy hk e he hb => by
    have h1 := List.all_eq_true.1 hlow k (by simpa using lt_of_get hy)
    rw [hy] at h1
    have h2 := (Array.all_eq_true_iff_forall_mem.1 h1) e he
    rw [hb] at h2
    have hl : e.on < k := by simpa using h2
    have := of_decide_eq_true hk
    exact decide_eq_true (by omega)
  -- the two invariants
  let QI : (Nat → Bool) → Act → World → Prop := fun f a w => ∃ β, (∀ k, k < m0 → β k = β0 k) ∧ (∀ k, m0 ≤ k → w0.heap.size ≤ β k) ∧ Fp0 w0 w ∧ RelF β M1.length (F f) a ∧ Rel E.G β (Mf f) w
  let TI : Nat → Act → World → Prop := fun m a w => ∃ β fr' M', Ext β0 M w0 β M' w ∧ RelF β M'.length fr' a ∧ Rel E.G β M' w ∧ vtail P E (ops.drop m) fr' M' K
  have toT : ∀ f a w, QI f a w → (∀ j, j < n → j < ops.length → f j = true) → TI n a w := fun f a w ⟨β, h1, h2, h3, h4, h5⟩ hall => by
    have eF : F f = F (fun _ => true) := by
      apply List.ext_getElem?
      intro t
      exact putsF_congr _ 0 rs fr fr (fun j o ho _ => by rw [Nat.zero_add]; obtain ⟨q1, q2⟩ := hlo j o ho; exact hall j q1 (lt_of_get q2)) rfl rfl
    have eM : Mf f = Mf (fun _ => true) := by
      apply List.ext_getElem?
      intro q
      show (setsM m0 f 0 cs M1)[q]? = (setsM m0 (fun _ => true) 0 cs M1)[q]?
      by_cases hq : ∃ j, m0 + j = q ∧ j < cs.length
      · obtain ⟨j, hj, hjl⟩ := hq
        refine setsM_congr cs 0 M1 M1 (fun j' hj' => ?_) rfl rfl
        have : j' = j := by omega
        subst this
        rw [hcs] at hjl
        obtain ⟨q1, q2⟩ := hlo j' _ (List.getElem?_eq_getElem hjl)
        exact hall j' q1 (lt_of_get q2)
      · have out : ∀ (g : Nat → Bool), (setsM m0 g 0 cs M1)[q]? = M1[q]? := fun g => by
          cases hx : (setsM m0 g 0 cs M1)[q]? with
          | none =>
            rw [List.getElem?_eq_none_iff, setsM_len] at hx
            exact (List.getElem?_eq_none hx).symm
          | some e =>
            rcases setsM_mem _ _ _ hx with h1 | ⟨j, x, h1, -, -, h3⟩
            · exact h1.symm
            · exact absurd ⟨j, by omega, lt_of_get h1⟩ hq
        rw [out, out]
    refine ⟨β, F f, Mf f, ⟨fun k hk => h1 k (by omega), by rw [hMl]; simp [M1], fun b hb => ?_, h3.mono (fun _ _ h => h.elim), fun k e he => ?_, fun k e hk he => ?_⟩, by rw [hMl]; exact h4, h5, by rw [eF, eM]; exact hK⟩
    · obtain ⟨k, e, he, hr, rfl⟩ := hb
      rcases Nat.lt_or_ge k m0 with q | q
      · left
        have e2 : (Mf f)[k]? = M[k]? := by
          rcases setsM_mem _ _ _ he with h6 | ⟨j, x, -, -, -, h7⟩
          · rw [show (Mf f)[k]? = some e from he, ← h6]; exact List.getElem?_append_left (by omega)
          · omega
        exact ⟨k, e, e2.symm.trans he, hr, (h1 k q).symm⟩
      · exact .inr (h2 k q)
    · have hk := lt_of_get he
      refine ⟨e.c, ?_, fun _ => rfl⟩
      cases hx : (Mf f)[k]? with
      | none => rw [List.getElem?_eq_none_iff, hMl] at hx; simp [M1] at hx; omega
      | some e' =>
        rcases setsM_mem _ _ _ hx with h6 | ⟨j, x, -, -, -, h7⟩
        · have : M1[k]? = M[k]? := List.getElem?_append_left hk
          rw [this, he] at h6
          obtain rfl := Option.some.inj h6
          rfl
        · omega
    · rcases setsM_mem _ _ _ he with h6 | ⟨j, x, -, rfl, -, h7⟩
      · have h8 : M1[k]? = (List.replicate n' (⟨true, .gone⟩ : Ent))[k - M.length]? := List.getElem?_append_right hk
        rw [h8] at h6
        have := List.eq_of_mem_replicate (List.mem_of_getElem? h6)
        subst this; rfl
      · rfl
  have tstep : ∀ m a w o, ops[m]? = some o → TI m a w → OpY P o a w (fun a' w' => TI (m + 1) a' w') := fun m a w o ho ⟨β, fr', M', h1, h2, h3, h4⟩ => by
    have hdrop : ops.drop m = o :: ops.drop (m + 1) := by
      have hl := lt_of_get ho
      rw [List.drop_eq_getElem_cons hl]
      congr 1
      rw [List.getElem?_eq_getElem hl] at ho
      exact Option.some.inj ho
    rw [hdrop] at h4
    refine ⟨vstep_nd h4, _, vstep_ok hE h2 h3 h4, fun v w' hv => ?_⟩
    obtain ⟨β', M2, r, q1, q2, q3, q4⟩ := hv
    rw [putK_eq] at q4
    exact ⟨β', _, M2, h1.trans q1, put_ok (h2.mono q1.len q1.agree) o.dst q3, q2, q4⟩
  have key : RegI P ops a0 w0 (fun a' w' => OutS E.G β0 M w0 K a' w') := by
    refine ⟨(fun f a w => ShutF ops f ∧ (((∀ j, n ≤ j → f j = false) ∧ QI f a w) ∨ ∃ m, n ≤ m ∧ (∀ j, j < m → j < ops.length → f j = true) ∧ (∀ j, m ≤ j → f j = false) ∧ TI m a w)), ?_, ?_, ?_⟩
    · refine ⟨(fun k y _ hk => by cases hk), .inl ⟨fun _ _ => rfl, ?_⟩⟩
      have e1 : F (fun _ => false) = fr := by
        have : ∀ (os : List Oper) (k : Nat) (rs : List SV) (fr : List SV), putsF (fun _ => false) k os rs fr = fr := by
          intro os
          induction os with
          | nil => intro k rs fr; cases rs <;> rfl
          | cons o os ih =>
            intro k rs fr
            cases rs with
            | nil => rfl
            | cons r rs => rw [putsF, if_neg (by simp)]; exact ih _ _ _
        exact this _ _ _ _
      have e2 : Mf (fun _ => false) = M1 := by
        have : ∀ (cs : List (Option Cont)) (k : Nat) (M : Mm), setsM m0 (fun _ => false) k cs M = M := by
          intro cs
          induction cs with
          | nil => intro k M; rfl
          | cons c cs ih =>
            intro k M
            rw [setsM]
            have : setE (m0 + k) false c M = M := by unfold setE; split <;> simp
            rw [this]; exact ih _ _
        exact this _ _ _
      have hR1 := hR0.gones n' (β1 := fun k => if k < M.length then β0 k else w0.heap.size) (fun k hk => by simp [hk])
      refine ⟨fun k => if k < M.length then β0 k else w0.heap.size, fun k hk => by simp [hm0, hk], fun k hk => by simp [hm0]; split <;> omega, Fp.drew w0, ?_, ?_⟩
      · rw [e1]
        exact hF0.mono (by rw [hN]; omega) (fun k hk => by simp [hm0, hk])
      · rw [e2]; exact hR1.step (Fp.drew w0)
    · rintro f a w i x ⟨hS, hI⟩ hf hx hdep
      have hg : n ≤ i → Region.wanted x (yielded ops.toArray a.tmps) = true := fun hni => by
        have hdr : (ops.drop n)[i - n]? = some x := by rw [List.getElem?_drop, show n + (i - n) = i by omega]; exact hx
        have := List.all_eq_true.1 hgd x (List.mem_of_getElem? hdr)
        have hgn : x.guard = none := by simpa using this
        simp [Region.wanted, hgn]
      have hS' : ShutF ops (upd f i) := fun k y hy hk e he hb => by
        have up : ∀ q, f q = true → upd f i q = true := fun q hq => by unfold upd; split; rfl; exact hq
        unfold upd at hk
        split at hk
        · rename_i ek
          subst ek
          rw [hx] at hy
          obtain rfl := Option.some.inj hy
          exact up _ (hdep e he hb)
        · exact up _ (hS k y hy hk e he hb)
      have hall : ∀ j, n ≤ i → j < i → f j = true := fun j hi hj => by
        have hil := lt_of_get hx
        have hdr : (ops.drop n)[i - n]? = some x := by rw [List.getElem?_drop, show n + (i - n) = i by omega]; exact hx
        have := fullOk_get (ops.drop n) n (i - n) x hfull hdr j (by omega)
        rw [show n + (i - n) = i by omega] at this
        exact mask_done hS i x hx hdep j this
      rcases hI with ⟨hlo2, hQ⟩ | ⟨m, hmn, hm1, hm2, hT⟩
      · rcases Nat.lt_or_ge i n with hin | hin
        · -- one of those that read
          obtain ⟨β, h1, h2, h3, h4, h5⟩ := hQ
          have hli := hlt i x hin hx
          obtain ⟨r, c, hr, hc, hstepG⟩ := hst i x hli
          have wEq : wantsF ops (F f) x.guard = wantsF ops (F (fun k => decide (k < i))) x.guard := by
            cases hxg : x.guard with
            | none => rfl
            | some g =>
              obtain ⟨j, want⟩ := g
              cases hoj : ops[j]? with
              | none => simp only [wantsF, gval, gskip, hoj]
              | some oj =>
                cases hdj : oj.dst with
                | none => simp only [wantsF, gval, gskip, hoj, hdj]
                | some d =>
                  have hdo := gdsOk_get (ops.take n) 0 i x hgs hli j want oj d hxg hoj hdj
                  rw [Nat.zero_add] at hdo
                  have hfd : (F f)[d]? = (F (fun k => decide (k < i)))[d]? := by
                    refine putsF_congr _ 0 rs fr fr (fun j o ho hdst => ?_) rfl rfl
                    rw [Nat.zero_add]
                    rcases dsOk_get _ 0 j o hdo ho hdst with e | e
                    · rw [Nat.zero_add] at e; subst e; rw [hf]; simp
                    · rw [Nat.zero_add] at e
                      rw [mask_done hS i x hx hdep j e, decide_eq_true (mask_lt hlow i x hx j e)]
                  simp only [wantsF, gval, gskip, hoj, hdj, hfd]
          have hFu : F (upd f i) = setO (F f) x.dst r := putsF_upd (ops.take n) 0 i rs fr hds hli hr (by omega) hf
          have hMu := setsM_upd (m0 := m0) (f := f) (i := i) (c := c) cs 0 i M1 hc (by omega) hf
          rcases hstepG with ⟨hw, hstep⟩ | ⟨hw, er, ec⟩
          rotate_left
          · subst er ec
            refine .inr ⟨wantsF_ok h4 (wEq.trans hw), hS', .inl ⟨fun j hj => ?_, β, h1, h2, h3, ?_, ?_⟩⟩
            · unfold upd; rw [if_neg (by omega)]; exact hlo2 j hj
            · rw [hFu]
              exact put_ok (d := x.dst) h4 (.inr ⟨rfl, rfl⟩)
            · have : Mf (upd f i) = Mf f := hMu
              rw [this]; exact h5
          refine .inl ⟨wantsF_ok h4 (wEq.trans hw), ?_⟩
          have evEq : ∀ y ∈ x.op.operands.toList, ev (F f) y = ev (F (fun k => decide (k < i))) y := fun y hy => by
            cases y with
            | tmp t =>
              have hdo := opsOk_get (ops.take n) 0 i x hops hli t hy
              rw [Nat.zero_add] at hdo
              show (F f).getD t .any = (F (fun k => decide (k < i))).getD t .any
              rw [List.getD_eq_getElem?_getD, List.getD_eq_getElem?_getD]
              congr 1
              refine putsF_congr _ 0 rs fr fr (fun j o ho hdst => ?_) rfl rfl
              rw [Nat.zero_add]
              rcases dsOk_get _ 0 j o hdo ho hdst with e | e
              · rw [Nat.zero_add] at e; subst e; rw [hf]; simp
              · rw [Nat.zero_add] at e
                rw [mask_done hS i x hx hdep j e, decide_eq_true (mask_lt hlow i x hx j e)]
            | const c => rfl
            | global g => rfl
            | func g => rfl
          have xsEq : x.op.operands.toList.map (ev (F f)) = x.op.operands.toList.map (ev (F (fun k => decide (k < i)))) := List.map_congr_left evEq
          have tgEq : (x.op.operands.toList.map (ev (F f))).map (tgt (Mf f)) = (x.op.operands.toList.map (ev (F (fun k => decide (k < i))))).map (tgt (Mf (fun k => decide (k < i)))) := by
            rw [xsEq, List.map_map, List.map_map]
            apply List.map_congr_left
            intro y hy
            show tgt (Mf f) (ev (F (fun k => decide (k < i))) y) = tgt (Mf (fun k => decide (k < i))) (ev (F (fun k => decide (k < i))) y)
            have both : ev (F (fun k => decide (k < i))) y = .any ∨ ((ev (F (fun k => decide (k < i))) y).allP (dn f) = true ∧ (ev (F (fun k => decide (k < i))) y).allP (dn (fun k => decide (k < i))) = true) := by
              cases y with
              | tmp t =>
                have e0 := evEq _ hy
                cases ht : (F f)[t]? with
                | none =>
                  left
                  rw [← e0]
                  show (F f).getD t .any = .any
                  rw [List.getD_eq_getElem?_getD, ht]; rfl
                | some z =>
                  cases ht2 : (F (fun k => decide (k < i)))[t]? with
                  | none =>
                    left
                    show (F (fun k => decide (k < i))).getD t .any = .any
                    rw [List.getD_eq_getElem?_getD, ht2]; rfl
                  | some z2 =>
                    have ez : ev (F f) (.tmp t) = z := by show (F f).getD t .any = z; rw [List.getD_eq_getElem?_getD, ht]; rfl
                    have ez2 : ev (F (fun k => decide (k < i))) (.tmp t) = z2 := by show (F (fun k => decide (k < i))).getD t .any = z2; rw [List.getD_eq_getElem?_getD, ht2]; rfl
                    have ezz : z = z2 := by rw [← ez, ← ez2, e0]
                    rw [ez2]
                    rcases Fdn f t z hS ht with q1 | q1
                    · left; rw [← ezz]; exact q1
                    · rcases Fdn _ t z2 (shutLt i) ht2 with q2 | q2
                      · exact .inl q2
                      · exact .inr ⟨by rw [← ezz]; exact q1, q2⟩
              | const c =>
                right
                have hc0 : (ofConst c).wf 0 = true := (ofConst_val β c).2.2 0
                have : ∀ g : Nat → Bool, (ofConst c).allP (dn g) = true := fun g => allP_mono (fun k hk => absurd (blt_lt hk) (by omega)) _ (allP_of_wf _ hc0)
                exact ⟨this f, this (fun k => decide (k < i))⟩
              | global g =>
                right
                have hgl : g < m0 := by
                  have hh : ∀ (l : List Operand), globOk E.G.length l = true → Operand.global g ∈ l → g < E.G.length := by
                    intro l
                    induction l with
                    | nil => intro _ h; cases h
                    | cons z l ih =>
                      intro hg2 hz
                      rcases List.mem_cons.1 hz with e | e
                      · subst e; simp only [globOk, Bool.and_eq_true] at hg2; exact blt_lt hg2.1
                      · refine ih ?_ e
                        cases z <;> simp only [globOk, Bool.and_eq_true] at hg2 <;> first | exact hg2 | exact hg2.2
                  have h1 := hh _ hstep.glob hy
                  have h2 := hR0.gl
                  omega
                have : ∀ q : Nat → Bool, dn q g = true := fun q => by simp only [dn, Bool.or_eq_true, Nat.blt_eq]; exact .inl hgl
                exact ⟨this f, this (fun k => decide (k < i))⟩
              | func g => exact .inr ⟨rfl, rfl⟩
            refine tgt_congr (p := fun k => dn f k && dn (fun k => decide (k < i)) k) ?_ (fun k hk => ?_)
            · rcases both with q | ⟨q1, q2⟩
              · exact .inl q
              · right
                exact allP_and _ q1 q2
            · simp only [Bool.and_eq_true] at hk
              refine setsM_congr cs 0 M1 M1 (fun j hj => ?_) rfl rfl
              have e1 := hk.1
              have e2 := hk.2
              simp only [dn, Bool.or_eq_true, Nat.blt_eq] at e1 e2
              rw [← hj, Nat.add_sub_cancel_left] at e1 e2
              rw [e1.resolve_left (by omega), e2.resolve_left (by omega)]
          have hknown : isMove x.op = true ∨ noAny (x.op.operands.toList.map (ev (F f))) = true := by rw [xsEq]; exact hstep.known
          have h4' : RelF β (Mf f).length (F f) a := by rw [hMl]; exact h4
          have noti : ∀ k, dn f k = true → (!(Nat.beq k (m0 + i))) = true := fun k hk => by
            cases hb : Nat.beq k (m0 + i)
            · rfl
            · have := Nat.eq_of_beq_eq_true hb
              subst this
              simp only [dn, Bool.or_eq_true, Nat.blt_eq, Nat.add_sub_cancel_left, hf] at hk
              rcases hk with hk | hk
              · omega
              · cases hk
          cases c with
          | none =>
            obtain ⟨hq, hrr⟩ := hstep.made
            have hq' : qcore P E.T (m0 + i) x.op (x.op.operands.toList.map (ev (F f))) ((x.op.operands.toList.map (ev (F f))).map (tgt (Mf f))) = .ok true r := by rw [tgEq, xsEq]; exact hq
            refine ⟨qcore_nd (by rw [hq']; exact fun e => nomatch e), _, qcore_ok hE.T h4' h5 rfl rfl hstep.glob hknown hq', fun v w' hv => ⟨hS', .inl ⟨fun j hj => ?_, β, h1, h2, h3.trans0 hv.2, ?_, ?_⟩⟩⟩
            · unfold upd; rw [if_neg (by omega)]; exact hlo2 j hj
            · rw [hFu]
              refine put_ok (d := x.dst) h4 ?_
              rcases hv.1 with e | e
              · exact .inl e
              · exact hrr.imp id fun q => ⟨q.1, e⟩
            · have : Mf (upd f i) = Mf f := hMu
              rw [this]; exact h5.step hv.2
          | some y =>
            obtain ⟨hq, hrr, hyy, hyh, hiN⟩ := hstep.made
            have hq' : qcore P E.T (m0 + i) x.op (x.op.operands.toList.map (ev (F f))) ((x.op.operands.toList.map (ev (F f))).map (tgt (Mf f))) = .new true r y := by rw [tgEq, xsEq]; exact hq
            refine ⟨qcore_nd (by rw [hq']; exact fun e => nomatch e), _, qcore_new (T := E.T) h4' h5 rfl hstep.glob hknown hq', fun v w' hv => ?_⟩
            obtain ⟨b, hb, hfp, hv, hh⟩ := hv
            have agP : ∀ k, (!(Nat.beq k (m0 + i))) = true → upd1 β (m0 + i) b k = β k := fun k hk => by
              unfold upd1
              rw [if_neg (fun e => by subst e; simp at hk)]
            have hyP : y.allP (fun q => !(Nat.beq q (m0 + i))) = true := callP_mono (fun k hk => noti k (okdn f i x hS hx hdep k hk)) _ hyy.2
            refine ⟨hS', .inl ⟨fun j hj => ?_, upd1 β (m0 + i) b, fun k hk => ?_, fun k hk => ?_, h3.trans0 hfp, ?_, ?_⟩⟩
            · unfold upd; rw [if_neg (by omega)]; exact hlo2 j hj
            · unfold upd1; rw [if_neg (by omega)]; exact h1 k hk
            · unfold upd1
              split
              · have := h3.size; omega
              · exact h2 k hk
            · rw [hFu]
              refine put_ok (d := x.dst) ⟨h4.size, fun k z hz => ?_, h4.defers⟩ (.inr ⟨hrr.1, hv⟩)
              rcases h4.at' k z hz with e | ⟨e1, e2⟩
              · exact .inl e
              · rcases Fdn f k z hS hz with e | e
                · exact .inl e
                · exact .inr ⟨e1, by rw [e2]; exact (val_agreeP agP z (allP_mono noti z e)).symm⟩
            · have : Mf (upd f i) = (Mf f).set (m0 + i) ⟨true, y⟩ := hMu
              rw [this]
              refine h5.fill ?_ hfp hb (by have := hR0.gl; omega) (fun k e he => callP_mono noti _ (Mdn f k e hS he)) (by rw [hMl]; exact hyy.1) hyP hh
              have e1 : (Mf f)[m0 + i]? = (Mf (fun _ => false))[m0 + i]? := setsM_congr cs 0 M1 M1 (fun j hj => by
                have : j = i := by omega
                subst this; exact hf) rfl rfl
              rw [e1]
              have e2 : ∀ (cs : List (Option Cont)) (k : Nat) (M : Mm), setsM m0 (fun _ => false) k cs M = M := by
                intro cs
                induction cs with
                | nil => intro k M; rfl
                | cons c cs ih =>
                  intro k M
                  rw [setsM]
                  have : setE (m0 + k) false c M = M := by unfold setE; split <;> simp
                  rw [this]; exact ih _ _
              show (setsM m0 (fun _ => false) 0 cs M1)[m0 + i]? = _
              rw [e2]
              show (M ++ List.replicate n' ⟨true, .gone⟩)[m0 + i]? = _
              rw [List.getElem?_append_right (by omega), List.getElem?_replicate, if_pos (by omega)]
        · -- the first that waits for all
          have hin' : i = n := by
            rcases Nat.lt_or_ge n i with q | q
            · have h1 := hall n (by omega) q
              rw [hlo2 n (Nat.le_refl _)] at h1; cases h1
            · omega
          subst hin'
          have hT := toT f a w hQ (fun j hj _ => hall j (Nat.le_refl _) hj)
          refine .inl ⟨hg (Nat.le_refl _), OpY.mono (fun a' w' hT' => ?_) (tstep i a w x hx hT)⟩
          refine ⟨hS', .inr ⟨i + 1, by omega, fun j hj hjl => ?_, fun j hj => ?_, hT'⟩⟩
          · unfold upd
            split
            · rfl
            · exact hall j (Nat.le_refl _) (by omega)
          · unfold upd; rw [if_neg (by omega)]; exact hlo2 j (by omega)
      · have him : i = m := by
          have hil := lt_of_get hx
          rcases Nat.lt_or_ge i m with q | q
          · rw [hm1 i q hil] at hf; cases hf
          · rcases Nat.lt_or_ge m i with q2 | q2
            · have h1 := hall m (by omega) q2
              rw [hm2 m (Nat.le_refl _)] at h1; cases h1
            · omega
        subst him
        refine .inl ⟨hg (by omega), OpY.mono (fun a' w' hT' => ?_) (tstep i a w x hx hT)⟩
        refine ⟨hS', .inr ⟨i + 1, by omega, fun j hj hjl => ?_, fun j hj => ?_, hT'⟩⟩
        · unfold upd
          split
          · rfl
          · exact hm1 j (by omega) hjl
        · unfold upd; rw [if_neg (by omega)]; exact hm2 j (by omega)
    · rintro f a w ⟨hS, hI⟩ hall
      have fin : ∀ m, TI m a w → ops.length ≤ m → OutS E.G β0 M w0 K a w := fun m ⟨β, fr', M', q1, q2, q3, q4⟩ hml => by
        rw [List.drop_eq_nil_of_le hml] at q4
        exact ⟨β, fr', M', q1, q2, q3, q4⟩
      rcases hI with ⟨hlo2, hQ⟩ | ⟨m, hmn, hm1, hm2, hT⟩
      · refine fin n (toT f a w hQ fun j _ hj => hall j (by omega)) ?_
        rcases Nat.lt_or_ge n ops.length with q | q
        · have := hall n (by omega)
          rw [hlo2 n (Nat.le_refl _)] at this; cases this
        · exact q
      · refine fin m hT ?_
        rcases Nat.lt_or_ge m ops.length with q | q
        · have := hall m (by omega)
          rw [hm2 m (Nat.le_refl _)] at this; cases this
        · exact q
  exact key
/-- In whatever way they wait for one another: where nobody is ready all are done. -/
def AllL (ops : Array Oper) : Prop := ∀ listed : Array Bool, listed.size = ops.size → Region.ready .any ops listed = [] → ∀ i, i < ops.size → listed.getD i false = true
theorem allL_low {l : List Oper} {o : Oper} (hlow : lowB (l ++ [o]) = true) : AllL (l ++ [o]).toArray := by
  intro listed hz hr i hi
  have hi2 : i < (l ++ [o]).length := by simpa using hi
  rcases all_listed hlow hr i hi2 with h | h
  · have : i < listed.size := by omega
    simp [this] at h ⊢
    exact h
  · omega
structure PrmOk (ord : List Nat) (ops : List Oper) : Prop where
  len : ord.length = ops.length
  back : ∀ k, k < ops.length → idxN (ord.getD k k) ord = k ∧ ord.getD k k < ops.length
  forth : ∀ k, k < ops.length → ord.getD (idxN k ord) (idxN k ord) = k ∧ idxN k ord < ops.length
  deps : ∀ o ∈ ops, (∀ e ∈ o.after, e.on < ops.length) ∧ ∀ g, o.guard = some g → g.1 < ops.length
theorem prmOk_iff {ord : List Nat} {ops : List Oper} (h : prmOk ord ops = true) : PrmOk ord ops := by
  unfold prmOk at h
  simp only [Bool.and_eq_true, List.all_eq_true, List.mem_range] at h
  obtain ⟨⟨h1, h2⟩, h3⟩ := h
  refine ⟨Nat.eq_of_beq_eq_true h1, fun k hk => ?_, fun k hk => ?_, fun o ho => ?_⟩
  · obtain ⟨⟨⟨q1, q2⟩, q3⟩, q4⟩ := h2 k hk
    exact ⟨Nat.eq_of_beq_eq_true q1, blt_lt q2⟩
  · obtain ⟨⟨⟨q1, q2⟩, q3⟩, q4⟩ := h2 k hk
    exact ⟨Nat.eq_of_beq_eq_true q3, blt_lt q4⟩
  · obtain ⟨q1, q2⟩ := h3 o ho
    refine ⟨fun e he => blt_lt (q1 e (by simpa using he)), fun g hg => ?_⟩
    rw [hg] at q2
    exact blt_lt q2
theorem prms_get {ord : List Nat} {ops : List Oper} (h : PrmOk ord ops) {i : Nat} {o : Oper} (ho : ops[i]? = some o) : (prms ord ops)[idxN i ord]? = some (prm ord o) := by
  have hi : i < ops.length := (List.getElem?_eq_some_iff.1 ho).1
  obtain ⟨q1, q2⟩ := h.forth i hi
  unfold prms
  rw [List.getElem?_map]
  have hl : idxN i ord < ord.length := by rw [h.len]; exact q2
  rw [List.getElem?_eq_getElem hl, Option.map_some]
  have e : ord[idxN i ord] = i := by
    rw [List.getD_eq_getElem?_getD, List.getElem?_eq_getElem hl] at q1
    exact q1
  rw [e, ho]
theorem prms_len {ord : List Nat} {ops : List Oper} (h : PrmOk ord ops) : (prms ord ops).length = ops.length := by
  unfold prms
  rw [List.length_map, h.len]
theorem allL_prm {ord : List Nat} {ops : List Oper} (h : PrmOk ord ops) (hA : AllL (prms ord ops).toArray) : AllL ops.toArray := by
  intro listed hz hr i hi
  have hi : i < ops.length := by simpa using hi
  have hz : listed.size = ops.length := by simpa using hz
  have hg : ∀ k, k < ops.length → ∀ d, ((List.range ops.length).map fun k => listed.getD (ord.getD k k) false).toArray.getD k d = listed.getD (ord.getD k k) false := fun k hk d => by
    rw [Array.getD_eq_getD_getElem?]
    simp [hk]
  have := hA ((List.range ops.length).map fun k => listed.getD (ord.getD k k) false).toArray (by simp [prms_len h]) ?_ (idxN i ord) (by simpa [prms_len h] using (h.forth i hi).2)
  · rw [hg _ (h.forth i hi).2, (h.forth i hi).1] at this
    exact this
  · apply List.eq_nil_iff_forall_not_mem.2
    intro k hk
    obtain ⟨h0, o, ho, hd⟩ := mem_ready.1 hk
    have hk2 : k < ops.length := by
      have := (Array.getElem?_eq_some_iff.1 ho).1
      simpa [prms_len h] using this
    obtain ⟨q1, q2⟩ := h.back k hk2
    obtain ⟨x, hx⟩ : ∃ x, ops[ord.getD k k]? = some x := ⟨_, List.getElem?_eq_getElem q2⟩
    have hp := prms_get h hx
    rw [q1] at hp
    have hox : o = prm ord x := by
      have : (prms ord ops).toArray[k]? = some (prm ord x) := by simpa using hp
      rw [this] at ho
      exact (Option.some.inj ho).symm
    subst hox
    have hmem : ord.getD k k ∈ Region.ready .any ops.toArray listed := by
      refine mem_ready.2 ⟨?_, x, by simpa using hx, fun e he hb => ?_⟩
      · rw [hg k hk2] at h0
        have hlt : ord.getD k k < listed.size := by omega
        generalize ord.getD k k = y at h0 hlt ⊢
        simp [hlt] at h0 ⊢
        exact h0
      · have h1 := hd { e with on := idxN e.on ord } (by simp only [prm, Array.mem_map]; exact ⟨e, he, rfl⟩) hb
        have hon := (h.deps x (List.mem_of_getElem? hx)).1 e he
        dsimp only at h1
        rw [hg _ (h.forth _ hon).2, (h.forth _ hon).1] at h1
        exact h1
    rw [hr] at hmem
    cases hmem
theorem prm_wanted {ord : List Nat} {ops : List Oper} (h : PrmOk ord ops) {x : Oper} (hx : x ∈ ops) (tmps : Array Value) : Region.wanted (prm ord x) (yielded (prms ord ops).toArray tmps) = Region.wanted x (yielded ops.toArray tmps) := by
  unfold Region.wanted prm
  cases hg : x.guard with
  | none => rfl
  | some g =>
    obtain ⟨j, b⟩ := g
    have hj := (h.deps x hx).2 _ hg
    have e : yielded (prms ord ops).toArray tmps (idxN j ord) = yielded ops.toArray tmps j := by
      unfold yielded
      have := prms_get h (List.getElem?_eq_getElem hj)
      simp only [List.getElem?_toArray, this, List.getElem?_eq_getElem hj]
      rfl
    simp only [Option.map_some, e]
theorem regI_prm {P : Program} {ord : List Nat} {ops : List Oper} (h : PrmOk ord ops) {a : Act} {w : World} {Kf : Act → World → Prop} (hR : RegI P (prms ord ops) a w Kf) : RegI P ops a w Kf := by
  obtain ⟨I, h0, hs, he⟩ := hR
  refine ⟨fun f a w => I (fun k => f (ord.getD k k)) a w, h0, fun f a w i x hI hf hx hd => ?_, fun f a w hI hall => he _ a w hI fun k hk => hall _ (h.back k (by rw [prms_len h] at hk; exact hk)).2⟩
  have hi : i < ops.length := (List.getElem?_eq_some_iff.1 hx).1
  obtain ⟨q1, q2⟩ := h.forth i hi
  have eU : (fun k => upd f i (ord.getD k k)) = upd (fun k => f (ord.getD k k)) (idxN i ord) := by
    funext k
    unfold upd
    by_cases hk : k = idxN i ord
    · subst hk; rw [q1, if_pos rfl, if_pos rfl]
    · rw [if_neg hk, if_neg]
      intro e
      rcases Nat.lt_or_ge k ops.length with hlt | hge
      · exact hk (by rw [← e]; exact (h.back k hlt).1.symm)
      · rw [List.getD_eq_getElem?_getD, List.getElem?_eq_none (by rw [h.len]; exact hge)] at e
        dsimp only [Option.getD] at e
        omega
  have := hs (fun k => f (ord.getD k k)) a w (idxN i ord) (prm ord x) hI (by rw [q1]; exact hf) (prms_get h hx) (fun e he hb => by
    simp only [prm, Array.mem_map] at he
    obtain ⟨e0, he0, rfl⟩ := he
    dsimp only
    rw [(h.forth _ ((h.deps x (List.mem_of_getElem? hx)).1 e0 he0)).1]
    exact hd e0 he0 hb)
  rw [prm_wanted h (List.mem_of_getElem? hx)] at this
  show (_ ∧ OpY P x a w fun a' w' => I (fun k => upd f i (ord.getD k k)) a' w') ∨ (_ ∧ I (fun k => upd f i (ord.getD k k)) _ w)
  rw [eU]
  exact this
theorem wp_region_all {P : Program} {id : Nat} {Q : Exit → Act → World → Prop} {a : Act} {w : World} (ops : List Oper) (hm : P.follows .mixedOrders = true) (hA : AllL ops.toArray) (I : (Nat → Bool) → Act → World → Prop)
    (h0 : I (fun _ => false) a { w with drawn := w.drawn + 1 })
    (hs : ∀ (f : Nat → Bool) (a : Act) (w : World) (i : Nat) (x : Oper), I f a w → f i = false → ops[i]? = some x → (∀ e ∈ x.after, Region.binds .any e = true → f e.on = true) → (Region.wanted x (yielded ops.toArray a.tmps) = true ∧ x.wp P a w (fun a' w' => I (upd f i) a' w') Q) ∨ (Region.wanted x (yielded ops.toArray a.tmps) = false ∧ I (upd f i) (a.put x.dst undef) w))
    (he : ∀ (f : Nat → Bool) (a : Act) (w : World), I f a w → (∀ i, i < ops.length → f i = true) → Q .normal a w) : (Code.region id ops.toArray true).wp P Q a w := by
  refine wp_region_any hm ?_
  refine wpAny_inv I (fun f a w i x hI hf hx hd => hs f a w i x hI hf (by simpa using hx) hd) (fun f a w hI hf => he f a w hI (fun i hi => hf i (by simpa using hi))) hA _ _ (List.range ops.toArray.size) a _ (by simp) (by simp) ?_ ?_
  · intro i hi
    rcases Nat.lt_or_ge i ops.toArray.size with h | h
    · simpa using h
    · have : ¬ i < (Array.replicate ops.toArray.size false).size := by simp at h ⊢; omega
      rw [Array.getD_eq_getD_getElem?, Array.getElem?_eq_none (Nat.le_of_not_lt this)] at hi
      cases hi
  · have e : (fun k => (Array.replicate ops.toArray.size false).getD k false) = fun _ => false := by
      funext k
      simp [Array.getD_eq_getD_getElem?, Array.getElem?_replicate]
      split <;> simp
    rw [e]; exact h0
theorem wpIn_region_all {P : Program} {R : Option Nat} {m : Nat} {id : Nat} {Q : Exit → Act → World → Prop} {a : Act} {w : World} (ops : List Oper) (hm : P.follows .mixedOrders = true) (hA : AllL ops.toArray) (I : (Nat → Bool) → Act → World → Prop)
    (h0 : I (fun _ => false) a { w with drawn := w.drawn + 1 })
    (hs : ∀ (f : Nat → Bool) (a : Act) (w : World) (i : Nat) (x : Oper), I f a w → f i = false → ops[i]? = some x → (∀ e ∈ x.after, Region.binds .any e = true → f e.on = true) → (Region.wanted x (yielded ops.toArray a.tmps) = true ∧ OpY P x a w (fun a' w' => I (upd f i) a' w')) ∨ (Region.wanted x (yielded ops.toArray a.tmps) = false ∧ I (upd f i) (a.put x.dst undef) w))
    (he : ∀ (f : Nat → Bool) (a : Act) (w : World), I f a w → (∀ i, i < ops.length → f i = true) → Q .normal a w) : (Code.region id ops.toArray true).wpIn (fen R) m P Q a w := by
  refine wpIn_region_any hm ?_
  refine wpAnyIn_inv I (fun f a w i x hI hf hx hd => hs f a w i x hI hf (by simpa using hx) hd) (fun f a w hI hf => he f a w hI (fun i hi => hf i (by simpa using hi))) hA _ _ (List.range ops.toArray.size) a _ (by simp) (by simp) ?_ ?_
  · intro i hi
    rcases Nat.lt_or_ge i ops.toArray.size with h | h
    · simpa using h
    · have : ¬ i < (Array.replicate ops.toArray.size false).size := by simp at h ⊢; omega
      rw [Array.getD_eq_getD_getElem?, Array.getElem?_eq_none (Nat.le_of_not_lt this)] at hi
      cases hi
  · have e : (fun k => (Array.replicate ops.toArray.size false).getD k false) = fun _ => false := by
      funext k
      simp [Array.getD_eq_getD_getElem?, Array.getElem?_replicate]
      split <;> simp
    rw [e]; exact h0
theorem vdraw_reg {P : Program} {E : Env} (hE : EnvOk P E) {ops : List Oper} {fr : List SV} {M : Mm} {K : List SV → Mm → Prop} (h : vdraw P E ops fr M K) : AllL ops.toArray ∧ ∀ β0 a0 w0, RelF β0 M.length fr a0 → Rel E.G β0 M w0 → RegI P ops a0 w0 (fun a' w' => OutS E.G β0 M w0 K a' w') := by
  unfold vdraw at h
  cases hl : lowB ops <;> rw [hl] at h
  · simp only [cond_false, ordK_eq] at h
    obtain ⟨hp, h⟩ := vsome_iff.1 h
    have hp := prmOk_iff hp
    obtain ⟨hlow, ⟨l, o, e⟩, hreg⟩ := vdrawN_reg hE h
    refine ⟨allL_prm hp ?_, fun β0 a0 w0 h1 h2 => regI_prm hp (hreg β0 a0 w0 h1 h2)⟩
    rw [e] at hlow ⊢
    exact allL_low hlow
  · obtain ⟨hlow, ⟨l, o, e⟩, hreg⟩ := vdrawN_reg hE h
    refine ⟨?_, hreg⟩
    rw [e] at hlow ⊢
    exact allL_low hlow
theorem vdraw_ok {P : Program} {E : Env} (hE : EnvOk P E) (hm : P.follows .mixedOrders = true) {rid : Nat} {ops : List Oper} {fr : List SV} {M : Mm} {K : List SV → Mm → Prop} (h : vdraw P E ops fr M K) : Wq P E.G (.region rid ops.toArray true) fr M (fun e fr' M' => e = .normal ∧ K fr' M') := by
  obtain ⟨hA, hreg⟩ := vdraw_reg hE h
  intro β0 a0 w0 hF0 hR0
  obtain ⟨I, h0, hs, he⟩ := hreg β0 a0 w0 hF0 hR0
  refine wp_region_all ops hm hA I h0 (fun f a w i x hI hf hx hd => (hs f a w i x hI hf hx hd).imp (fun h => ⟨h.1, h.2.wp⟩) id) (fun f a w hI hall => ?_)
  obtain ⟨β', fr', M', q1, q2, q3, q4⟩ := he f a w hI hall
  exact ⟨β', fr', M', q1, q2, q3, rfl, q4⟩
end Go.Proofs.YtdfghknonbmadaaDoor
