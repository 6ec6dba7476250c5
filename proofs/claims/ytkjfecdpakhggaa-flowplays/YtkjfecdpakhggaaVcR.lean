/-
  A reckoner of conditions: regions that draw their order. No statement is proved here.
-/
import Derived.Test.YtkjfecdpakhggaaVcQ
import Derived.OrdersIn
import Derived.TacticsIn
namespace Go.Proofs.Ytkjfecdpakhggaa
open Go.RowKit
set_option linter.unusedVariables false
set_option linter.unusedSimpArgs false

section
variable {P : Program} {E : Env} {m0 : Nat} {ms : List Nat}
theorem putsF_mem {f : Nat → Bool} {t : Nat} {y : SV} : ∀ (os : List Oper) (k : Nat) (rs : List SV) (fr : List SV), (putsF f k os rs fr)[t]? = some y → fr[t]? = some y ∨ ∃ j o, os[j]? = some o ∧ rs[j]? = some y ∧ f (k + j) = true := by
  intro os
  induction os with
  | nil => intro k rs fr h; cases rs <;> exact .inl h
  | cons o os ih =>
    intro k rs fr h
    cases rs with
    | nil => exact .inl h
    | cons r rs =>
      rw [putsF] at h
      rcases ih (k + 1) rs _ h with h1 | ⟨j, x, h1, h2, h3⟩
      · split at h1
        · rename_i hf
          unfold setO at h1
          split at h1
          · exact .inl h1
          · rename_i d hd
            rw [List.getElem?_set] at h1
            split at h1
            · split at h1
              · obtain rfl := Option.some.inj h1
                exact .inr ⟨0, o, rfl, rfl, by rw [Nat.add_zero]; exact hf⟩
              · cases h1
            · exact .inl h1
        · exact .inl h1
      · exact .inr ⟨j + 1, x, h1, h2, by rw [show k + (j + 1) = k + 1 + j by omega]; exact h3⟩
theorem setsM_mem {f : Nat → Bool} {q : Nat} {e : Ent} : ∀ (cs : List (Option Cont)) (k : Nat) (M : Mm), (setsM m0 f k cs M)[q]? = some e → M[q]? = some e ∨ ∃ j x, cs[j]? = some (some x) ∧ e = ⟨true, x⟩ ∧ f (k + j) = true ∧ q = m0 + (k + j) := by
  intro cs
  induction cs with
  | nil => intro k M h; exact .inl h
  | cons c cs ih =>
    intro k M h
    rw [setsM] at h
    rcases ih (k + 1) _ h with h1 | ⟨j, x, h1, h2, h3, h4⟩
    · unfold setE at h1
      split at h1
      · rename_i x
        split at h1
        · rename_i hf
          rw [List.getElem?_set] at h1
          split at h1
          · rename_i hq
            split at h1
            · obtain rfl := Option.some.inj h1
              exact .inr ⟨0, x, rfl, rfl, by rw [Nat.add_zero]; exact hf, by rw [Nat.add_zero]; exact hq.symm⟩
            · cases h1
          · exact .inl h1
        · exact .inl h1
      · exact .inl h1
    · exact .inr ⟨j + 1, x, h1, h2, by rw [show k + (j + 1) = k + 1 + j by omega]; exact h3, by omega⟩
end
section
variable {nG : Mm} {β : Nat → Nat} {M : Mm} {w w' : World}
/-- A place that was kept free is filled with a new block. -/
theorem Rel.fill (h : Rel nG β M w) {p b : Nat} {x : Cont} (hp : M[p]? = some ⟨true, .gone⟩) (hF : Fp0 w w') (hb : w.heap.size ≤ b) (hG : nG.length ≤ p) (hm : ∀ (k : Nat) (e : Ent), M[k]? = some e → e.c.allP (fun q => !(Nat.beq q p)) = true) (hx : x.wf M.length = true) (hx2 : x.allP (fun q => !(Nat.beq q p)) = true) (hh : Holds w' b true (x.cells β) x.shp) (hn : x.isRes = false) :
    Rel nG (upd1 β p b) (M.set p ⟨true, x⟩) w' := by
  have ag : ∀ q, (!(Nat.beq q p)) = true → upd1 β p b q = β q := fun q hq => by
    unfold upd1
    rw [if_neg (fun e => by subst e; simp at hq)]
  have agn : ∀ q, q ≠ p → upd1 β p b q = β q := fun q hq => by unfold upd1; rw [if_neg hq]
  have agp : upd1 β p b p = b := by unfold upd1; rw [if_pos rfl]
  have hl := lt_of_get hp
  have h1 := h.step hF
  have get : ∀ (i : Nat) (e : Ent), (M.set p ⟨true, x⟩)[i]? = some e → (i ≠ p ∧ M[i]? = some e) ∨ (i = p ∧ e = ⟨true, x⟩) := fun i e he => by
    by_cases q : p = i
    · subst q; rw [List.getElem?_set_self hl] at he; exact .inr ⟨rfl, (Option.some.inj he).symm⟩
    · rw [List.getElem?_set_ne q] at he; exact .inl ⟨Ne.symm q, he⟩
  refine ⟨fun k e he hc => ?_, fun i j u v hu hv hij hr huc hvc => ?_, fun g hg => ?_, by simpa using h.gl, fun k hk => ?_, h.ro, fun k e he => ?_⟩
  · rcases get k e he with ⟨q, hM⟩ | ⟨rfl, rfl⟩
    · rw [agn k q, at_agreeP ag _ (hm k e hM)]; exact h1.all k e hM hc
    · rw [agp, at_agreeP ag _ hx2]; exact (At_of hn).2 hh
  · rcases get i u hu with ⟨qi, hi⟩ | ⟨ei, rfl⟩
    · rcases get j v hv with ⟨qj, hj⟩ | ⟨ej, rfl⟩
      · rw [agn i qi, agn j qj]; exact h.dis i j u v hi hj hij hr huc hvc
      · rw [agn i qi, ej, agp]; intro c hc1 hc2; have := (h.all i u hi huc).lt hc1; have := (own_of hn).1 hc2; omega
    · rcases get j v hv with ⟨qj, hj⟩ | ⟨ej, rfl⟩
      · rw [agn j qj, ei, agp]; intro c hc2 hc1; have := (h.all j v hj hvc).lt hc1; have := (own_of hn).1 hc2; omega
      · omega
  · rw [agn g (by omega)]; exact h.glob g hg
  · rw [List.getElem?_set_ne (by omega)]; exact h.pre k hk
  · rcases get k e he with ⟨q, hM⟩ | ⟨rfl, rfl⟩
    · simpa using h.wf k e hM
    · simpa using hx
theorem Rel.gones (h : Rel nG β M w) (n : Nat) {β1 : Nat → Nat} (ag : ∀ k, k < M.length → β1 k = β k) : Rel nG β1 (M ++ List.replicate n ⟨true, .gone⟩) w := by
  have get : ∀ (k : Nat) (e : Ent), (M ++ List.replicate n ⟨true, .gone⟩)[k]? = some e → (k < M.length ∧ M[k]? = some e) ∨ e = ⟨true, .gone⟩ := fun k e he => by
    rcases Nat.lt_or_ge k M.length with q | q
    · rw [List.getElem?_append_left q] at he; exact .inl ⟨q, he⟩
    · rw [List.getElem?_append_right q] at he
      exact .inr (List.eq_of_mem_replicate (List.mem_of_getElem? he))
  refine ⟨fun k e he hc => ?_, fun i j u v hu hv hij hr huc hvc => ?_, fun g hg => ?_, by simp; have := h.gl; omega, fun k hk => ?_, h.ro, fun k e he => ?_⟩
  · rcases get k e he with ⟨q, hM⟩ | rfl
    · rw [ag k q, at_agree ag _ (h.wf k e hM)]; exact h.all k e hM hc
    · cases hc
  · rcases get i u hu with ⟨qi, hi⟩ | rfl
    · rcases get j v hv with ⟨qj, hj⟩ | rfl
      · rw [ag i qi, ag j qj]; exact h.dis i j u v hi hj hij hr huc hvc
      · cases hvc
    · cases huc
  · rw [ag g (Nat.lt_of_lt_of_le hg h.gl)]; exact h.glob g hg
  · rw [List.getElem?_append_left (Nat.lt_of_lt_of_le hk h.gl)]; exact h.pre k hk
  · rcases get k e he with ⟨q, hM⟩ | rfl
    · exact cwf_mono (by simp) _ (h.wf k e hM)
    · rfl
end
mutual
theorem allP_and {p q : Nat → Bool} : ∀ (x : SV), x.allP p = true → x.allP q = true → x.allP (fun k => p k && q k) = true
  | .any, h, _ => h
  | .v _, h, _ | .i _, h, _ | .b _, h, _ | .w64 _, h, _ | .w32 _, h, _ | .w16 _, h, _ | .w8 _, h, _ | .s _, h, _ | .a64 _, h, _ | .a32 _, h, _ | .a8 _, h, _ => rfl
  | .ptr k off, h, g | .sl k off _ _, h, g | .pe k _ _ _ _, h, g | .rs k _ _ _ _ _, h, g | .ns _ k _ _ _, h, g | .mp k, h, g => by simp only [SV.allP, Bool.and_eq_true] at h g ⊢; exact ⟨h, g⟩
  | .agg l, h, g | .tup l, h, g | .fn _ l, h, g | .fm _ l, h, g => allPs_and l h g
theorem allPs_and {p q : Nat → Bool} : ∀ (l : List SV), SV.allP.allPs p l = true → SV.allP.allPs q l = true → SV.allP.allPs (fun k => p k && q k) l = true
  | [], _, _ => rfl
  | x :: l, h, g => by
    simp only [SV.allP.allPs, Bool.and_eq_true] at h g ⊢
    exact ⟨allP_and x h.1 g.1, allPs_and l h.2 g.2⟩
end
theorem tgt_congr {M M' : Mm} {y : SV} {p : Nat → Bool} (hy : y = .any ∨ y.allP p = true) (h : ∀ k, p k = true → M[k]? = M'[k]?) : tgt M y = tgt M' y := by
  rcases hy with rfl | hy
  · rfl
  · cases y <;> try first | rfl | (simp only [tgt]; rw [h _ hy]; done)
    rename_i f l
    match l, hy with
    | [], _ => rfl
    | [.ptr k off], hy =>
      simp only [SV.allP, SV.allP.allPs, Bool.and_true] at hy
      simp only [tgt]
      rw [h _ hy]
    | [.any], _ | [.v _], _ | [.i _], _ | [.b _], _ | [.w64 _], _ | [.w32 _], _ | [.w16 _], _ | [.w8 _], _ | [.s _], _ | [.sl _ _ _ _], _ | [.a64 _], _ | [.a32 _], _ | [.a8 _], _ | [.agg _], _ | [.tup _], _ | [.fn _ _], _ | [.pe _ _ _ _ _], _ | [.rs _ _ _ _ _ _], _ | [.ns _ _ _ _ _], _ | [.mp _], _ | [.fm _ _], _ => rfl
    | .any :: _ :: _, _ | .v _ :: _ :: _, _ | .i _ :: _ :: _, _ | .b _ :: _ :: _, _ | .w64 _ :: _ :: _, _ | .w32 _ :: _ :: _, _ | .w16 _ :: _ :: _, _ | .w8 _ :: _ :: _, _ | .s _ :: _ :: _, _ | .ptr _ _ :: _ :: _, _ | .sl _ _ _ _ :: _ :: _, _ | .a64 _ :: _ :: _, _ | .a32 _ :: _ :: _, _ | .a8 _ :: _ :: _, _ | .agg _ :: _ :: _, _ | .tup _ :: _ :: _, _ | .fn _ _ :: _ :: _, _ | .pe _ _ _ _ _ :: _ :: _, _ | .rs _ _ _ _ _ _ :: _ :: _, _ | .ns _ _ _ _ _ :: _ :: _, _ | .mp _ :: _ :: _, _ | .fm _ _ :: _ :: _, _ => rfl
/-- An operation that yields, and is no deferring. -/
def OpY (P : Program) (x : Oper) (a : Act) (w : World) (K : Act → World → Prop) : Prop := (∀ c, x.op ≠ .defer c) ∧ ∃ Rr, Yl P a.eval x w Rr ∧ ∀ v w', Rr v w' → K (a.put x.dst v) w'
theorem OpY.wp {P : Program} {x : Oper} {a : Act} {w : World} {K : Act → World → Prop} {Q : Exit → Act → World → Prop} (h : OpY P x a w K) : x.wp P a w K Q := by
  obtain ⟨-, Rr, h1, h2⟩ := h
  exact h1.wp h2
theorem OpY.mono {P : Program} {x : Oper} {a : Act} {w : World} {K K' : Act → World → Prop} (hK : ∀ a w, K a w → K' a w) (h : OpY P x a w K) : OpY P x a w K' := by
  obtain ⟨h0, Rr, h1, h2⟩ := h
  exact ⟨h0, Rr, h1, fun v w' hv => hK _ _ (h2 v w' hv)⟩
/-- Everything is let in; the frame may be a round's. -/
def fen (R : Option Nat) : Fence := { Fence.wide with round := R }
theorem OpY.wpIn {P : Program} {x : Oper} {a : Act} {w : World} {K : Act → World → Prop} {Q : Exit → Act → World → Prop} {R : Option Nat} {n : Nat} (h : OpY P x a w K) : x.wpIn (fen R) n P a w K Q := by
  obtain ⟨h0, Rr, h1, h2⟩ := h
  refine ⟨fun _ _ => trivial, ?_⟩
  have e : Oper.semAt (fen R).round a.eval x = execOp a.eval x := by
    cases R with
    | none => rfl
    | some l => exact Oper.semAt_some l _ _ h0
  rw [e]
  rcases h1 with ⟨v, W', q1, q2⟩ | ⟨W', q1, q2⟩ | ⟨f, args, q1, q2⟩
  · rw [q1]; exact h2 _ _ q2
  · rw [q1]; exact h2 _ _ q2
  · rw [q1]
    refine ⟨fun h => (by cases h), ?_⟩
    have := (callsIn_wide (n := n - 1)).2 (q2.mono (R' := fun
      | .returned v, w'' => K (a.put x.dst v) w''
      | .panicked chain, w'' => Q (.panic chain) a w''
      | .outgrown, _ => LetsOut Q) fun e W' ⟨v, he, hR⟩ => by subst he; exact h2 _ _ hR)
    exact this
theorem wpAnyIn_inv {P : Program} {R : Option Nat} {m : Nat} {Q : Exit → Act → World → Prop} {ops : Array Oper} (I : (Nat → Bool) → Act → World → Prop)
    (hs : ∀ (f : Nat → Bool) (a : Act) (w : World) (i : Nat) (o : Oper), I f a w → f i = false → ops[i]? = some o → (∀ e ∈ o.after, Region.binds .any e = true → f e.on = true) → (Region.wanted o (yielded ops a.tmps) = true ∧ OpY P o a w (fun a' w' => I (upd f i) a' w')) ∨ (Region.wanted o (yielded ops a.tmps) = false ∧ I (upd f i) (a.put o.dst undef) w))
    (he : ∀ (f : Nat → Bool) (a : Act) (w : World), I f a w → (∀ i, i < ops.size → f i = true) → Q .normal a w) (hall : ∀ listed : Array Bool, listed.size = ops.size → Region.ready .any ops listed = [] → ∀ i, i < ops.size → listed.getD i false = true) :
    ∀ (fuel : Nat) (listed : Array Bool) (us : List Nat) (a : Act) (w : World), listed.size = ops.size → us.length ≤ fuel → (∀ i, listed.getD i true = false → i ∈ us) → I (fun k => listed.getD k false) a w → wpAnyIn (fen R) m P .any ops Q fuel listed a w := by
  intro fuel
  induction fuel with
  | zero =>
    intro listed us a w hz hu hi hI
    have hr : Region.ready .any ops listed = [] := by
      apply List.eq_nil_iff_forall_not_mem.2
      intro k hk
      have := hi k (mem_ready.1 hk).1
      have hu0 : us = [] := List.length_eq_zero_iff.1 (by omega)
      rw [hu0] at this
      cases this
    exact ⟨hr, he _ a w hI (hall listed hz hr)⟩
  | succ fuel ih =>
    intro listed us a w hz hu hi hI
    refine ⟨fun hr => he _ a w hI (hall listed hz hr), fun i hr => ?_⟩
    obtain ⟨h0, o, ho, hd⟩ := mem_ready.1 hr
    have hlt : i < ops.size := (Array.getElem?_eq_some_iff.1 ho).1
    have hlt2 : i < listed.size := by omega
    have hf : listed.getD i false = false := by
      simp [hlt2] at h0 ⊢
      exact h0
    have go : ∀ a' w', I (upd (fun k => listed.getD k false) i) a' w' → wpAnyIn (fen R) m P .any ops Q fuel (listed.setIfInBounds i true) a' w' := fun a' w' hI' => by
      refine ih _ (us.erase i) a' w' (by simpa using hz) ?_ ?_ ?_
      · have := List.length_erase_of_mem (hi i h0)
        omega
      · intro j hj
        have hji : j ≠ i := by
          intro e
          subst e
          simp [hlt2] at hj
        rw [getD_set_ne true (Ne.symm hji)] at hj
        exact (List.mem_erase_of_ne hji).2 (hi j hj)
      · have e : (fun k => (listed.setIfInBounds i true).getD k false) = (fun k => if k = i then true else listed.getD k false) := by
          funext k
          by_cases hk : k = i
          · subst hk
            simp [hlt2]
          · rw [if_neg hk, getD_set_ne false (Ne.symm hk)]
        rw [e]; exact hI'
    unfold wpOpIn
    rcases hs _ a w i o hI hf ho hd with ⟨hwant, hw⟩ | ⟨hwant, hw⟩
    · simp only [ho, hwant, if_true]
      exact (OpY.mono (fun a' w' hI' => go a' w' hI') hw).wpIn
    · simp only [ho, hwant, Bool.false_eq_true, if_false]
      exact ⟨fun _ _ => trivial, go _ _ hw⟩
theorem wpIn_region_inv {P : Program} {R : Option Nat} {m : Nat} {id : Nat} {Q : Exit → Act → World → Prop} {a : Act} {w : World} (l : List Oper) (o : Oper) (hm : P.follows .mixedOrders = true) (hlow : lowB (l ++ [o]) = true) (I : (Nat → Bool) → Act → World → Prop)
    (h0 : I (fun _ => false) a { w with drawn := w.drawn + 1 })
    (hs : ∀ (f : Nat → Bool) (a : Act) (w : World) (i : Nat) (x : Oper), I f a w → f i = false → (l ++ [o])[i]? = some x → (∀ e ∈ x.after, Region.binds .any e = true → f e.on = true) → (Region.wanted x (yielded (l ++ [o]).toArray a.tmps) = true ∧ OpY P x a w (fun a' w' => I (upd f i) a' w')) ∨ (Region.wanted x (yielded (l ++ [o]).toArray a.tmps) = false ∧ I (upd f i) (a.put x.dst undef) w))
    (he : ∀ (f : Nat → Bool) (a : Act) (w : World), I f a w → (∀ i, i < l.length + 1 → f i = true) → Q .normal a w) : (Code.region id (l ++ [o]).toArray true).wpIn (fen R) m P Q a w := by
  refine wpIn_region_any hm ?_
  refine wpAnyIn_inv I (fun f a w i x hI hf hx hd => hs f a w i x hI hf (by simpa using hx) hd) (fun f a w hI hf => he f a w hI (fun i hi => hf i (by simpa using hi))) ?_ _ _ (List.range (l ++ [o]).toArray.size) a _ (by simp) (by simp) ?_ ?_
  · intro listed hz hr i hi
    have hi2 : i < (l ++ [o]).length := by simpa using hi
    rcases all_listed hlow hr i hi2 with h | h
    · have : i < listed.size := by omega
      simp [this] at h ⊢
      exact h
    · omega
  · intro i hi
    rcases Nat.lt_or_ge i (l ++ [o]).toArray.size with h | h
    · simpa using h
    · have : ¬ i < (Array.replicate (l ++ [o]).toArray.size false).size := by simp at h ⊢; omega
      rw [Array.getD_eq_getD_getElem?, Array.getElem?_eq_none (Nat.le_of_not_lt this)] at hi
      cases hi
  · have e : (fun k => (Array.replicate (l ++ [o]).toArray.size false).getD k false) = fun _ => false := by
      funext k
      simp [Array.getD_eq_getD_getElem?, Array.getElem?_replicate]
      split <;> simp
    rw [e]; exact h0
theorem qcore_nd {P : Program} {T : PT} {n : Nat} {op : Op} {xs : List SV} {cs : List Cont} (h : qcore P T n op xs cs ≠ .no) : ∀ c, op ≠ .defer c := by
  intro c hc
  subst hc
  exact h rfl
theorem vstep_nd {P : Program} {E : Env} {o : Oper} {fr : List SV} {M : Mm} {K : SV → Mm → Prop} (h : vstep P E o fr M K) : ∀ c, o.op ≠ .defer c := by
  intro c hc
  unfold vstep at h
  rw [evsK_eq] at h
  replace h := (vsome_iff.1 h).2
  rw [hc] at h
  simp only [mapK_eq] at h
  exact h
/-- What a region that draws its order asks, whatever frame it stands in. -/
def RegI (P : Program) (l : List Oper) (a : Act) (w : World) (Kf : Act → World → Prop) : Prop := ∃ I : (Nat → Bool) → Act → World → Prop, I (fun _ => false) a { w with drawn := w.drawn + 1 } ∧
  (∀ (f : Nat → Bool) (a : Act) (w : World) (i : Nat) (x : Oper), I f a w → f i = false → l[i]? = some x → (∀ e ∈ x.after, Region.binds .any e = true → f e.on = true) → (Region.wanted x (yielded l.toArray a.tmps) = true ∧ OpY P x a w (fun a' w' => I (upd f i) a' w')) ∨ (Region.wanted x (yielded l.toArray a.tmps) = false ∧ I (upd f i) (a.put x.dst undef) w)) ∧
  (∀ (f : Nat → Bool) (a : Act) (w : World), I f a w → (∀ i, i < l.length → f i = true) → Kf a w)
theorem vdrawN_reg {P : Program} {E : Env} (hE : EnvOk P E) {n : Nat} {ops : List Oper} {fr : List SV} {M : Mm} {K : List SV → Mm → Prop} (h : vdrawN P E ops n fr M K) : lowB ops = true ∧ (∃ l o, ops = l ++ [o]) ∧ ∀ β0 a0 w0, RelF β0 M.length fr a0 → Rel E.G β0 M w0 → RegI P ops a0 w0 (fun a' w' => OutS E.G β0 M w0 K a' w') := by
  unfold vdrawN at h
  rw [masksK_eq] at h
  replace h := vsome_iff.1 h
  obtain ⟨hd, h⟩ := h
  rw [entK_eq] at h
  generalize hn' : (bif (ops.take n).any (fun o => makesNew o.op) then n else 0) = n' at h
  unfold drawOk at hd
  simp only [Bool.and_eq_true, Bool.not_eq_true'] at hd
  obtain ⟨⟨⟨⟨⟨⟨hlow, hgd⟩, hne⟩, hds⟩, hops⟩, hfull⟩, hgs⟩ := hd
  refine ⟨hlow, ?_, ?_⟩
  · cases hq : ops.reverse with
    | nil => simp at hq; subst hq; simp at hne
    | cons o l => exact ⟨l.reverse, o, by rw [← List.reverse_reverse ops, hq]; simp⟩
  intro β0 a0 w0 hF0 hR0
  generalize hm0 : M.length = m0 at *
  let M1 : Mm := M ++ List.replicate n' ⟨true, .gone⟩
  have hN : M1.length = m0 + n' := by simp [M1, hm0]
  obtain ⟨rs, cs, hrs, hcs, hst, hK⟩ := vquiet_tr (ops.take n) 0 fr M1 rfl h
  simp only [Nat.zero_add] at hst
  let F : (Nat → Bool) → List SV := fun f => putsF f 0 (ops.take n) rs fr
  let Mf : (Nat → Bool) → Mm := fun f => setsM m0 f 0 cs M1
  have hMl : ∀ f, (Mf f).length = M1.length := fun f => setsM_len f 0 cs M1
  have hlo : ∀ (j : Nat) (o : Oper), (ops.take n)[j]? = some o → j < n ∧ ops[j]? = some o := fun j o ho => by
    rw [List.getElem?_take] at ho
    split at ho
    · exact ⟨‹_›, ho⟩
    · cases ho
  have hlt : ∀ (j : Nat) (o : Oper), j < n → ops[j]? = some o → (ops.take n)[j]? = some o := fun j o hj ho => by rw [List.getElem?_take_of_lt hj]; exact ho
  -- what is pointed to is done
  let dn : (Nat → Bool) → Nat → Bool := fun f k => Nat.blt k m0 || f (k - m0)
  have okdn : ∀ (f : Nat → Bool) (j : Nat) (o : Oper), ShutF ops f → ops[j]? = some o → (∀ e ∈ o.after, Region.binds .any e = true → f e.on = true) → ∀ k, okP m0 ((masks ops []).getD j 0) k = true → dn f k = true := fun f j o hS ho hdep k hk => by
    simp only [okP, Bool.or_eq_true] at hk
    simp only [dn, Bool.or_eq_true]
    exact hk.imp id fun h1 => mask_done hS j o ho hdep _ h1
  have rsdn : ∀ (f : Nat → Bool) (j : Nat) (r : SV), ShutF ops f → rs[j]? = some r → f j = true → r = .any ∨ r.allP (dn f) = true := fun f j r hS hr hf => by
    have hj : j < (ops.take n).length := by rw [← hrs]; exact lt_of_get hr
    obtain ⟨r', c, h1, h2, h3⟩ := hst j _ (List.getElem?_eq_getElem hj)
    obtain rfl : r = r' := Option.some.inj (hr.symm.trans h1)
    obtain ⟨hjn, ho⟩ := hlo j _ (List.getElem?_eq_getElem hj)
    have hdep := hS j _ ho hf
    rcases h3 with ⟨-, h3⟩ | ⟨-, er, -⟩
    rotate_left
    · subst er; exact .inr rfl
    cases c with
    | none =>
      rcases h3.made.2 with h4 | h4
      · exact .inl h4
      · exact .inr (allP_mono (okdn f j _ hS ho hdep) _ h4.2)
    | some x =>
      refine .inr (allP_mono (fun k hk => ?_) _ h3.made.2.1.2)
      simp only [okN, Bool.or_eq_true] at hk
      rcases hk with hk | hk
      · exact okdn f j _ hS ho hdep k hk
      · have := Nat.eq_of_beq_eq_true hk
        simp only [dn, Bool.or_eq_true]
        right; rw [this, Nat.add_sub_cancel_left]; exact hf
  have csdn : ∀ (f : Nat → Bool) (j : Nat) (x : Cont), ShutF ops f → cs[j]? = some (some x) → f j = true → x.allP (dn f) = true := fun f j x hS hx hf => by
    have hj : j < (ops.take n).length := by rw [← hcs]; exact lt_of_get hx
    obtain ⟨r', c, h1, h2, h3⟩ := hst j _ (List.getElem?_eq_getElem hj)
    obtain rfl : some x = c := Option.some.inj (hx.symm.trans h2)
    obtain ⟨hjn, ho⟩ := hlo j _ (List.getElem?_eq_getElem hj)
    rcases h3 with ⟨-, h3⟩ | ⟨-, -, ec⟩
    rotate_left
    · cases ec
    exact callP_mono (okdn f j _ hS ho (hS j _ ho hf)) _ h3.made.2.2.1.2
  have Fdn : ∀ (f : Nat → Bool) (t : Nat) (y : SV), ShutF ops f → (F f)[t]? = some y → y = .any ∨ y.allP (dn f) = true := fun f t y hS hy => by
    rcases putsF_mem _ _ _ _ hy with h1 | ⟨j, o, h1, h2, h3⟩
    · rcases hF0.at' t y h1 with h2 | h2
      · exact .inl h2
      · exact .inr (allP_mono (fun k hk => by simp only [dn, Bool.or_eq_true]; exact .inl hk) _ (allP_of_wf y h2.1))
    · rw [Nat.zero_add] at h3; exact rsdn f j y hS h2 h3
  have Mdn : ∀ (f : Nat → Bool) (q : Nat) (e : Ent), ShutF ops f → (Mf f)[q]? = some e → e.c.allP (dn f) = true := fun f q e hS he => by
    rcases setsM_mem _ _ _ he with h1 | ⟨j, x, h1, rfl, h3, -⟩
    · rcases Nat.lt_or_ge q M.length with k | k
      · have h2 : M[q]? = some e := by
          have : M1[q]? = M[q]? := List.getElem?_append_left k
          rw [← this]; exact h1
        exact callP_mono (fun k hk => by simp only [dn, Bool.or_eq_true]; exact .inl hk) _ (callP_of_wf e.c (hm0 ▸ hR0.wf q e h2))
      · have h2 : M1[q]? = (List.replicate n' (⟨true, .gone⟩ : Ent))[q - M.length]? := List.getElem?_append_right k
        rw [h2] at h1
        have := List.eq_of_mem_replicate (List.mem_of_getElem? h1)
        subst this; rfl
    · rw [Nat.zero_add] at h3; exact csdn f j x hS h1 h3
  have csnr : ∀ (j : Nat) (x : Cont), cs[j]? = some (some x) → x.isRes = false := fun j x hx => by
    have hj : j < (ops.take n).length := by rw [← hcs]; exact lt_of_get hx
    obtain ⟨r', c, h1, h2, h3⟩ := hst j _ (List.getElem?_eq_getElem hj)
    obtain rfl : some x = c := Option.some.inj (hx.symm.trans h2)
    rcases h3 with ⟨-, h3⟩ | ⟨-, -, ec⟩
    rotate_left
    · cases ec
    exact fresh_not h3.made.2.2.2.1
  have Mnr : ∀ (f : Nat → Bool) (q : Nat) (e : Ent), m0 ≤ q → (Mf f)[q]? = some e → e.c.isRes = false := fun f q e hq he => by
    rcases setsM_mem _ _ _ he with h1 | ⟨j, x, h1, rfl, -, -⟩
    · have h2 : M1[q]? = (List.replicate n' (⟨true, .gone⟩ : Ent))[q - M.length]? := List.getElem?_append_right (by omega)
      rw [h2] at h1
      have := List.eq_of_mem_replicate (List.mem_of_getElem? h1)
      subst this; rfl
    · exact csnr j x h1
  have shutLt : ∀ m, ShutF ops (fun k => decide (k < m)) := fun m k y hy hk e he hb => by
    have h1 := List.all_eq_true.1 hlow k (by simpa using lt_of_get hy)
    rw [hy] at h1
    have h2 := (Array.all_eq_true_iff_forall_mem.1 h1) e he
    rw [hb] at h2
    have hl : e.on < k := by simpa using h2
    have := of_decide_eq_true hk
    exact decide_eq_true (by omega)
  -- the two invariants
  let QI : (Nat → Bool) → Act → World → Prop := fun f a w => ∃ β, (∀ k, k < m0 → β k = β0 k) ∧ (∀ k, m0 ≤ k → w0.heap.size ≤ β k) ∧ Fp0 w0 w ∧ RelF β M1.length (F f) a ∧ Rel E.G β (Mf f) w
  let TI : Nat → Act → World → Prop := fun m a w => ∃ β fr' M', Ext β0 M w0 β M' w ∧ RelF β M'.length fr' a ∧ Rel E.G β M' w ∧ vtail P E ops (ops.drop m) fr' M' K
  have toT : ∀ f a w, QI f a w → (∀ j, j < n → j < ops.length → f j = true) → TI n a w := fun f a w ⟨β, h1, h2, h3, h4, h5⟩ hall => by
    have eF : F f = F (fun _ => true) := by
      apply List.ext_getElem?
      intro t
      exact putsF_congr _ 0 rs fr fr (fun j o ho _ => by rw [Nat.zero_add]; obtain ⟨q1, q2⟩ := hlo j o ho; exact hall j q1 (lt_of_get q2)) rfl rfl
    have eM : Mf f = Mf (fun _ => true) := by
      apply List.ext_getElem?
      intro q
      show (setsM m0 f 0 cs M1)[q]? = (setsM m0 (fun _ => true) 0 cs M1)[q]?
      by_cases hq : ∃ j, m0 + j = q ∧ j < cs.length
      · obtain ⟨j, hj, hjl⟩ := hq
        refine setsM_congr cs 0 M1 M1 (fun j' hj' => ?_) rfl rfl
        have : j' = j := by omega
        subst this
        rw [hcs] at hjl
        obtain ⟨q1, q2⟩ := hlo j' _ (List.getElem?_eq_getElem hjl)
        exact hall j' q1 (lt_of_get q2)
      · have out : ∀ (g : Nat → Bool), (setsM m0 g 0 cs M1)[q]? = M1[q]? := fun g => by
          cases hx : (setsM m0 g 0 cs M1)[q]? with
          | none =>
            rw [List.getElem?_eq_none_iff, setsM_len] at hx
            exact (List.getElem?_eq_none hx).symm
          | some e =>
            rcases setsM_mem _ _ _ hx with h1 | ⟨j, x, h1, -, -, h3⟩
            · exact h1.symm
            · exact absurd ⟨j, by omega, lt_of_get h1⟩ hq
        rw [out, out]
    refine ⟨β, F f, Mf f, ⟨fun k hk => h1 k (by omega), by rw [hMl]; simp [M1], fun b hb => ?_, h3.mono (fun _ _ h => h.elim), fun k e he => ?_, fun k e hk he => ?_⟩, by rw [hMl]; exact h4, h5, by rw [eF, eM]; exact hK⟩
    · obtain ⟨k, e, he, hr, ho⟩ := hb
      rcases Nat.lt_or_ge k m0 with q | q
      · left
        have e2 : (Mf f)[k]? = M[k]? := by
          rcases setsM_mem _ _ _ he with h6 | ⟨j, x, -, -, -, h7⟩
          · rw [show (Mf f)[k]? = some e from he, ← h6]; exact List.getElem?_append_left (by omega)
          · omega
        rw [h1 k q] at ho
        exact ⟨k, e, e2.symm.trans he, hr, ho⟩
      · rw [(own_of (Mnr f k e q he)).1 ho]; exact .inr (h2 k q)
    · have hk := lt_of_get he
      refine ⟨e.c, ?_, fun _ => rfl⟩
      cases hx : (Mf f)[k]? with
      | none => rw [List.getElem?_eq_none_iff, hMl] at hx; simp [M1] at hx; omega
      | some e' =>
        rcases setsM_mem _ _ _ hx with h6 | ⟨j, x, -, -, -, h7⟩
        · have : M1[k]? = M[k]? := List.getElem?_append_left hk
          rw [this, he] at h6
          obtain rfl := Option.some.inj h6
          rfl
        · omega
    · rcases setsM_mem _ _ _ he with h6 | ⟨j, x, -, rfl, -, h7⟩
      · have h8 : M1[k]? = (List.replicate n' (⟨true, .gone⟩ : Ent))[k - M.length]? := List.getElem?_append_right hk
        rw [h8] at h6
        have := List.eq_of_mem_replicate (List.mem_of_getElem? h6)
        subst this; rfl
      · rfl
  have tstep : ∀ m a w o, ops[m]? = some o → TI m a w → (Region.wanted o (yielded ops.toArray a.tmps) = true ∧ OpY P o a w (fun a' w' => TI (m + 1) a' w')) ∨ (Region.wanted o (yielded ops.toArray a.tmps) = false ∧ TI (m + 1) (a.put o.dst undef) w) := fun m a w o ho ⟨β, fr', M', h1, h2, h3, h4⟩ => by
    have hdrop : ops.drop m = o :: ops.drop (m + 1) := by
      have hl := lt_of_get ho
      rw [List.drop_eq_getElem_cons hl]
      congr 1
      rw [List.getElem?_eq_getElem hl] at ho
      exact Option.some.inj ho
    rw [hdrop] at h4
    unfold vtail at h4
    rcases wantK_cases h4 with ⟨hw, h4⟩ | ⟨hw, h4⟩
    · refine .inl ⟨wantsF_ok h2 hw, vstep_nd h4, _, vstep_ok hE h2 h3 h4, fun v w' hv => ?_⟩
      obtain ⟨β', M2, r, q1, q2, q3, q4⟩ := hv
      rw [putK_eq] at q4
      exact ⟨β', _, M2, h1.trans q1, put_ok (h2.mono q1.len q1.agree) o.dst q3, q2, q4⟩
    · rw [putK_eq] at h4
      exact .inr ⟨wantsF_ok h2 hw, β, _, M', h1, put_ok h2 o.dst (.inr ⟨rfl, rfl⟩), h3, h4⟩
  have key : RegI P ops a0 w0 (fun a' w' => OutS E.G β0 M w0 K a' w') := by
    refine ⟨(fun f a w => ShutF ops f ∧ (((∀ j, n ≤ j → f j = false) ∧ QI f a w) ∨ ∃ m, n ≤ m ∧ (∀ j, j < m → j < ops.length → f j = true) ∧ (∀ j, m ≤ j → f j = false) ∧ TI m a w)), ?_, ?_, ?_⟩
    · refine ⟨(fun k y _ hk => by cases hk), .inl ⟨fun _ _ => rfl, ?_⟩⟩
      have e1 : F (fun _ => false) = fr := by
        have : ∀ (os : List Oper) (k : Nat) (rs : List SV) (fr : List SV), putsF (fun _ => false) k os rs fr = fr := by
          intro os
          induction os with
          | nil => intro k rs fr; cases rs <;> rfl
          | cons o os ih =>
            intro k rs fr
            cases rs with
            | nil => rfl
            | cons r rs => rw [putsF, if_neg (by simp)]; exact ih _ _ _
        exact this _ _ _ _
      have e2 : Mf (fun _ => false) = M1 := by
        have : ∀ (cs : List (Option Cont)) (k : Nat) (M : Mm), setsM m0 (fun _ => false) k cs M = M := by
          intro cs
          induction cs with
          | nil => intro k M; rfl
          | cons c cs ih =>
            intro k M
            rw [setsM]
            have : setE (m0 + k) false c M = M := by unfold setE; split <;> simp
            rw [this]; exact ih _ _
        exact this _ _ _
      have hR1 := hR0.gones n' (β1 := fun k => if k < M.length then β0 k else w0.heap.size) (fun k hk => by simp [hk])
      refine ⟨fun k => if k < M.length then β0 k else w0.heap.size, fun k hk => by simp [hm0, hk], fun k hk => by simp [hm0]; split <;> omega, Fp.drew w0, ?_, ?_⟩
      · rw [e1]
        exact hF0.mono (by rw [hN]; omega) (fun k hk => by simp [hm0, hk])
      · rw [e2]; exact hR1.step (Fp.drew w0)
    · rintro f a w i x ⟨hS, hI⟩ hf hx hdep
      have hS' : ShutF ops (upd f i) := fun k y hy hk e he hb => by
        have up : ∀ q, f q = true → upd f i q = true := fun q hq => by unfold upd; split; rfl; exact hq
        unfold upd at hk
        split at hk
        · rename_i ek
          subst ek
          rw [hx] at hy
          obtain rfl := Option.some.inj hy
          exact up _ (hdep e he hb)
        · exact up _ (hS k y hy hk e he hb)
      have hall : ∀ j, n ≤ i → j < i → f j = true := fun j hi hj => by
        have hil := lt_of_get hx
        have hdr : (ops.drop n)[i - n]? = some x := by rw [List.getElem?_drop, show n + (i - n) = i by omega]; exact hx
        have := fullOk_get (ops.drop n) n (i - n) x hfull hdr j (by omega)
        rw [show n + (i - n) = i by omega] at this
        exact mask_done hS i x hx hdep j this
      rcases hI with ⟨hlo2, hQ⟩ | ⟨m, hmn, hm1, hm2, hT⟩
      · rcases Nat.lt_or_ge i n with hin | hin
        · -- one of those that read
          obtain ⟨β, h1, h2, h3, h4, h5⟩ := hQ
          have hli := hlt i x hin hx
          obtain ⟨r, c, hr, hc, hstepG⟩ := hst i x hli
          have wEq : wantsF ops (F f) x.guard = wantsF ops (F (fun k => decide (k < i))) x.guard := by
            cases hxg : x.guard with
            | none => rfl
            | some g =>
              obtain ⟨j, want⟩ := g
              cases hoj : ops[j]? with
              | none => simp only [wantsF, gval, gskip, hoj]
              | some oj =>
                cases hdj : oj.dst with
                | none => simp only [wantsF, gval, gskip, hoj, hdj]
                | some d =>
                  have hdo := gdsOk_get (ops.take n) 0 i x hgs hli j want oj d hxg hoj hdj
                  rw [Nat.zero_add] at hdo
                  have hfd : (F f)[d]? = (F (fun k => decide (k < i)))[d]? := by
                    refine putsF_congr _ 0 rs fr fr (fun j o ho hdst => ?_) rfl rfl
                    rw [Nat.zero_add]
                    rcases dsOk_get _ 0 j o hdo ho hdst with e | e
                    · rw [Nat.zero_add] at e; subst e; rw [hf]; simp
                    · rw [Nat.zero_add] at e
                      rw [mask_done hS i x hx hdep j e, decide_eq_true (mask_lt hlow i x hx j e)]
                  simp only [wantsF, gval, gskip, hoj, hdj, hfd]
          have hFu : F (upd f i) = setO (F f) x.dst r := putsF_upd (ops.take n) 0 i rs fr hds hli hr (by omega) hf
          have hMu := setsM_upd (m0 := m0) (f := f) (i := i) (c := c) cs 0 i M1 hc (by omega) hf
          rcases hstepG with ⟨hw, hstep⟩ | ⟨hw, er, ec⟩
          rotate_left
          · subst er ec
            refine .inr ⟨wantsF_ok h4 (wEq.trans hw), hS', .inl ⟨fun j hj => ?_, β, h1, h2, h3, ?_, ?_⟩⟩
            · unfold upd; rw [if_neg (by omega)]; exact hlo2 j hj
            · rw [hFu]
              exact put_ok (d := x.dst) h4 (.inr ⟨rfl, rfl⟩)
            · have : Mf (upd f i) = Mf f := hMu
              rw [this]; exact h5
          refine .inl ⟨wantsF_ok h4 (wEq.trans hw), ?_⟩
          have evEq : ∀ y ∈ x.op.operands.toList, ev (F f) y = ev (F (fun k => decide (k < i))) y := fun y hy => by
            cases y with
            | tmp t =>
              have hdo := opsOk_get (ops.take n) 0 i x hops hli t hy
              rw [Nat.zero_add] at hdo
              show (F f).getD t .any = (F (fun k => decide (k < i))).getD t .any
              rw [List.getD_eq_getElem?_getD, List.getD_eq_getElem?_getD]
              congr 1
              refine putsF_congr _ 0 rs fr fr (fun j o ho hdst => ?_) rfl rfl
              rw [Nat.zero_add]
              rcases dsOk_get _ 0 j o hdo ho hdst with e | e
              · rw [Nat.zero_add] at e; subst e; rw [hf]; simp
              · rw [Nat.zero_add] at e
                rw [mask_done hS i x hx hdep j e, decide_eq_true (mask_lt hlow i x hx j e)]
            | const c => rfl
            | global g => rfl
            | func g => rfl
          have xsEq : x.op.operands.toList.map (ev (F f)) = x.op.operands.toList.map (ev (F (fun k => decide (k < i)))) := List.map_congr_left evEq
          have tgEq : (x.op.operands.toList.map (ev (F f))).map (tgt (Mf f)) = (x.op.operands.toList.map (ev (F (fun k => decide (k < i))))).map (tgt (Mf (fun k => decide (k < i)))) := by
            rw [xsEq, List.map_map, List.map_map]
            apply List.map_congr_left
            intro y hy
            show tgt (Mf f) (ev (F (fun k => decide (k < i))) y) = tgt (Mf (fun k => decide (k < i))) (ev (F (fun k => decide (k < i))) y)
            have both : ev (F (fun k => decide (k < i))) y = .any ∨ ((ev (F (fun k => decide (k < i))) y).allP (dn f) = true ∧ (ev (F (fun k => decide (k < i))) y).allP (dn (fun k => decide (k < i))) = true) := by
              cases y with
              | tmp t =>
                have e0 := evEq _ hy
                cases ht : (F f)[t]? with
                | none =>
                  left
                  rw [← e0]
                  show (F f).getD t .any = .any
                  rw [List.getD_eq_getElem?_getD, ht]; rfl
                | some z =>
                  cases ht2 : (F (fun k => decide (k < i)))[t]? with
                  | none =>
                    left
                    show (F (fun k => decide (k < i))).getD t .any = .any
                    rw [List.getD_eq_getElem?_getD, ht2]; rfl
                  | some z2 =>
                    have ez : ev (F f) (.tmp t) = z := by show (F f).getD t .any = z; rw [List.getD_eq_getElem?_getD, ht]; rfl
                    have ez2 : ev (F (fun k => decide (k < i))) (.tmp t) = z2 := by show (F (fun k => decide (k < i))).getD t .any = z2; rw [List.getD_eq_getElem?_getD, ht2]; rfl
                    have ezz : z = z2 := by rw [← ez, ← ez2, e0]
                    rw [ez2]
                    rcases Fdn f t z hS ht with q1 | q1
                    · left; rw [← ezz]; exact q1
                    · rcases Fdn _ t z2 (shutLt i) ht2 with q2 | q2
                      · exact .inl q2
                      · exact .inr ⟨by rw [← ezz]; exact q1, q2⟩
              | const c =>
                right
                have hc0 : (ofConst c).wf 0 = true := (ofConst_val β c).2.2 0
                have : ∀ g : Nat → Bool, (ofConst c).allP (dn g) = true := fun g => allP_mono (fun k hk => absurd (blt_lt hk) (by omega)) _ (allP_of_wf _ hc0)
                exact ⟨this f, this (fun k => decide (k < i))⟩
              | global g =>
                right
                have hgl : g < m0 := by
                  have hh : ∀ (l : List Operand), globOk E.G.length l = true → Operand.global g ∈ l → g < E.G.length := by
                    intro l
                    induction l with
                    | nil => intro _ h; cases h
                    | cons z l ih =>
                      intro hg2 hz
                      rcases List.mem_cons.1 hz with e | e
                      · subst e; simp only [globOk, Bool.and_eq_true] at hg2; exact blt_lt hg2.1
                      · refine ih ?_ e
                        cases z <;> simp only [globOk, Bool.and_eq_true] at hg2 <;> first | exact hg2 | exact hg2.2
                  have h1 := hh _ hstep.glob hy
                  have h2 := hR0.gl
                  omega
                have : ∀ q : Nat → Bool, dn q g = true := fun q => by simp only [dn, Bool.or_eq_true, Nat.blt_eq]; exact .inl hgl
                exact ⟨this f, this (fun k => decide (k < i))⟩
              | func g => exact .inr ⟨rfl, rfl⟩
            refine tgt_congr (p := fun k => dn f k && dn (fun k => decide (k < i)) k) ?_ (fun k hk => ?_)
            · rcases both with q | ⟨q1, q2⟩
              · exact .inl q
              · right
                exact allP_and _ q1 q2
            · simp only [Bool.and_eq_true] at hk
              refine setsM_congr cs 0 M1 M1 (fun j hj => ?_) rfl rfl
              have e1 := hk.1
              have e2 := hk.2
              simp only [dn, Bool.or_eq_true, Nat.blt_eq] at e1 e2
              rw [← hj, Nat.add_sub_cancel_left] at e1 e2
              rw [e1.resolve_left (by omega), e2.resolve_left (by omega)]
          have hknown : isMove x.op = true ∨ noAny (x.op.operands.toList.map (ev (F f))) = true := by rw [xsEq]; exact hstep.known
          have h4' : RelF β (Mf f).length (F f) a := by rw [hMl]; exact h4
          have noti : ∀ k, dn f k = true → (!(Nat.beq k (m0 + i))) = true := fun k hk => by
            cases hb : Nat.beq k (m0 + i)
            · rfl
            · have := Nat.eq_of_beq_eq_true hb
              subst this
              simp only [dn, Bool.or_eq_true, Nat.blt_eq, Nat.add_sub_cancel_left, hf] at hk
              rcases hk with hk | hk
              · omega
              · cases hk
          cases c with
          | none =>
            obtain ⟨hq, hrr⟩ := hstep.made
            have hq' : qcore P E.T (m0 + i) x.op (x.op.operands.toList.map (ev (F f))) ((x.op.operands.toList.map (ev (F f))).map (tgt (Mf f))) = .ok true r := by rw [tgEq, xsEq]; exact hq
            refine ⟨qcore_nd (by rw [hq']; exact fun e => nomatch e), _, qcore_ok hE.T h4' h5 rfl rfl hstep.glob hknown hq', fun v w' hv => ⟨hS', .inl ⟨fun j hj => ?_, β, h1, h2, h3.trans0 hv.2, ?_, ?_⟩⟩⟩
            · unfold upd; rw [if_neg (by omega)]; exact hlo2 j hj
            · rw [hFu]
              refine put_ok (d := x.dst) h4 ?_
              rcases hv.1 with e | e
              · exact .inl e
              · exact hrr.imp id fun q => ⟨q.1, e⟩
            · have : Mf (upd f i) = Mf f := hMu
              rw [this]; exact h5.step hv.2
          | some y =>
            obtain ⟨hq, hrr, hyy, hyh, hiN⟩ := hstep.made
            have hq' : qcore P E.T (m0 + i) x.op (x.op.operands.toList.map (ev (F f))) ((x.op.operands.toList.map (ev (F f))).map (tgt (Mf f))) = .new true r y := by rw [tgEq, xsEq]; exact hq
            refine ⟨qcore_nd (by rw [hq']; exact fun e => nomatch e), _, qcore_new (T := E.T) h4' h5 rfl hstep.glob hknown hq', fun v w' hv => ?_⟩
            obtain ⟨b, hb, hfp, hv, hh⟩ := hv
            have agP : ∀ k, (!(Nat.beq k (m0 + i))) = true → upd1 β (m0 + i) b k = β k := fun k hk => by
              unfold upd1
              rw [if_neg (fun e => by subst e; simp at hk)]
            have hyP : y.allP (fun q => !(Nat.beq q (m0 + i))) = true := callP_mono (fun k hk => noti k (okdn f i x hS hx hdep k hk)) _ hyy.2
            refine ⟨hS', .inl ⟨fun j hj => ?_, upd1 β (m0 + i) b, fun k hk => ?_, fun k hk => ?_, h3.trans0 hfp, ?_, ?_⟩⟩
            · unfold upd; rw [if_neg (by omega)]; exact hlo2 j hj
            · unfold upd1; rw [if_neg (by omega)]; exact h1 k hk
            · unfold upd1
              split
              · have := h3.size; omega
              · exact h2 k hk
            · rw [hFu]
              refine put_ok (d := x.dst) ⟨h4.size, fun k z hz => ?_, h4.defers⟩ (.inr ⟨hrr.1, hv⟩)
              rcases h4.at' k z hz with e | ⟨e1, e2⟩
              · exact .inl e
              · rcases Fdn f k z hS hz with e | e
                · exact .inl e
                · exact .inr ⟨e1, by rw [e2]; exact (val_agreeP agP z (allP_mono noti z e)).symm⟩
            · have : Mf (upd f i) = (Mf f).set (m0 + i) ⟨true, y⟩ := hMu
              rw [this]
              refine h5.fill ?_ hfp hb (by have := hR0.gl; omega) (fun k e he => callP_mono noti _ (Mdn f k e hS he)) (by rw [hMl]; exact hyy.1) hyP hh (fresh_not hyh)
              have e1 : (Mf f)[m0 + i]? = (Mf (fun _ => false))[m0 + i]? := setsM_congr cs 0 M1 M1 (fun j hj => by
                have : j = i := by omega
                subst this; exact hf) rfl rfl
              rw [e1]
              have e2 : ∀ (cs : List (Option Cont)) (k : Nat) (M : Mm), setsM m0 (fun _ => false) k cs M = M := by
                intro cs
                induction cs with
                | nil => intro k M; rfl
                | cons c cs ih =>
                  intro k M
                  rw [setsM]
                  have : setE (m0 + k) false c M = M := by unfold setE; split <;> simp
                  rw [this]; exact ih _ _
              show (setsM m0 (fun _ => false) 0 cs M1)[m0 + i]? = _
              rw [e2]
              show (M ++ List.replicate n' ⟨true, .gone⟩)[m0 + i]? = _
              rw [List.getElem?_append_right (by omega), List.getElem?_replicate, if_pos (by omega)]
        · -- the first that waits for all
          have hin' : i = n := by
            rcases Nat.lt_or_ge n i with q | q
            · have h1 := hall n (by omega) q
              rw [hlo2 n (Nat.le_refl _)] at h1; cases h1
            · omega
          subst hin'
          have hT := toT f a w hQ (fun j hj _ => hall j (Nat.le_refl _) hj)
          have nx : ∀ a' w', TI (i + 1) a' w' → ShutF ops (upd f i) ∧ (((∀ j, i ≤ j → upd f i j = false) ∧ QI (upd f i) a' w') ∨ ∃ m, i ≤ m ∧ (∀ j, j < m → j < ops.length → upd f i j = true) ∧ (∀ j, m ≤ j → upd f i j = false) ∧ TI m a' w') := fun a' w' hT' => ?_
          · exact (tstep i a w x hx hT).imp (fun q => ⟨q.1, OpY.mono nx q.2⟩) (fun q => ⟨q.1, nx _ _ q.2⟩)
          refine ⟨hS', .inr ⟨i + 1, by omega, fun j hj hjl => ?_, fun j hj => ?_, hT'⟩⟩
          · unfold upd
            split
            · rfl
            · exact hall j (Nat.le_refl _) (by omega)
          · unfold upd; rw [if_neg (by omega)]; exact hlo2 j (by omega)
      · have him : i = m := by
          have hil := lt_of_get hx
          rcases Nat.lt_or_ge i m with q | q
          · rw [hm1 i q hil] at hf; cases hf
          · rcases Nat.lt_or_ge m i with q2 | q2
            · have h1 := hall m (by omega) q2
              rw [hm2 m (Nat.le_refl _)] at h1; cases h1
            · omega
        subst him
        have nx : ∀ a' w', TI (i + 1) a' w' → ShutF ops (upd f i) ∧ (((∀ j, n ≤ j → upd f i j = false) ∧ QI (upd f i) a' w') ∨ ∃ m, n ≤ m ∧ (∀ j, j < m → j < ops.length → upd f i j = true) ∧ (∀ j, m ≤ j → upd f i j = false) ∧ TI m a' w') := fun a' w' hT' => ?_
        · exact (tstep i a w x hx hT).imp (fun q => ⟨q.1, OpY.mono nx q.2⟩) (fun q => ⟨q.1, nx _ _ q.2⟩)
        refine ⟨hS', .inr ⟨i + 1, by omega, fun j hj hjl => ?_, fun j hj => ?_, hT'⟩⟩
        · unfold upd
          split
          · rfl
          · exact hm1 j (by omega) hjl
        · unfold upd; rw [if_neg (by omega)]; exact hm2 j (by omega)
    · rintro f a w ⟨hS, hI⟩ hall
      have fin : ∀ m, TI m a w → ops.length ≤ m → OutS E.G β0 M w0 K a w := fun m ⟨β, fr', M', q1, q2, q3, q4⟩ hml => by
        rw [List.drop_eq_nil_of_le hml] at q4
        exact ⟨β, fr', M', q1, q2, q3, q4⟩
      rcases hI with ⟨hlo2, hQ⟩ | ⟨m, hmn, hm1, hm2, hT⟩
      · refine fin n (toT f a w hQ fun j _ hj => hall j (by omega)) ?_
        rcases Nat.lt_or_ge n ops.length with q | q
        · have := hall n (by omega)
          rw [hlo2 n (Nat.le_refl _)] at this; cases this
        · exact q
      · refine fin m hT ?_
        rcases Nat.lt_or_ge m ops.length with q | q
        · have := hall m (by omega)
          rw [hm2 m (Nat.le_refl _)] at this; cases this
        · exact q
  exact key
/-- In whatever way they wait for one another: where nobody is ready all are done. -/
def AllL (ops : Array Oper) : Prop := ∀ listed : Array Bool, listed.size = ops.size → Region.ready .any ops listed = [] → ∀ i, i < ops.size → listed.getD i false = true
theorem allL_low {l : List Oper} {o : Oper} (hlow : lowB (l ++ [o]) = true) : AllL (l ++ [o]).toArray := by
  intro listed hz hr i hi
  have hi2 : i < (l ++ [o]).length := by simpa using hi
  rcases all_listed hlow hr i hi2 with h | h
  · have : i < listed.size := by omega
    simp [this] at h ⊢
    exact h
  · omega
structure PrmOk (ord : List Nat) (ops : List Oper) : Prop where
  len : ord.length = ops.length
  back : ∀ k, k < ops.length → idxN (ord.getD k k) ord = k ∧ ord.getD k k < ops.length
  forth : ∀ k, k < ops.length → ord.getD (idxN k ord) (idxN k ord) = k ∧ idxN k ord < ops.length
  deps : ∀ o ∈ ops, (∀ e ∈ o.after, e.on < ops.length) ∧ ∀ g, o.guard = some g → g.1 < ops.length
theorem prmOk_iff {ord : List Nat} {ops : List Oper} (h : prmOk ord ops = true) : PrmOk ord ops := by
  unfold prmOk at h
  simp only [Bool.and_eq_true, List.all_eq_true, List.mem_range] at h
  obtain ⟨⟨h1, h2⟩, h3⟩ := h
  refine ⟨Nat.eq_of_beq_eq_true h1, fun k hk => ?_, fun k hk => ?_, fun o ho => ?_⟩
  · obtain ⟨⟨⟨q1, q2⟩, q3⟩, q4⟩ := h2 k hk
    exact ⟨Nat.eq_of_beq_eq_true q1, blt_lt q2⟩
  · obtain ⟨⟨⟨q1, q2⟩, q3⟩, q4⟩ := h2 k hk
    exact ⟨Nat.eq_of_beq_eq_true q3, blt_lt q4⟩
  · obtain ⟨q1, q2⟩ := h3 o ho
    refine ⟨fun e he => blt_lt (q1 e (by simpa using he)), fun g hg => ?_⟩
    rw [hg] at q2
    exact blt_lt q2
theorem prms_get {ord : List Nat} {ops : List Oper} (h : PrmOk ord ops) {i : Nat} {o : Oper} (ho : ops[i]? = some o) : (prms ord ops)[idxN i ord]? = some (prm ord o) := by
  have hi : i < ops.length := (List.getElem?_eq_some_iff.1 ho).1
  obtain ⟨q1, q2⟩ := h.forth i hi
  unfold prms
  rw [List.getElem?_map]
  have hl : idxN i ord < ord.length := by rw [h.len]; exact q2
  rw [List.getElem?_eq_getElem hl, Option.map_some]
  have e : ord[idxN i ord] = i := by
    rw [List.getD_eq_getElem?_getD, List.getElem?_eq_getElem hl] at q1
    exact q1
  rw [e, ho]
theorem prms_len {ord : List Nat} {ops : List Oper} (h : PrmOk ord ops) : (prms ord ops).length = ops.length := by
  unfold prms
  rw [List.length_map, h.len]
theorem allL_prm {ord : List Nat} {ops : List Oper} (h : PrmOk ord ops) (hA : AllL (prms ord ops).toArray) : AllL ops.toArray := by
  intro listed hz hr i hi
  have hi : i < ops.length := by simpa using hi
  have hz : listed.size = ops.length := by simpa using hz
  have hg : ∀ k, k < ops.length → ∀ d, ((List.range ops.length).map fun k => listed.getD (ord.getD k k) false).toArray.getD k d = listed.getD (ord.getD k k) false := fun k hk d => by
    rw [Array.getD_eq_getD_getElem?]
    simp [hk]
  have := hA ((List.range ops.length).map fun k => listed.getD (ord.getD k k) false).toArray (by simp [prms_len h]) ?_ (idxN i ord) (by simpa [prms_len h] using (h.forth i hi).2)
  · rw [hg _ (h.forth i hi).2, (h.forth i hi).1] at this
    exact this
  · apply List.eq_nil_iff_forall_not_mem.2
    intro k hk
    obtain ⟨h0, o, ho, hd⟩ := mem_ready.1 hk
    have hk2 : k < ops.length := by
      have := (Array.getElem?_eq_some_iff.1 ho).1
      simpa [prms_len h] using this
    obtain ⟨q1, q2⟩ := h.back k hk2
    obtain ⟨x, hx⟩ : ∃ x, ops[ord.getD k k]? = some x := ⟨_, List.getElem?_eq_getElem q2⟩
    have hp := prms_get h hx
    rw [q1] at hp
    have hox : o = prm ord x := by
      have : (prms ord ops).toArray[k]? = some (prm ord x) := by simpa using hp
      rw [this] at ho
      exact (Option.some.inj ho).symm
    subst hox
    have hmem : ord.getD k k ∈ Region.ready .any ops.toArray listed := by
      refine mem_ready.2 ⟨?_, x, by simpa using hx, fun e he hb => ?_⟩
      · rw [hg k hk2] at h0
        have hlt : ord.getD k k < listed.size := by omega
        generalize ord.getD k k = y at h0 hlt ⊢
        simp [hlt] at h0 ⊢
        exact h0
      · have h1 := hd { e with on := idxN e.on ord } (by simp only [prm, Array.mem_map]; exact ⟨e, he, rfl⟩) hb
        have hon := (h.deps x (List.mem_of_getElem? hx)).1 e he
        dsimp only at h1
        rw [hg _ (h.forth _ hon).2, (h.forth _ hon).1] at h1
        exact h1
    rw [hr] at hmem
    cases hmem
theorem prm_wanted {ord : List Nat} {ops : List Oper} (h : PrmOk ord ops) {x : Oper} (hx : x ∈ ops) (tmps : Array Value) : Region.wanted (prm ord x) (yielded (prms ord ops).toArray tmps) = Region.wanted x (yielded ops.toArray tmps) := by
  unfold Region.wanted prm
  cases hg : x.guard with
  | none => rfl
  | some g =>
    obtain ⟨j, b⟩ := g
    have hj := (h.deps x hx).2 _ hg
    have e : yielded (prms ord ops).toArray tmps (idxN j ord) = yielded ops.toArray tmps j := by
      unfold yielded
      have := prms_get h (List.getElem?_eq_getElem hj)
      simp only [List.getElem?_toArray, this, List.getElem?_eq_getElem hj]
      rfl
    simp only [Option.map_some, e]
theorem regI_prm {P : Program} {ord : List Nat} {ops : List Oper} (h : PrmOk ord ops) {a : Act} {w : World} {Kf : Act → World → Prop} (hR : RegI P (prms ord ops) a w Kf) : RegI P ops a w Kf := by
  obtain ⟨I, h0, hs, he⟩ := hR
  refine ⟨fun f a w => I (fun k => f (ord.getD k k)) a w, h0, fun f a w i x hI hf hx hd => ?_, fun f a w hI hall => he _ a w hI fun k hk => hall _ (h.back k (by rw [prms_len h] at hk; exact hk)).2⟩
  have hi : i < ops.length := (List.getElem?_eq_some_iff.1 hx).1
  obtain ⟨q1, q2⟩ := h.forth i hi
  have eU : (fun k => upd f i (ord.getD k k)) = upd (fun k => f (ord.getD k k)) (idxN i ord) := by
    funext k
    unfold upd
    by_cases hk : k = idxN i ord
    · subst hk; rw [q1, if_pos rfl, if_pos rfl]
    · rw [if_neg hk, if_neg]
      intro e
      rcases Nat.lt_or_ge k ops.length with hlt | hge
      · exact hk (by rw [← e]; exact (h.back k hlt).1.symm)
      · rw [List.getD_eq_getElem?_getD, List.getElem?_eq_none (by rw [h.len]; exact hge)] at e
        dsimp only [Option.getD] at e
        omega
  have := hs (fun k => f (ord.getD k k)) a w (idxN i ord) (prm ord x) hI (by rw [q1]; exact hf) (prms_get h hx) (fun e he hb => by
    simp only [prm, Array.mem_map] at he
    obtain ⟨e0, he0, rfl⟩ := he
    dsimp only
    rw [(h.forth _ ((h.deps x (List.mem_of_getElem? hx)).1 e0 he0)).1]
    exact hd e0 he0 hb)
  rw [prm_wanted h (List.mem_of_getElem? hx)] at this
  show (_ ∧ OpY P x a w fun a' w' => I (fun k => upd f i (ord.getD k k)) a' w') ∨ (_ ∧ I (fun k => upd f i (ord.getD k k)) _ w)
  rw [eU]
  exact this
theorem wp_region_all {P : Program} {id : Nat} {Q : Exit → Act → World → Prop} {a : Act} {w : World} (ops : List Oper) (hm : P.follows .mixedOrders = true) (hA : AllL ops.toArray) (I : (Nat → Bool) → Act → World → Prop)
    (h0 : I (fun _ => false) a { w with drawn := w.drawn + 1 })
    (hs : ∀ (f : Nat → Bool) (a : Act) (w : World) (i : Nat) (x : Oper), I f a w → f i = false → ops[i]? = some x → (∀ e ∈ x.after, Region.binds .any e = true → f e.on = true) → (Region.wanted x (yielded ops.toArray a.tmps) = true ∧ x.wp P a w (fun a' w' => I (upd f i) a' w') Q) ∨ (Region.wanted x (yielded ops.toArray a.tmps) = false ∧ I (upd f i) (a.put x.dst undef) w))
    (he : ∀ (f : Nat → Bool) (a : Act) (w : World), I f a w → (∀ i, i < ops.length → f i = true) → Q .normal a w) : (Code.region id ops.toArray true).wp P Q a w := by
  refine wp_region_any hm ?_
  refine wpAny_inv I (fun f a w i x hI hf hx hd => hs f a w i x hI hf (by simpa using hx) hd) (fun f a w hI hf => he f a w hI (fun i hi => hf i (by simpa using hi))) hA _ _ (List.range ops.toArray.size) a _ (by simp) (by simp) ?_ ?_
  · intro i hi
    rcases Nat.lt_or_ge i ops.toArray.size with h | h
    · simpa using h
    · have : ¬ i < (Array.replicate ops.toArray.size false).size := by simp at h ⊢; omega
      rw [Array.getD_eq_getD_getElem?, Array.getElem?_eq_none (Nat.le_of_not_lt this)] at hi
      cases hi
  · have e : (fun k => (Array.replicate ops.toArray.size false).getD k false) = fun _ => false := by
      funext k
      simp [Array.getD_eq_getD_getElem?, Array.getElem?_replicate]
      split <;> simp
    rw [e]; exact h0
theorem wpIn_region_all {P : Program} {R : Option Nat} {m : Nat} {id : Nat} {Q : Exit → Act → World → Prop} {a : Act} {w : World} (ops : List Oper) (hm : P.follows .mixedOrders = true) (hA : AllL ops.toArray) (I : (Nat → Bool) → Act → World → Prop)
    (h0 : I (fun _ => false) a { w with drawn := w.drawn + 1 })
    (hs : ∀ (f : Nat → Bool) (a : Act) (w : World) (i : Nat) (x : Oper), I f a w → f i = false → ops[i]? = some x → (∀ e ∈ x.after, Region.binds .any e = true → f e.on = true) → (Region.wanted x (yielded ops.toArray a.tmps) = true ∧ OpY P x a w (fun a' w' => I (upd f i) a' w')) ∨ (Region.wanted x (yielded ops.toArray a.tmps) = false ∧ I (upd f i) (a.put x.dst undef) w))
    (he : ∀ (f : Nat → Bool) (a : Act) (w : World), I f a w → (∀ i, i < ops.length → f i = true) → Q .normal a w) : (Code.region id ops.toArray true).wpIn (fen R) m P Q a w := by
  refine wpIn_region_any hm ?_
  refine wpAnyIn_inv I (fun f a w i x hI hf hx hd => hs f a w i x hI hf (by simpa using hx) hd) (fun f a w hI hf => he f a w hI (fun i hi => hf i (by simpa using hi))) hA _ _ (List.range ops.toArray.size) a _ (by simp) (by simp) ?_ ?_
  · intro i hi
    rcases Nat.lt_or_ge i ops.toArray.size with h | h
    · simpa using h
    · have : ¬ i < (Array.replicate ops.toArray.size false).size := by simp at h ⊢; omega
      rw [Array.getD_eq_getD_getElem?, Array.getElem?_eq_none (Nat.le_of_not_lt this)] at hi
      cases hi
  · have e : (fun k => (Array.replicate ops.toArray.size false).getD k false) = fun _ => false := by
      funext k
      simp [Array.getD_eq_getD_getElem?, Array.getElem?_replicate]
      split <;> simp
    rw [e]; exact h0
theorem vready_get {G : Nat → Oper → Prop} {m : Nat} : ∀ (l : List Oper) (k j : Nat) (o : Oper), vready G m k l → l[j]? = some o → (!m.testBit (k + j) && depsIn m o) = true → G (k + j) o := by
  intro l
  induction l with
  | nil => intro k j o _ h; cases h
  | cons x l ih =>
    intro k j o h hj hb
    unfold vready at h
    cases j with
    | zero =>
      obtain rfl := Option.some.inj hj
      rw [Nat.add_zero] at hb ⊢
      rw [hb] at h
      exact h.1
    | succ j =>
      have h' : vready G m (k + 1) l := by
        cases hc : (!m.testBit k && depsIn m x) <;> rw [hc] at h
        · exact h
        · exact h.2
      have := ih (k + 1) j o h' hj (by rw [show k + 1 + j = k + (j + 1) by omega]; exact hb)
      rw [show k + 1 + j = k + (j + 1) by omega] at this
      exact this
theorem full_bit {L i : Nat} (h : i < L) : (2 ^ L - 1).testBit i = true := by rw [Nat.testBit_two_pow_sub_one]; exact decide_eq_true h
theorem vall_reg {P : Program} {E : Env} (hE : EnvOk P E) {ops : List Oper} {fr : List SV} {M : Mm} {K : List SV → Mm → Prop} (h : vall P E ops ops.length 0 fr M K) : ∀ β0 a0 w0, RelF β0 M.length fr a0 → Rel E.G β0 M w0 → RegI P ops a0 w0 (fun a' w' => OutS E.G β0 M w0 K a' w') := by
  intro β0 a0 w0 hF0 hR0
  refine ⟨fun f a w => ∃ (n m : Nat) (β : Nat → Nat) (fr' : List SV) (M' : Mm), (∀ i, m.testBit i = f i) ∧ (∀ i, ops.length ≤ i → f i = false) ∧ vall P E ops n m fr' M' K ∧ Ext β0 M w0 β M' w ∧ RelF β M'.length fr' a ∧ Rel E.G β M' w, ?_, ?_, ?_⟩
  · exact ⟨ops.length, 0, β0, fr, M, fun i => by simp, fun _ _ => rfl, h, Ext.step (Fp.drew w0), hF0, hR0.step (Fp.drew w0)⟩
  · rintro f a w i x ⟨n, m, β, fr', M', hm, hL, hv, hX, hF, hR⟩ hf hx hdep
    have hil := lt_of_get hx
    have hne : Nat.beq m (2 ^ ops.length - 1) = false := by
      cases hb : Nat.beq m (2 ^ ops.length - 1)
      · rfl
      · have e := Nat.eq_of_beq_eq_true hb
        have := hm i
        rw [e, full_bit hil, hf] at this
        cases this
    cases n with
    | zero =>
      have := (vsome_iff.1 hv).1
      rw [hne] at this
      cases this
    | succ n =>
      unfold vall at hv
      rw [hne] at hv
      have hd : depsIn m x = true := by
        unfold depsIn
        rw [List.all_eq_true]
        intro e he
        rw [Bool.or_eq_true, Bool.not_eq_true']
        cases hb : Region.binds .any e
        · exact .inl rfl
        · right; rw [hm]; exact hdep e (by simpa using he) hb
      have hg := vready_get ops 0 i x hv hx (by rw [Nat.zero_add, hm, hf, hd]; rfl)
      rw [natK_eq, Nat.zero_add] at hg
      have hm' : ∀ k, (m ||| 2 ^ i).testBit k = upd f i k := fun k => by
        rw [Nat.testBit_or, hm, Nat.testBit_two_pow]
        unfold upd
        by_cases hk : k = i
        · subst hk; simp
        · rw [if_neg hk, decide_eq_false (fun e => hk e.symm), Bool.or_false]
      have hL' : ∀ k, ops.length ≤ k → upd f i k = false := fun k hk => by
        unfold upd
        rw [if_neg (by omega)]
        exact hL k hk
      rcases wantK_cases hg with ⟨hw, hg⟩ | ⟨hw, hg⟩
      · refine .inl ⟨wantsF_ok hF hw, vstep_nd hg, _, vstep_ok hE hF hR hg, fun v w' hv' => ?_⟩
        obtain ⟨β', M2, r, q1, q2, q3, q4⟩ := hv'
        rw [putK_eq] at q4
        exact ⟨n, _, β', _, M2, hm', hL', q4, hX.trans q1, put_ok (hF.mono q1.len q1.agree) x.dst q3, q2⟩
      · rw [putK_eq] at hg
        exact .inr ⟨wantsF_ok hF hw, n, _, β, _, M', hm', hL', hg, hX, put_ok hF x.dst (.inr ⟨rfl, rfl⟩), hR⟩
  · rintro f a w ⟨n, m, β, fr', M', hm, hL, hv, hX, hF, hR⟩ hall
    have e : m = 2 ^ ops.length - 1 := by
      apply Nat.eq_of_testBit_eq
      intro i
      rw [hm, Nat.testBit_two_pow_sub_one]
      rcases Nat.lt_or_ge i ops.length with q | q
      · rw [hall i q, decide_eq_true q]
      · rw [hL i q, decide_eq_false (by omega)]
    have hb : Nat.beq m (2 ^ ops.length - 1) = true := by rw [e]; exact Nat.beq_refl _
    refine ⟨β, fr', M', hX, hF, hR, ?_⟩
    cases n with
    | zero => exact (vsome_iff.1 hv).2
    | succ n =>
      unfold vall at hv
      rw [hb] at hv
      exact hv
-- those that only read, ahead of their turn
structure PQ (P : Program) (E : Env) (o : Oper) (fr : List SV) (M : Mm) (r : SV) : Prop where
  glob : globOk E.G.length o.op.operands.toList = true
  known : isMove o.op = true ∨ noAny (o.op.operands.toList.map (ev fr)) = true
  made : qcore P E.T 0 o.op (o.op.operands.toList.map (ev fr)) ((o.op.operands.toList.map (ev fr)).map (tgt M)) = .ok true r
  wf : r = .any ∨ r.wf M.length = true
theorem vqk_tr {P : Program} {E : Env} {o : Oper} {fr : List SV} {M : Mm} {K : SV → Prop} (h : vqk P E o fr M K) : ∃ r, PQ P E o fr M r ∧ K r := by
  unfold vqk at h
  rw [evsK_eq] at h
  obtain ⟨h1, h⟩ := vsome_iff.1 h
  simp only [Bool.and_eq_true, Bool.or_eq_true] at h1
  rw [mapK_eq] at h
  split at h
  · rename_i c r hq
    rw [forceK_eq] at h
    obtain ⟨h2, h3⟩ := vsome_iff.1 h
    simp only [Bool.and_eq_true, Bool.or_eq_true] at h2
    obtain ⟨h2, rfl⟩ := h2
    exact ⟨r, ⟨h1.1, h1.2, hq, h2.imp (fun h => by cases r <;> first | rfl | cases h) id⟩, h3⟩
  · exact h.elim
theorem firstQ_some {m i : Nat} {o : Oper} : ∀ (l : List Oper) (k : Nat), firstQ m k l = some (i, o) → ∃ j, i = k + j ∧ l[j]? = some o ∧ m.testBit i = false ∧ depsIn m o = true ∧ qk o.op = true := by
  intro l
  induction l with
  | nil => intro k h; cases h
  | cons x l ih =>
    intro k h
    unfold firstQ at h
    cases hb : (!m.testBit k && depsIn m x && qk x.op) <;> rw [hb] at h
    · obtain ⟨j, h1, h2, h3⟩ := ih (k + 1) h
      exact ⟨j + 1, by omega, h2, h3⟩
    · simp only [cond_true, Option.some.injEq, Prod.mk.injEq] at h
      obtain ⟨rfl, rfl⟩ := h
      simp only [Bool.and_eq_true, Bool.not_eq_true'] at hb
      exact ⟨0, rfl, rfl, hb.1.1, hb.1.2, hb.2⟩
theorem firstQ_none {m : Nat} : ∀ (l : List Oper) (k j : Nat) (o : Oper), firstQ m k l = none → l[j]? = some o → m.testBit (k + j) = false → depsIn m o = true → qk o.op = false := by
  intro l
  induction l with
  | nil => intro k j o _ h; cases h
  | cons x l ih =>
    intro k j o h hj hb hd
    unfold firstQ at h
    cases hc : (!m.testBit k && depsIn m x && qk x.op) <;> rw [hc] at h
    · cases j with
      | zero =>
        obtain rfl := Option.some.inj hj
        rw [Nat.add_zero] at hb
        rw [hb, hd] at hc
        simpa using hc
      | succ j => exact ih (k + 1) j o h hj (by rw [show k + 1 + j = k + (j + 1) by omega]; exact hb) hd
    · cases h
theorem dsOkS_get {t m : Nat} : ∀ (l : List Oper) (k j : Nat) (o : Oper), dsOkS t m k l = true → l[j]? = some o → o.dst = some t → m.testBit (k + j) = true := by
  intro l
  induction l with
  | nil => intro k j o _ h; cases h
  | cons x l ih =>
    intro k j o h hj hd
    simp only [dsOkS, Bool.and_eq_true] at h
    cases j with
    | zero =>
      obtain rfl := Option.some.inj hj
      rw [hd] at h
      simpa using h.1
    | succ j =>
      have := ih (k + 1) j o h.2 hj hd
      rw [show k + (j + 1) = k + 1 + j by omega]; exact this
theorem opsOkS_get {l : List Oper} {ms : List Nat} : ∀ (os : List Oper) (i j : Nat) (o : Oper), opsOkS l ms i os = true → os[j]? = some o → ∀ t, Operand.tmp t ∈ o.op.operands.toList → dsOkS t (ms.getD (i + j) 0) 0 l = true := by
  intro os
  induction os with
  | nil => intro i j o _ h; cases h
  | cons x os ih =>
    intro i j o h hj t ht
    simp only [opsOkS, Bool.and_eq_true] at h
    cases j with
    | zero =>
      obtain rfl := Option.some.inj hj
      exact List.all_eq_true.1 h.1 _ ht
    | succ j =>
      have := ih (i + 1) j o h.2 hj t ht
      rw [show i + (j + 1) = i + 1 + j by omega]; exact this
theorem lateFree_get {m mk k : Nat} {fr : List SV} : ∀ (l : List Oper) (i j : Nat) (o : Oper), lateFree m mk k fr i l = true → l[j]? = some o → m.testBit (i + j) = true → mk.testBit (i + j) = false → ∀ y ∈ o.op.operands.toList, ptrIs k (ev fr y) = false := by
  intro l
  induction l with
  | nil => intro i j o _ h; cases h
  | cons x l ih =>
    intro i j o h hj h1 h2 y hy
    simp only [lateFree, Bool.and_eq_true] at h
    cases j with
    | zero =>
      obtain rfl := Option.some.inj hj
      rw [Nat.add_zero] at h1 h2
      have h3 := h.1
      rw [h1, h2] at h3
      simp only [Bool.not_true, Bool.false_or] at h3
      have := List.all_eq_true.1 h3 y hy
      simpa using this
    | succ j => exact ih (i + 1) j o h.2 hj (by rw [show i + 1 + j = i + (j + 1) by omega]; exact h1) (by rw [show i + 1 + j = i + (j + 1) by omega]; exact h2) y hy
theorem operEq_get {fr : List SV} {M M2 : Mm} : ∀ (l : List Operand), operEq fr M M2 l → ∀ z ∈ l, tgt M2 (ev fr z) = tgt M (ev fr z)
  | [], _, z, hz => by cases hz
  | x :: l, h, z, hz => by
    rcases List.mem_cons.1 hz with rfl | hz
    · exact h.1
    · exact operEq_get l h.2 z hz
theorem lateEq_get {m mk : Nat} {fr : List SV} {M M2 : Mm} : ∀ (l : List Oper) (i j : Nat) (o : Oper), lateEq m mk fr M M2 i l → l[j]? = some o → m.testBit (i + j) = true → mk.testBit (i + j) = false → isMove o.op = true ∨ ∀ z ∈ o.op.operands.toList, tgt M2 (ev fr z) = tgt M (ev fr z) := by
  intro l
  induction l with
  | nil => intro i j o _ h; cases h
  | cons x l ih =>
    intro i j o h hj h1 h2
    unfold lateEq at h
    cases j with
    | zero =>
      obtain rfl := Option.some.inj hj
      rw [Nat.add_zero] at h1 h2
      rw [h1, h2] at h
      cases hm : isMove x.op
      · rw [hm] at h
        exact .inr (operEq_get _ h.1)
      · exact .inl rfl
    | succ j =>
      refine ih (i + 1) j o ?_ hj (by rw [show i + 1 + j = i + (j + 1) by omega]; exact h1) (by rw [show i + 1 + j = i + (j + 1) by omega]; exact h2)
      cases hc : (m.testBit i && (!mk.testBit i && !isMove x.op)) <;> rw [hc] at h
      · exact h
      · exact h.2
theorem lateMv_get {m mk : Nat} : ∀ (l : List Oper) (i j : Nat) (o : Oper), lateMv m mk i l = true → l[j]? = some o → m.testBit (i + j) = true → mk.testBit (i + j) = false → isMove o.op = true := by
  intro l
  induction l with
  | nil => intro i j o _ h; cases h
  | cons x l ih =>
    intro i j o h hj h1 h2
    simp only [lateMv, Bool.and_eq_true] at h
    cases j with
    | zero =>
      obtain rfl := Option.some.inj hj
      rw [Nat.add_zero] at h1 h2
      have h3 := h.1
      rw [h1, h2] at h3
      simpa using h3
    | succ j => exact ih (i + 1) j o h.2 hj (by rw [show i + 1 + j = i + (j + 1) by omega]; exact h1) (by rw [show i + 1 + j = i + (j + 1) by omega]; exact h2)
theorem qcore_mv {P : Program} {T : PT} {n : Nat} {op : Op} (h : isMove op = true) (xs : List SV) (cs cs' : List Cont) : qcore P T n op xs cs = qcore P T n op xs cs' := by
  cases op <;> first | rfl | cases h
theorem dsts_uniq : ∀ (l : List Oper) (i j : Nat) (x y : Oper) (d : Nat), dstsOk l = true → l[i]? = some x → l[j]? = some y → x.dst = some d → y.dst = some d → i = j := by
  intro l
  induction l with
  | nil => intro i j x y d _ h; cases h
  | cons o l ih =>
    intro i j x y d h hi hj hx hy
    simp only [dstsOk, Bool.and_eq_true] at h
    cases i with
    | zero =>
      cases j with
      | zero => rfl
      | succ j =>
        obtain rfl := Option.some.inj hi
        rw [hx] at h
        exact absurd hy (noDst_get l j y h.1 hj)
    | succ i =>
      cases j with
      | zero =>
        obtain rfl := Option.some.inj hj
        rw [hy] at h
        exact absurd hx (noDst_get l i x h.1 hi)
      | succ j => rw [ih i j x y d h.2 hi hj hx hy]
theorem tgt_set {M : Mm} {k : Nat} {e : Ent} {y : SV} (h : ptrIs k y = false) : tgt (M.set k e) y = tgt M y := by
  have q : ∀ j, Nat.beq j k = false → (M.set k e)[j]? = M[j]? := fun j hj => List.getElem?_set_ne (fun e => by subst e; rw [Nat.beq_refl] at hj; cases hj)
  cases y with
  | ptr j o => show (match (M.set k e)[j]? with | some e => e.c | none => .gone) = _; rw [q j h]; rfl
  | sl j o l c => show (match (M.set k e)[j]? with | some e => e.c | none => .gone) = _; rw [q j h]; rfl
  | pe j _ _ _ _ => show (match (M.set k e)[j]? with | some e => e.c | none => .gone) = _; rw [q j h]; rfl
  | rs j _ _ _ _ _ => show (match (M.set k e)[j]? with | some e => e.c | none => .gone) = _; rw [q j h]; rfl
  | ns b j _ _ _ => show (match (M.set k e)[j]? with | some e => e.c | none => .gone) = _; rw [q j h]; rfl
  | mp j => show (match (M.set k e)[j]? with | some e => e.c | none => .gone) = _; rw [q j h]; rfl
  | fn f l =>
    match l with
    | [.ptr j o] => show (match (M.set k e)[j]? with | some e => e.c | none => .gone) = _; rw [q j h]; rfl
    | [] => rfl
    | .any :: _ | .v _ :: _ | .i _ :: _ | .b _ :: _ | .w64 _ :: _ | .w32 _ :: _ | .w16 _ :: _ | .w8 _ :: _ | .s _ :: _ | .sl _ _ _ _ :: _ | .a64 _ :: _ | .a32 _ :: _ | .a8 _ :: _ | .agg _ :: _ | .tup _ :: _ | .fn _ _ :: _ | .pe _ _ _ _ _ :: _ | .rs _ _ _ _ _ _ :: _ | .ns _ _ _ _ _ :: _ | .mp _ :: _ | .fm _ _ :: _ => rfl
    | .ptr _ _ :: _ :: _ => rfl
  | any | v _ | i _ | b _ | w64 _ | w32 _ | w16 _ | w8 _ | s _ | a64 _ | a32 _ | a8 _ | agg _ | tup _ | fm _ _ => rfl
theorem tgt_app {M : Mm} {e : Ent} {y : SV} (h : y = .any ∨ y.wf M.length = true) : tgt (M ++ [e]) y = tgt M y := by
  have q : ∀ j, Nat.blt j M.length = true → (M ++ [e])[j]? = M[j]? := fun j hj => List.getElem?_append_left (blt_lt hj)
  rcases h with rfl | h
  · rfl
  · cases y with
    | ptr j o => show (match (M ++ [e])[j]? with | some e => e.c | none => .gone) = _; rw [q j h]; rfl
    | sl j o l c => show (match (M ++ [e])[j]? with | some e => e.c | none => .gone) = _; rw [q j h]; rfl
    | pe j _ _ _ _ => show (match (M ++ [e])[j]? with | some e => e.c | none => .gone) = _; rw [q j h]; rfl
    | rs j _ _ _ _ _ => show (match (M ++ [e])[j]? with | some e => e.c | none => .gone) = _; rw [q j h]; rfl
    | ns b j _ _ _ => show (match (M ++ [e])[j]? with | some e => e.c | none => .gone) = _; rw [q j h]; rfl
    | mp j => show (match (M ++ [e])[j]? with | some e => e.c | none => .gone) = _; rw [q j h]; rfl
    | fn f l =>
      match l with
      | [.ptr j o] =>
        simp only [SV.wf, SV.wf.wfs, Bool.and_true] at h
        show (match (M ++ [e])[j]? with | some e => e.c | none => .gone) = _; rw [q j h]; rfl
      | [] => rfl
      | .any :: _ | .v _ :: _ | .i _ :: _ | .b _ :: _ | .w64 _ :: _ | .w32 _ :: _ | .w16 _ :: _ | .w8 _ :: _ | .s _ :: _ | .sl _ _ _ _ :: _ | .a64 _ :: _ | .a32 _ :: _ | .a8 _ :: _ | .agg _ :: _ | .tup _ :: _ | .fn _ _ :: _ | .pe _ _ _ _ _ :: _ | .rs _ _ _ _ _ _ :: _ | .ns _ _ _ _ _ :: _ | .mp _ :: _ | .fm _ _ :: _ => rfl
      | .ptr _ _ :: _ :: _ => rfl
    | any | v _ | i _ | b _ | w64 _ | w32 _ | w16 _ | w8 _ | s _ | a64 _ | a32 _ | a8 _ | agg _ | tup _ | fm _ _ => rfl
theorem vstep_congr {P : Program} {E : Env} {o : Oper} {fr fr' : List SV} {M : Mm} {K : SV → Mm → Prop} (h : ∀ y ∈ o.op.operands.toList, ev fr y = ev fr' y) (hv : vstep P E o fr M K) : vstep P E o fr' M K := by
  unfold vstep at hv ⊢
  rw [evsK_eq] at hv ⊢
  rw [← List.map_congr_left h]
  exact hv
theorem vstep_store {P : Program} {E : Env} {o : Oper} {fr : List SV} {M : Mm} {K : SV → Mm → Prop} {t : Nat} {p x : Operand} (ho : o.op = .store t p x) {k off : Nat} (hp : ev fr p = .ptr k off) (hv : vstep P E o fr M K) : vstep P E o fr M (fun r M2 => (∃ e, M2 = M.set k e) ∧ K r M2) := by
  unfold vstep at hv ⊢
  rw [evsK_eq] at hv ⊢
  obtain ⟨h1, hv⟩ := vsome_iff.1 hv
  refine vsome_iff.2 ⟨h1, ?_⟩
  rw [ho] at hv ⊢
  simp only [Op.operands, List.map_cons, List.map_nil, hp] at hv ⊢
  split at hv
  · rename_i c hk
    split at hv
    · rename_i b c' hq
      rw [setK_eq] at hv
      obtain ⟨h2, h3⟩ := vsome_iff.1 hv
      rw [setK_eq]
      exact vsome_iff.2 ⟨h2, ⟨_, rfl⟩, h3⟩
    · exact hv.elim
  · exact hv.elim
theorem vstep_alloc {P : Program} {E : Env} {o : Oper} {fr : List SV} {M : Mm} {K : SV → Mm → Prop} {t : Nat} (ho : o.op = .alloc t) (hv : vstep P E o fr M K) : vstep P E o fr M (fun r M2 => (∃ e, M2 = M ++ [e]) ∧ K r M2) := by
  unfold vstep at hv ⊢
  rw [evsK_eq] at hv ⊢
  obtain ⟨h1, hv⟩ := vsome_iff.1 hv
  refine vsome_iff.2 ⟨h1, ?_⟩
  rw [ho] at hv ⊢
  simp only [mapK_eq, qcore, qrec, qcore0] at hv ⊢
  split at hv
  · rename_i c hz
    rw [qalloc_eq] at hv ⊢
    unfold vqH at hv ⊢
    unfold vq at hv ⊢
    simp only [snocK_eq, forceK_eq] at hv ⊢
    obtain ⟨h2, h3⟩ := vsome_iff.1 hv
    exact vsome_iff.2 ⟨h2, ⟨_, rfl⟩, h3⟩
  · exact hv.elim
theorem vstep_build {P : Program} {E : Env} {o : Oper} {fr : List SV} {M : Mm} {K : SV → Mm → Prop} {t n : Nat} {p : Array (Nat × Operand)} (ho : o.op = .buildSlice t n p) (hv : vstep P E o fr M K) : vstep P E o fr M (fun r M2 => (M2 = M ∨ ∃ e, M2 = M ++ [e]) ∧ K r M2) := by
  unfold vstep at hv ⊢
  rw [evsK_eq] at hv ⊢
  obtain ⟨h1, hv⟩ := vsome_iff.1 hv
  refine vsome_iff.2 ⟨h1, ?_⟩
  rw [ho] at hv ⊢
  simp only [mapK_eq] at hv ⊢
  generalize qcore P E.T M.length _ _ _ = q at hv ⊢
  cases q with
  | no => exact hv.elim
  | ok c r =>
    unfold vqH at hv ⊢
    unfold vq at hv ⊢
    simp only [forceK_eq] at hv ⊢
    obtain ⟨h2, h3⟩ := vsome_iff.1 hv
    exact vsome_iff.2 ⟨h2, .inl trivial, h3⟩
  | new c r x =>
    unfold vqH at hv ⊢
    unfold vq at hv ⊢
    simp only [snocK_eq, forceK_eq] at hv ⊢
    obtain ⟨h2, h3⟩ := vsome_iff.1 hv
    exact vsome_iff.2 ⟨h2, .inr ⟨_, rfl⟩, h3⟩
/-- Slots of operations that are done ahead of their turn, m: what is done so. -/
def lateB (ops : List Oper) (f : Nat → Bool) (m t : Nat) : Bool := (List.range ops.length).any fun i => match ops[i]? with
  | some o => m.testBit i && !f i && (match o.dst with
    | some d => Nat.beq d t
    | none => false)
  | none => false
theorem lateB_iff {ops : List Oper} {f : Nat → Bool} {m t : Nat} : lateB ops f m t = true ↔ ∃ i o, ops[i]? = some o ∧ m.testBit i = true ∧ f i = false ∧ o.dst = some t := by
  unfold lateB
  rw [List.any_eq_true]
  constructor
  · rintro ⟨i, hi, h⟩
    split at h
    · rename_i o ho
      simp only [Bool.and_eq_true, Bool.not_eq_true'] at h
      obtain ⟨⟨h1, h2⟩, h3⟩ := h
      split at h3
      · rename_i d hd
        exact ⟨i, o, ho, h1, h2, by rw [hd, Nat.eq_of_beq_eq_true h3]⟩
      · cases h3
    · cases h
  · rintro ⟨i, o, ho, h1, h2, h3⟩
    refine ⟨i, List.mem_range.2 (lt_of_get ho), ?_⟩
    simp only [ho, h1, h2, h3, Nat.beq_refl]
    rfl
def hid (ops : List Oper) (f : Nat → Bool) (m : Nat) (fr : List SV) : List SV := fr.mapIdx fun t y => bif lateB ops f m t then .any else y
theorem hid_get {ops : List Oper} {f : Nat → Bool} {m : Nat} {fr : List SV} (t : Nat) : (hid ops f m fr)[t]? = (fr[t]?).map fun y => bif lateB ops f m t then .any else y := by
  unfold hid
  rw [List.getElem?_mapIdx]
theorem hid_len {ops : List Oper} {f : Nat → Bool} {m : Nat} {fr : List SV} : (hid ops f m fr).length = fr.length := by unfold hid; rw [List.length_mapIdx]
structure PInv (P : Program) (E : Env) (ops : List Oper) (f : Nat → Bool) (m : Nat) (fr : List SV) (M : Mm) : Prop where
  sf : ShutF ops f
  sm : ShutF ops (fun i => m.testBit i)
  sub : ∀ i, f i = true → m.testBit i = true
  top : ∀ i, ops.length ≤ i → m.testBit i = false
  late : ∀ i o, ops[i]? = some o → m.testBit i = true → f i = false → ∃ d r, o.dst = some d ∧ fr[d]? = some r ∧ PQ P E o fr M r
  fw : ∀ (t : Nat) (y : SV), fr[t]? = some y → y = .any ∨ y.wf M.length = true
section
variable {P : Program} {E : Env} {ops : List Oper}
theorem bit_or (m i k : Nat) : (m ||| 2 ^ i).testBit k = (m.testBit k || decide (i = k)) := by rw [Nat.testBit_or, Nat.testBit_two_pow]
theorem dep_of {m : Nat} {o : Oper} (h : depsIn m o = true) : ∀ e ∈ o.after, Region.binds .any e = true → m.testBit e.on = true := fun e he hb => by
  have := List.all_eq_true.1 h e (by simpa using he)
  rw [hb] at this
  simpa using this
theorem of_dep {m : Nat} {o : Oper} (h : ∀ e ∈ o.after, Region.binds .any e = true → m.testBit e.on = true) : depsIn m o = true := by
  unfold depsIn
  rw [List.all_eq_true]
  intro e he
  cases hb : Region.binds .any e
  · rfl
  · rw [h e (by simpa using he) hb]; rfl
theorem shut_or {m i : Nat} {o : Oper} (ho : ops[i]? = some o) (hd : ∀ e ∈ o.after, Region.binds .any e = true → m.testBit e.on = true) (hS : ShutF ops (fun i => m.testBit i)) : ShutF ops (fun k => (m ||| 2 ^ i).testBit k) := fun k y hy hk e he hb => by
  show (m ||| 2 ^ i).testBit e.on = true
  rw [bit_or]
  have hk : (m ||| 2 ^ i).testBit k = true := hk
  rw [bit_or, Bool.or_eq_true] at hk
  rcases hk with hk | hk
  · have h1 : m.testBit e.on = true := hS k y hy hk e he hb
    rw [h1]; rfl
  · obtain rfl := of_decide_eq_true hk
    rw [ho] at hy
    obtain rfl := Option.some.inj hy
    rw [hd e he hb]; rfl
/-- Operands of one whose turn it is, by what is done. -/
theorem rd_done (hP : porOk ops (masks ops []) = true) {g : Nat → Bool} (hS : ShutF ops g) {i : Nat} {o : Oper} (ho : ops[i]? = some o) (hd : ∀ e ∈ o.after, Region.binds .any e = true → g e.on = true) {t : Nat} (ht : Operand.tmp t ∈ o.op.operands.toList) {j : Nat} {x : Oper} (hx : ops[j]? = some x) (hxt : x.dst = some t) : g j = true := by
  unfold porOk at hP
  simp only [Bool.and_eq_true] at hP
  have h1 := opsOkS_get ops 0 i o hP.2 ho t ht
  have h2 := dsOkS_get ops 0 j x h1 hx hxt
  rw [Nat.zero_add, Nat.zero_add] at h2
  exact mask_done hS i o ho hd j h2
theorem own_not (hlow : lowB ops = true) (hP : porOk ops (masks ops []) = true) {i : Nat} {o : Oper} (ho : ops[i]? = some o) {t : Nat} (ht : Operand.tmp t ∈ o.op.operands.toList) : o.dst ≠ some t := fun hd => by
  unfold porOk at hP
  simp only [Bool.and_eq_true] at hP
  have h1 := opsOkS_get ops 0 i o hP.2 ho t ht
  have h2 := dsOkS_get ops 0 i o h1 ho hd
  rw [Nat.zero_add] at h2
  have := mask_lt hlow i o ho i h2
  omega
theorem ev_set {fr : List SV} {d : Nat} {r : SV} {y : Operand} (h : ∀ t, y = .tmp t → t ≠ d) : ev (fr.set d r) y = ev fr y := by
  cases y with
  | tmp t =>
    show (fr.set d r).getD t .any = fr.getD t .any
    rw [List.getD_eq_getElem?_getD, List.getD_eq_getElem?_getD, List.getElem?_set_ne (fun e => h t rfl e.symm)]
  | const c => rfl
  | global g => rfl
  | func g => rfl
theorem PQ.congr {o : Oper} {fr fr' : List SV} {M M' : Mm} {r : SV} (h : PQ P E o fr M r) (he : ∀ y ∈ o.op.operands.toList, ev fr' y = ev fr y) (ht : isMove o.op = true ∨ ∀ y ∈ o.op.operands.toList, tgt M' (ev fr y) = tgt M (ev fr y)) (hl : M.length ≤ M'.length) : PQ P E o fr' M' r := by
  have e1 : o.op.operands.toList.map (ev fr') = o.op.operands.toList.map (ev fr) := List.map_congr_left he
  refine ⟨h.glob, by rw [e1]; exact h.known, ?_, h.wf.imp id (wf_mono hl r)⟩
  rcases ht with ht | ht
  · rw [e1, qcore_mv ht _ _ ((o.op.operands.toList.map (ev fr)).map (tgt M))]; exact h.made
  · have e2 : (o.op.operands.toList.map (ev fr)).map (tgt M') = (o.op.operands.toList.map (ev fr)).map (tgt M) := by
      rw [List.map_map, List.map_map]
      exact List.map_congr_left ht
    rw [e1, e2]; exact h.made
/-- One that only reads is done ahead of its turn. -/
theorem PInv.ahead (hlow : lowB ops = true) (hP : porOk ops (masks ops []) = true) {f : Nat → Bool} {m : Nat} {fr : List SV} {M : Mm} (h : PInv P E ops f m fr M) {i : Nat} {o : Oper} {d : Nat} {r : SV} (ho : ops[i]? = some o) (hb : m.testBit i = false) (hd : depsIn m o = true) (hdst : o.dst = some d) (hdl : d < fr.length) (hq : PQ P E o fr M r) : PInv P E ops f (m ||| 2 ^ i) (fr.set d r) M ∧ ∀ β n a, RelF β n (hid ops f m fr) a → RelF β n (hid ops f (m ||| 2 ^ i) (fr.set d r)) a := by
  have hi := lt_of_get ho
  have hP' := hP
  unfold porOk at hP'
  simp only [Bool.and_eq_true] at hP'
  have hf : f i = false := by
    cases q : f i
    · rfl
    · have := h.sub i q; rw [hb] at this; cases this
  refine ⟨⟨h.sf, shut_or ho (dep_of hd) h.sm, fun k hk => by rw [bit_or, h.sub k hk]; rfl, fun k hk => by rw [bit_or, h.top k hk, Bool.false_or]; exact decide_eq_false (by omega), fun k x hx hk hfk => ?_, fun t y hy => ?_⟩, fun β n a hF => ⟨by rw [hF.size, hid_len, hid_len, List.length_set], fun t y hy => ?_, hF.defers⟩⟩
  · rw [bit_or, Bool.or_eq_true] at hk
    rcases hk with hk | hk
    · obtain ⟨d', r', q1, q2, q3⟩ := h.late k x hx hk hfk
      have hki : k ≠ i := fun e => by subst e; rw [hb] at hk; cases hk
      have hne : d' ≠ d := fun e => hki (dsts_uniq ops k i x o d hP'.1.2 hx ho (e ▸ q1) hdst)
      refine ⟨d', r', q1, by rw [List.getElem?_set_ne (Ne.symm hne)]; exact q2, q3.congr (fun y hy => ev_set fun t ht e => ?_) (.inr fun _ _ => rfl) (Nat.le_refl _)⟩
      subst ht; subst e
      have := rd_done hP h.sm hx (h.sm k x hx hk) hy ho hdst
      rw [hb] at this
      cases this
    · obtain rfl := of_decide_eq_true hk
      rw [ho] at hx
      obtain rfl := Option.some.inj hx
      refine ⟨d, r, hdst, List.getElem?_set_self hdl, hq.congr (fun y hy => ev_set fun t ht e => ?_) (.inr fun _ _ => rfl) (Nat.le_refl _)⟩
      subst ht; subst e
      exact own_not hlow hP ho hy hdst
  · by_cases q : d = t
    · subst q
      rw [List.getElem?_set_self hdl] at hy
      obtain rfl := Option.some.inj hy
      exact hq.wf
    · rw [List.getElem?_set_ne q] at hy
      exact h.fw t y hy
  · rw [hid_get] at hy
    by_cases q : d = t
    · subst q
      have hl : lateB ops f (m ||| 2 ^ i) d = true := lateB_iff.2 ⟨i, o, ho, by rw [bit_or, decide_eq_true rfl, Bool.or_true], hf, hdst⟩
      rw [List.getElem?_set_self hdl, hl] at hy
      exact .inl (Option.some.inj hy).symm
    · have hl : lateB ops f (m ||| 2 ^ i) t = lateB ops f m t := by
        rw [Bool.eq_iff_iff, lateB_iff, lateB_iff]
        constructor
        · rintro ⟨k, x, hx, h1, h2, h3⟩
          rw [bit_or, Bool.or_eq_true] at h1
          rcases h1 with h1 | h1
          · exact ⟨k, x, hx, h1, h2, h3⟩
          · obtain rfl := of_decide_eq_true h1
            rw [ho] at hx
            obtain rfl := Option.some.inj hx
            rw [hdst] at h3
            exact absurd (Option.some.inj h3) q
        · rintro ⟨k, x, hx, h1, h2, h3⟩
          exact ⟨k, x, hx, by rw [bit_or, h1]; rfl, h2, h3⟩
      rw [List.getElem?_set_ne q, hl] at hy
      exact hF.at' t y (by rw [hid_get]; exact hy)
theorem norm (hlow : lowB ops = true) (hP : porOk ops (masks ops []) = true) {f : Nat → Bool} {K : List SV → Mm → Prop} (L : Nat) (hL : ∀ (i : Nat) (o : Oper) (d : Nat), ops[i]? = some o → o.dst = some d → d < L) : ∀ (n m : Nat) (fr : List SV) (M : Mm), fr.length = L → vallP P E ops (masks ops []) n m fr M K → PInv P E ops f m fr M → ∃ n' m' fr', fr'.length = L ∧ vallP P E ops (masks ops []) n' m' fr' M K ∧ (Nat.beq m' (2 ^ ops.length - 1) = true ∨ n' = 0 ∨ firstQ m' 0 ops = none) ∧ PInv P E ops f m' fr' M ∧ ∀ β n a, RelF β n (hid ops f m fr) a → RelF β n (hid ops f m' fr') a
  | 0, m, fr, M, hl, hv, hI => ⟨0, m, fr, hl, hv, .inr (.inl rfl), hI, fun _ _ _ h => h⟩
  | n + 1, m, fr, M, hl, hv, hI => by
    cases hb : Nat.beq m (2 ^ ops.length - 1)
    · cases hq : firstQ m 0 ops with
      | none => exact ⟨n + 1, m, fr, hl, hv, .inr (.inr hq), hI, fun _ _ _ h => h⟩
      | some io =>
        obtain ⟨i, o⟩ := io
        unfold vallP at hv
        rw [hb, hq] at hv
        simp only [cond_false, natK_eq] at hv
        obtain ⟨r, h1, h2⟩ := vqk_tr hv
        obtain ⟨j, e, ho, hbit, hd, hk⟩ := firstQ_some ops 0 hq
        rw [Nat.zero_add] at e
        subst e
        have hsome : o.dst.isSome = true := by
          have hP' := hP
          unfold porOk at hP'
          simp only [Bool.and_eq_true] at hP'
          have := List.all_eq_true.1 hP'.1.1 o (List.mem_of_getElem? ho)
          simp only [hk, Bool.and_eq_true, Bool.not_true, Bool.false_or] at this
          exact this.2
        obtain ⟨d, hdst⟩ := Option.isSome_iff_exists.1 hsome
        rw [putK_eq, hdst] at h2
        obtain ⟨q1, q2⟩ := hI.ahead hlow hP ho hbit hd hdst (by rw [hl]; exact hL _ o d ho hdst) h1
        obtain ⟨n', m', fr', k1, k2, k3, k4, k5⟩ := norm hlow hP L hL n _ _ M (by rw [List.length_set]; exact hl) h2 q1
        exact ⟨n', m', fr', k1, k2, k3, k4, fun β n a h => k5 β n a (q2 β n a h)⟩
    · exact ⟨n + 1, m, fr, hl, hv, .inl hb, hI, fun _ _ _ h => h⟩
theorem evHid (hP : porOk ops (masks ops []) = true) {f : Nat → Bool} {m : Nat} {fr : List SV} (hS : ShutF ops f) {i : Nat} {o : Oper} (ho : ops[i]? = some o) (hd : ∀ e ∈ o.after, Region.binds .any e = true → f e.on = true) : ∀ y ∈ o.op.operands.toList, ev (hid ops f m fr) y = ev fr y := fun y hy => by
  cases y with
  | tmp t =>
    have hl : lateB ops f m t = false := by
      cases q : lateB ops f m t
      · rfl
      · obtain ⟨j, x, hx, -, h2, h3⟩ := lateB_iff.1 q
        have := rd_done hP hS ho hd hy hx h3
        rw [h2] at this
        cases this
    show (hid ops f m fr).getD t .any = fr.getD t .any
    rw [List.getD_eq_getElem?_getD, List.getD_eq_getElem?_getD, hid_get, hl]
    cases fr[t]? <;> rfl
  | const c => rfl
  | global g => rfl
  | func g => rfl
theorem shut_upd {f : Nat → Bool} {i : Nat} {o : Oper} (ho : ops[i]? = some o) (hd : ∀ e ∈ o.after, Region.binds .any e = true → f e.on = true) (hS : ShutF ops f) : ShutF ops (upd f i) := fun k y hy hk e he hb => by
  have up : ∀ q, f q = true → upd f i q = true := fun q hq => by unfold upd; split; rfl; exact hq
  unfold upd at hk
  split at hk
  · rename_i ek
    subst ek
    rw [ho] at hy
    obtain rfl := Option.some.inj hy
    exact up _ (hd e he hb)
  · exact up _ (hS k y hy hk e he hb)
/-- What is seen of the frame when one is done whose slot is d. -/
theorem hid_set (hU : dstsOk ops = true) {f : Nat → Bool} {m m' : Nat} {fr fr' : List SV} {i : Nat} {o : Oper} {d : Nat} {r : SV} (ho : ops[i]? = some o) (hdst : o.dst = some d) (hdl : d < fr.length) (hl' : fr'.length = fr.length) (hr : fr'[d]? = some r) (hfr : ∀ t, t ≠ d → fr'[t]? = fr[t]?) (hm : ∀ k, k ≠ i → m'.testBit k = m.testBit k) : hid ops (upd f i) m' fr' = (hid ops f m fr).set d r := by
  apply List.ext_getElem?
  intro t
  rw [hid_get]
  by_cases q : d = t
  · subst q
    have hl : lateB ops (upd f i) m' d = false := by
      cases q : lateB ops (upd f i) m' d
      · rfl
      · obtain ⟨j, x, hx, -, h2, h3⟩ := lateB_iff.1 q
        have e := dsts_uniq ops j i x o d hU hx ho h3 hdst
        subst e
        simp [upd] at h2
    rw [hl, hr, List.getElem?_set_self (by rw [hid_len]; exact hdl)]
    rfl
  · have hl : lateB ops (upd f i) m' t = lateB ops f m t := by
      have ne : ∀ j x, ops[j]? = some x → x.dst = some t → j ≠ i := fun j x hx hxt e => by
        subst e
        rw [ho] at hx
        obtain rfl := Option.some.inj hx
        rw [hdst] at hxt
        exact q (Option.some.inj hxt)
      rw [Bool.eq_iff_iff, lateB_iff, lateB_iff]
      constructor
      · rintro ⟨j, x, hx, h1, h2, h3⟩
        have hj := ne j x hx h3
        exact ⟨j, x, hx, by rw [← hm j hj]; exact h1, by unfold upd at h2; rw [if_neg hj] at h2; exact h2, h3⟩
      · rintro ⟨j, x, hx, h1, h2, h3⟩
        have hj := ne j x hx h3
        exact ⟨j, x, hx, by rw [hm j hj]; exact h1, by unfold upd; rw [if_neg hj]; exact h2, h3⟩
    rw [hl, List.getElem?_set_ne q, hid_get, hfr t (Ne.symm q)]
theorem hid_none {f : Nat → Bool} {m m' : Nat} {fr : List SV} {i : Nat} {o : Oper} (ho : ops[i]? = some o) (hdst : o.dst = none) (hm : ∀ k, k ≠ i → m'.testBit k = m.testBit k) : hid ops (upd f i) m' fr = hid ops f m fr := by
  apply List.ext_getElem?
  intro t
  rw [hid_get, hid_get]
  have hl : lateB ops (upd f i) m' t = lateB ops f m t := by
    have ne : ∀ j x, ops[j]? = some x → x.dst = some t → j ≠ i := fun j x hx hxt e => by
      subst e
      rw [ho] at hx
      obtain rfl := Option.some.inj hx
      rw [hdst] at hxt
      cases hxt
    rw [Bool.eq_iff_iff, lateB_iff, lateB_iff]
    constructor
    · rintro ⟨j, x, hx, h1, h2, h3⟩
      have hj := ne j x hx h3
      exact ⟨j, x, hx, by rw [← hm j hj]; exact h1, by unfold upd at h2; rw [if_neg hj] at h2; exact h2, h3⟩
    · rintro ⟨j, x, hx, h1, h2, h3⟩
      have hj := ne j x hx h3
      exact ⟨j, x, hx, by rw [hm j hj]; exact h1, by unfold upd; rw [if_neg hj]; exact h2, h3⟩
  rw [hl]
theorem upd_self (f : Nat → Bool) (i : Nat) : upd f i i = true := by unfold upd; rw [if_pos rfl]
theorem upd_of {f : Nat → Bool} {i k : Nat} (h : upd f i k = false) : k ≠ i ∧ f k = false := by
  unfold upd at h
  split at h
  · cases h
  · exact ⟨‹_›, h⟩
/-- Where one that writes is done: those ahead of their turn stand. -/
theorem PInv.step (hP : porOk ops (masks ops []) = true) {f : Nat → Bool} {m : Nat} {fr fr2 : List SV} {M M2 : Mm} (h : PInv P E ops f m fr M) {i : Nat} {o : Oper} {r : SV} (ho : ops[i]? = some o) (hb : m.testBit i = false) (hd : ∀ e ∈ o.after, Region.binds .any e = true → f e.on = true) (hfr : fr2 = match o.dst with
    | none => fr
    | some d => fr.set d r) (hl : M.length ≤ M2.length) (hr : r = .any ∨ r.wf M2.length = true) (ht : ∀ k x, ops[k]? = some x → m.testBit k = true → f k = false → isMove x.op = true ∨ ∀ y ∈ x.op.operands.toList, tgt M2 (ev fr y) = tgt M (ev fr y)) : PInv P E ops (upd f i) (m ||| 2 ^ i) fr2 M2 := by
  have hi := lt_of_get ho
  have hP' := hP
  unfold porOk at hP'
  simp only [Bool.and_eq_true] at hP'
  have hdm : ∀ e ∈ o.after, Region.binds .any e = true → m.testBit e.on = true := fun e he hb => h.sub _ (hd e he hb)
  refine ⟨shut_upd ho hd h.sf, shut_or ho hdm h.sm, fun k hk => ?_, fun k hk => by rw [bit_or, h.top k hk, Bool.false_or]; exact decide_eq_false (by omega), fun k x hx hk hfk => ?_, fun t y hy => ?_⟩
  · rw [bit_or]
    unfold upd at hk
    split at hk
    · rename_i e; subst e; rw [decide_eq_true rfl, Bool.or_true]
    · rw [h.sub k hk]; rfl
  · obtain ⟨hki, hfk⟩ := upd_of hfk
    rw [bit_or, decide_eq_false (fun e => hki e.symm), Bool.or_false] at hk
    obtain ⟨d', r', q1, q2, q3⟩ := h.late k x hx hk hfk
    have rdn : ∀ t, Operand.tmp t ∈ x.op.operands.toList → o.dst ≠ some t := fun t hy e => by
      have := rd_done hP h.sm hx (h.sm k x hx hk) hy ho e
      rw [hb] at this
      cases this
    refine ⟨d', r', q1, ?_, q3.congr (fun y hy => ?_) (ht k x hx hk hfk) hl⟩
    · rw [hfr]
      cases hdst : o.dst with
      | none => exact q2
      | some d =>
        have hne : d' ≠ d := fun e => hki (dsts_uniq ops k i x o d hP'.1.2 hx ho (e ▸ q1) hdst)
        show (fr.set d r)[d']? = _
        rw [List.getElem?_set_ne (Ne.symm hne)]; exact q2
    · rw [hfr]
      cases hdst : o.dst with
      | none => rfl
      | some d => exact ev_set fun t ht e => by subst ht; subst e; exact rdn _ hy hdst
  · rw [hfr] at hy
    cases hdst : o.dst with
    | none => rw [hdst] at hy; exact (h.fw t y hy).imp id (wf_mono hl y)
    | some d =>
      rw [hdst] at hy
      have hy : (fr.set d r)[t]? = some y := hy
      rw [List.getElem?_set] at hy
      split at hy
      · split at hy
        · obtain rfl := Option.some.inj hy; exact hr
        · cases hy
      · exact (h.fw t y hy).imp id (wf_mono hl y)
theorem PInv.done {f : Nat → Bool} {m : Nat} {fr : List SV} {M : Mm} (h : PInv P E ops f m fr M) {i : Nat} {o : Oper} (ho : ops[i]? = some o) (hb : m.testBit i = true) (hd : ∀ e ∈ o.after, Region.binds .any e = true → f e.on = true) : PInv P E ops (upd f i) m fr M :=
  ⟨shut_upd ho hd h.sf, h.sm, fun k hk => by
    unfold upd at hk
    split at hk
    · rename_i e; subst e; exact hb
    · exact h.sub k hk, h.top, fun k x hx hk hfk => h.late k x hx hk (upd_of hfk).2, h.fw⟩
end
theorem vallP_reg {P : Program} {E : Env} (hE : EnvOk P E) {ops : List Oper} {fr : List SV} {M : Mm} {K : List SV → Mm → Prop} (hlow : lowB ops = true) (hP : porOk ops (masks ops []) = true) (hv : vallP P E ops (masks ops []) ops.length 0 fr M K) (hL : ∀ (i : Nat) (o : Oper) (d : Nat), ops[i]? = some o → o.dst = some d → d < fr.length) : ∀ β0 a0 w0, RelF β0 M.length fr a0 → Rel E.G β0 M w0 → RegI P ops a0 w0 (fun a' w' => OutS E.G β0 M w0 K a' w') := by
  intro β0 a0 w0 hF0 hR0
  have hP' := hP
  unfold porOk at hP'
  simp only [Bool.and_eq_true] at hP'
  have hU := hP'.1.2
  have hid0 : ∀ (f : Nat → Bool) (m : Nat) (fr : List SV), (∀ i, i < ops.length → f i = true ∨ m.testBit i = false) → hid ops f m fr = fr := fun f m fr h => by
    apply List.ext_getElem?
    intro t
    rw [hid_get]
    have hl : lateB ops f m t = false := by
      cases q : lateB ops f m t
      · rfl
      · obtain ⟨j, x, hx, h1, h2, -⟩ := lateB_iff.1 q
        rcases h j (lt_of_get hx) with e | e
        · rw [h2] at e; cases e
        · rw [h1] at e; cases e
    rw [hl]
    cases fr[t]? <;> rfl
  have wants : ∀ (x : Oper) (tmps : Array Value), x ∈ ops → Region.wanted x (yielded ops.toArray tmps) = true := fun x tmps hx => by
    have := List.all_eq_true.1 hP'.1.1 x hx
    simp only [Bool.and_eq_true] at this
    have hgn : x.guard = none := by simpa using this.1
    simp [Region.wanted, hgn]
  refine ⟨fun f a w => ∃ (n m : Nat) (β : Nat → Nat) (fr' : List SV) (M' : Mm), fr'.length = fr.length ∧ vallP P E ops (masks ops []) n m fr' M' K ∧ (Nat.beq m (2 ^ ops.length - 1) = true ∨ n = 0 ∨ firstQ m 0 ops = none) ∧ PInv P E ops f m fr' M' ∧ Ext β0 M w0 β M' w ∧ RelF β M'.length (hid ops f m fr') a ∧ Rel E.G β M' w, ?_, ?_, ?_⟩
  · have h0 : PInv P E ops (fun _ => false) 0 fr M := ⟨(fun k y _ hk => by cases hk), (fun k y _ hk => by simp at hk), (fun k hk => by cases hk), (fun k _ => by simp), (fun k x _ hk => by simp at hk), fun t y hy => (hF0.at' t y hy).imp id (·.1)⟩
    obtain ⟨n', m', fr', k1, k2, k3, k4, k5⟩ := norm hlow hP fr.length hL ops.length 0 fr M rfl hv h0
    exact ⟨n', m', β0, fr', M, k1, k2, k3, k4, Ext.step (Fp.drew w0), k5 _ _ _ (by rw [hid0 _ _ _ (fun i _ => .inr (by simp))]; exact hF0), hR0.step (Fp.drew w0)⟩
  · rintro f a w i x ⟨n, m, β, fr', M', hl, hv, hn, hI, hX, hF, hR⟩ hf hx hdep
    refine .inl ⟨wants x _ (List.mem_of_getElem? hx), ?_⟩
    have evE := evHid (m := m) (fr := fr') hP hI.sf hx hdep
    have hil := lt_of_get hx
    cases hb : m.testBit i
    · -- one that writes
      have hnf : Nat.beq m (2 ^ ops.length - 1) = false := by
        cases q : Nat.beq m (2 ^ ops.length - 1)
        · rfl
        · rw [Nat.eq_of_beq_eq_true q, full_bit hil] at hb; cases hb
      cases n with
      | zero =>
        have := (vsome_iff.1 hv).1
        rw [hnf] at this; cases this
      | succ n =>
        have hfq : firstQ m 0 ops = none := by
          rcases hn with h | h | h
          · rw [hnf] at h; cases h
          · cases h
          · exact h
        unfold vallP at hv
        rw [hnf, hfq] at hv
        have hdm : depsIn m x = true := of_dep fun e he hb => hI.sub _ (hdep e he hb)
        have hg := vready_get ops 0 i x hv hx (by rw [Nat.zero_add, hb, hdm]; rfl)
        rw [natK_eq, Nat.zero_add] at hg
        have notmask : ∀ k, f k = false → ((masks ops []).getD i 0).testBit k = false := fun k hk => by
          cases q : ((masks ops []).getD i 0).testBit k
          · rfl
          · have := mask_done hI.sf i x hx hdep k q
            rw [hk] at this; cases this
        have none_late : Nat.beq (m &&& (masks ops []).getD i 0) m = true → ∀ k, m.testBit k = true → f k = false → False := fun q k h1 h2 => by
          have e := Nat.eq_of_beq_eq_true q
          have h3 := h1
          rw [← e, Nat.testBit_and, notmask k h2, Bool.and_false] at h3
          cases h3
        -- what is pointed to ahead of its turn stays
        have fin : ∀ Kx : SV → Mm → Prop, (∀ r M2, Kx r M2 → (∀ k y, ops[k]? = some y → m.testBit k = true → f k = false → isMove y.op = true ∨ ∀ z ∈ y.op.operands.toList, tgt M2 (ev fr' z) = tgt M' (ev fr' z)) ∧ putK fr' x.dst r fun fr2 => vallP P E ops (masks ops []) n (m ||| 2 ^ i) fr2 M2 K) → vstep P E x fr' M' Kx → OpY P x a w (fun a' w' => ∃ (n m : Nat) (β : Nat → Nat) (fr'' : List SV) (M' : Mm), fr''.length = fr.length ∧ vallP P E ops (masks ops []) n m fr'' M' K ∧ (Nat.beq m (2 ^ ops.length - 1) = true ∨ n = 0 ∨ firstQ m 0 ops = none) ∧ PInv P E ops (upd f i) m fr'' M' ∧ Ext β0 M w0 β M' w' ∧ RelF β M'.length (hid ops (upd f i) m fr'') a' ∧ Rel E.G β M' w') := fun Kx hKx hgx => by
          have hg3 := vstep_congr (fun y hy => (evE y hy).symm) hgx
          refine ⟨vstep_nd hg3, _, vstep_ok hE hF hR hg3, fun v w' hv' => ?_⟩
          obtain ⟨β', M2, r, q1, q2, q3, q45⟩ := hv'
          obtain ⟨q4, q5⟩ := hKx r M2 q45
          rw [putK_eq] at q5
          have hI2 := hI.step hP (fr2 := match x.dst with
            | none => fr'
            | some d => fr'.set d r) hx hb hdep rfl q1.len (q3.imp id (·.1)) q4
          have hm' : ∀ k, k ≠ i → (m ||| 2 ^ i).testBit k = m.testBit k := fun k hk => by rw [bit_or, decide_eq_false (fun e => hk e.symm), Bool.or_false]
          have hl2 : (match x.dst with
            | none => fr'
            | some d => fr'.set d r).length = fr.length := by
            cases x.dst with
            | none => exact hl
            | some d => show (fr'.set d r).length = _; rw [List.length_set]; exact hl
          have hF2 : RelF β' M2.length (hid ops (upd f i) (m ||| 2 ^ i) (match x.dst with
            | none => fr'
            | some d => fr'.set d r)) (a.put x.dst v) := by
            have hp := put_ok (hF.mono q1.len q1.agree) x.dst q3
            cases hdst : x.dst with
            | none =>
              rw [hdst] at hp
              rw [hid_none hx hdst hm']
              exact hp
            | some d =>
              rw [hdst] at hp
              have hdl : d < fr'.length := by rw [hl]; exact hL i x d hx hdst
              rw [hid_set hU hx hdst (m := m) (fr := fr') (r := r) hdl (by rw [List.length_set]) (List.getElem?_set_self hdl) (fun t ht => List.getElem?_set_ne (Ne.symm ht)) hm']
              exact hp
          obtain ⟨n', m', fr3, k1, k2, k3, k4, k5⟩ := norm hlow hP fr.length hL n _ _ M2 hl2 q5 hI2
          exact ⟨n', m', β', fr3, M2, k1, k2, k3, k4, hX.trans q1, k5 _ _ _ hF2, q2⟩
        have appS : ∀ (e : Ent) (j : Nat) (y : Oper), ops[j]? = some y → m.testBit j = true → f j = false → ∀ z ∈ y.op.operands.toList, tgt (M' ++ [e]) (ev fr' z) = tgt M' (ev fr' z) := fun e j y hy h1 h2 z hz => by
          refine tgt_app ?_
          cases z with
          | tmp t =>
            show fr'.getD t .any = .any ∨ (fr'.getD t .any).wf M'.length = true
            rw [List.getD_eq_getElem?_getD]
            cases q : fr'[t]? with
            | none => exact .inl rfl
            | some y => exact hI.fw t y q
          | const c => exact .inr ((ofConst_val β c).2.2 _)
          | global g =>
            obtain ⟨_, _, _, _, q3⟩ := hI.late j y hy h1 h2
            have hh : ∀ (l : List Operand), globOk E.G.length l = true → Operand.global g ∈ l → g < E.G.length := by
              intro l
              induction l with
              | nil => intro _ h; cases h
              | cons z l ih =>
                intro hg2 hz
                rcases List.mem_cons.1 hz with e | e
                · subst e; simp only [globOk, Bool.and_eq_true] at hg2; exact blt_lt hg2.1
                · refine ih ?_ e
                  cases z <;> simp only [globOk, Bool.and_eq_true] at hg2 <;> first | exact hg2 | exact hg2.2
            have h4 := hh _ q3.glob hz
            have h5 := hR.gl
            exact .inr (by show Nat.blt g M'.length = true; rw [Nat.blt_eq]; omega)
          | func g => exact .inr rfl
        cases hso : stepOkP ops x m ((masks ops []).getD i 0) fr'
        · rw [hso, cond_false] at hg
          exact fin _ (fun r M2 hK => ⟨fun j y hy h1 h2 => lateEq_get ops 0 j y hK.1 hy (by rw [Nat.zero_add]; exact h1) (by rw [Nat.zero_add]; exact notmask j h2), hK.2⟩) hg
        rw [hso, cond_true] at hg
        unfold stepOkP at hso
        split at hso
        · rename_i t p z hop
          split at hso
          · rename_i k off hp
            refine fin _ (fun r M2 ⟨⟨e, he⟩, hK⟩ => ⟨fun j y hy h1 h2 => .inr fun z hz => ?_, hK⟩) (vstep_store hop hp hg)
            subst he
            exact tgt_set (lateFree_get ops 0 j y hso hy (by rw [Nat.zero_add]; exact h1) (by rw [Nat.zero_add]; exact notmask j h2) z hz)
          · cases hso
        · rename_i t hop
          refine fin _ (fun r M2 ⟨⟨e, he⟩, hK⟩ => ⟨fun j y hy h1 h2 => .inr fun z hz => ?_, hK⟩) (vstep_alloc hop hg)
          subst he
          exact appS e j y hy h1 h2 z hz
        · rename_i t nn pp hop
          refine fin _ (fun r M2 ⟨he, hK⟩ => ⟨fun j y hy h1 h2 => .inr fun z hz => ?_, hK⟩) (vstep_build hop hg)
          rcases he with rfl | ⟨e, rfl⟩
          · rfl
          · exact appS e j y hy h1 h2 z hz
        · exact fin _ (fun r M2 hK => ⟨fun j y hy h1 h2 => .inl (lateMv_get ops 0 j y hso hy (by rw [Nat.zero_add]; exact h1) (by rw [Nat.zero_add]; exact notmask j h2)), hK⟩) hg
    · -- one that was done ahead of its turn
      obtain ⟨d, r, hdst, hr, hq⟩ := hI.late i x hx hb hf
      have e1 : x.op.operands.toList.map (ev (hid ops f m fr')) = x.op.operands.toList.map (ev fr') := List.map_congr_left evE
      have hq' : qcore P E.T 0 x.op (x.op.operands.toList.map (ev (hid ops f m fr'))) ((x.op.operands.toList.map (ev (hid ops f m fr'))).map (tgt M')) = .ok true r := by rw [e1]; exact hq.made
      refine ⟨qcore_nd (by rw [hq']; exact fun e => nomatch e), _, qcore_ok hE.T hF hR rfl rfl hq.glob (by rw [e1]; exact hq.known) hq', fun v w' hv' => ?_⟩
      refine ⟨n, m, β, fr', M', hl, hv, hn, hI.done hx hb hdep, hX.trans (Ext.step hv'.2), ?_, hR.step hv'.2⟩
      have hdl : d < fr'.length := lt_of_get hr
      rw [hid_set hU hx hdst (m := m) (fr := fr') (r := r) hdl rfl hr (fun _ _ => rfl) (fun _ _ => rfl), hdst]
      refine put_ok (d := some d) hF ?_
      rcases hv'.1 with e | e
      · exact .inl e
      · exact hq.wf.imp id fun q => ⟨q, e⟩
  · rintro f a w ⟨n, m, β, fr', M', hl, hv, hn, hI, hX, hF, hR⟩ hall
    have e : m = 2 ^ ops.length - 1 := by
      apply Nat.eq_of_testBit_eq
      intro i
      rw [Nat.testBit_two_pow_sub_one]
      rcases Nat.lt_or_ge i ops.length with q | q
      · rw [hI.sub i (hall i q), decide_eq_true q]
      · rw [hI.top i q, decide_eq_false (by omega)]
    have hb : Nat.beq m (2 ^ ops.length - 1) = true := by rw [e]; exact Nat.beq_refl _
    rw [hid0 _ _ _ (fun i hi => .inl (hall i hi))] at hF
    refine ⟨β, fr', M', hX, hF, hR, ?_⟩
    cases n with
    | zero => exact (vsome_iff.1 hv).2
    | succ n =>
      unfold vallP at hv
      rw [hb] at hv
      exact hv
theorem snoc_of {ops : List Oper} (h : ops.isEmpty = false) : ∃ l o, ops = l ++ [o] := by
  cases hq : ops.reverse with
  | nil => simp at hq; subst hq; simp at h
  | cons o l => exact ⟨l.reverse, o, by rw [← List.reverse_reverse ops, hq]; simp⟩
theorem vdrawA_reg {P : Program} {E : Env} (hE : EnvOk P E) {n : Nat} {ops : List Oper} {fr : List SV} {M : Mm} {K : List SV → Mm → Prop} (h : vdrawA P E ops n fr M K) : lowB ops = true ∧ (∃ l o, ops = l ++ [o]) ∧ ∀ β0 a0 w0, RelF β0 M.length fr a0 → Rel E.G β0 M w0 → RegI P ops a0 w0 (fun a' w' => OutS E.G β0 M w0 K a' w') := by
  rcases vdrawA_cases h with h | ⟨h1, h2, h3⟩
  · exact vdrawN_reg hE h
  · refine ⟨h1, snoc_of h2, ?_⟩
    rcases h3 with ⟨h3, h4⟩ | h3
    · refine vallP_reg hE h1 h3.1 h4 fun i o d ho hd => ?_
      have := List.all_eq_true.1 h3.2 o (List.mem_of_getElem? ho)
      rw [hd] at this
      exact blt_lt this
    · exact vall_reg hE h3
theorem vdraw_reg {P : Program} {E : Env} (hE : EnvOk P E) {ops : List Oper} {fr : List SV} {M : Mm} {K : List SV → Mm → Prop} (h : vdraw P E ops fr M K) : AllL ops.toArray ∧ ∀ β0 a0 w0, RelF β0 M.length fr a0 → Rel E.G β0 M w0 → RegI P ops a0 w0 (fun a' w' => OutS E.G β0 M w0 K a' w') := by
  unfold vdraw at h
  cases hl : lowB ops <;> rw [hl] at h
  · simp only [cond_false, ordK_eq] at h
    obtain ⟨hp, h⟩ := vsome_iff.1 h
    have hp := prmOk_iff hp
    obtain ⟨hlow, ⟨l, o, e⟩, hreg⟩ := vdrawA_reg hE h
    refine ⟨allL_prm hp ?_, fun β0 a0 w0 h1 h2 => regI_prm hp (hreg β0 a0 w0 h1 h2)⟩
    rw [e] at hlow ⊢
    exact allL_low hlow
  · obtain ⟨hlow, ⟨l, o, e⟩, hreg⟩ := vdrawA_reg hE h
    refine ⟨?_, hreg⟩
    rw [e] at hlow ⊢
    exact allL_low hlow
theorem vdraw_ok {P : Program} {E : Env} (hE : EnvOk P E) (hm : P.follows .mixedOrders = true) {rid : Nat} {ops : List Oper} {fr : List SV} {M : Mm} {K : List SV → Mm → Prop} (h : vdraw P E ops fr M K) : Wq P E.G (.region rid ops.toArray true) fr M (fun e fr' M' => e = .normal ∧ K fr' M') := by
  obtain ⟨hA, hreg⟩ := vdraw_reg hE h
  intro β0 a0 w0 hF0 hR0
  obtain ⟨I, h0, hs, he⟩ := hreg β0 a0 w0 hF0 hR0
  refine wp_region_all ops hm hA I h0 (fun f a w i x hI hf hx hd => (hs f a w i x hI hf hx hd).imp (fun h => ⟨h.1, h.2.wp⟩) id) (fun f a w hI hall => ?_)
  obtain ⟨β', fr', M', q1, q2, q3, q4⟩ := he f a w hI hall
  exact ⟨β', fr', M', q1, q2, q3, rfl, q4⟩
end Go.Proofs.Ytkjfecdpakhggaa
