/-
  A region that draws its order and ends in operations each of which waits for all ahead of it (stores behind loads and calls): one walk of the others in the order of the text, in a class of worlds, and then these, one behind the other. No statement is proved here.
-/
import Derived.Test.YtkjfecdpakhggaaBase
namespace Go.Proofs.Ytkjfecdpakhggaa
open Go.RowKit Go.BigFrame
set_option linter.unusedVariables false
set_option linter.unusedSimpArgs false

/-- o waits for i. -/
def covT (o : Oper) (i : Nat) : Bool := o.after.any fun e => Region.binds .any e && e.on == i
/-- o waits for i, or for one that waits for it, and so on. -/
def reach (ops : List Oper) : Nat → Oper → Nat → Bool
  | 0, o, i => covT o i
  | n + 1, o, i => covT o i || (List.range ops.length).any fun k => covT o k && (match ops[k]? with
    | some x => reach ops n x i
    | none => false)
/-- Those from n on wait for all ahead of them. -/
def coverT (n : Nat) (ops : List Oper) : Bool := (List.range ops.length).all fun p => decide (p < n) || (match ops[p]? with
  | some o => (List.range p).all fun i => reach ops 8 o i
  | none => true)
def ShutT (ops : List Oper) (listed : Array Bool) : Prop := ∀ k x, ops[k]? = some x → listed.getD k false = true → ∀ e ∈ x.after, Region.binds .any e = true → listed.getD e.on false = true
theorem covT_of {x : Oper} {i : Nat} (h : covT x i = true) {listed : Array Bool} (hd : ∀ e ∈ x.after, Region.binds .any e = true → listed.getD e.on false = true) : listed.getD i false = true := by
  obtain ⟨e, he, h2⟩ := Array.any_eq_true'.1 h
  simp only [Bool.and_eq_true, beq_iff_eq] at h2
  have h3 := hd e he h2.1
  rw [h2.2] at h3
  exact h3
theorem reach_of {ops : List Oper} {listed : Array Bool} (hS : ShutT ops listed) : ∀ (n : Nat) (x : Oper) (i : Nat), reach ops n x i = true → (∀ e ∈ x.after, Region.binds .any e = true → listed.getD e.on false = true) → listed.getD i false = true
  | 0, x, i, h, hd => covT_of h hd
  | n + 1, x, i, h, hd => by
    rcases Bool.or_eq_true_iff.1 h with h1 | h1
    · exact covT_of h1 hd
    · obtain ⟨k, _, h4⟩ := List.any_eq_true.1 h1
      simp only [Bool.and_eq_true] at h4
      have h5 := covT_of h4.1 hd
      cases hk : ops[k]? with
      | none => rw [hk] at h4; exact absurd h4.2 (by simp)
      | some y =>
        rw [hk] at h4
        exact reach_of hS n y i h4.2 (hS k y hk h5)
theorem ready_idles (l T : List Oper) (listed : Array Bool) : Region.ready .any (l ++ T.map idle).toArray listed = Region.ready .any (l ++ T).toArray listed := by
  unfold Region.ready
  have hs : (l ++ T.map idle).toArray.size = (l ++ T).toArray.size := by simp
  rw [hs]
  apply List.filter_congr
  intro i hi
  have e : ((l ++ T.map idle).toArray[i]?).map (·.after) = ((l ++ T).toArray[i]?).map (·.after) := by
    simp only [List.getElem?_toArray, List.getElem?_append]
    split
    · rfl
    · rw [List.getElem?_map]
      cases T[i - l.length]? <;> rfl
  have e2 : ∀ x : Option Oper, (x.map fun o => o.after.all fun e => !Region.binds .any e || listed.getD e.on false) = ((x.map (·.after)).map fun s => s.all fun e => !Region.binds .any e || listed.getD e.on false) := fun x => by cases x <;> rfl
  rw [e2, e2, e]
/-- The first m are listed, and no other. -/
structure Upto (n m : Nat) (listed : Array Bool) : Prop where
  size : listed.size = n
  yes : ∀ j, j < m → listed.getD j false = true
  no : ∀ j, m ≤ j → j < n → listed.getD j true = false
theorem Upto.next {n m : Nat} {listed : Array Bool} (h : Upto n m listed) (hm : m < n) : Upto n (m + 1) (listed.setIfInBounds m true) := by
  refine ⟨by simpa using h.size, fun j hj => ?_, fun j h1 h2 => ?_⟩
  · by_cases e : m = j
    · subst e
      have : m < listed.size := by rw [h.size]; exact hm
      simp [this]
    · rw [getD_set_ne false e]; exact h.yes j (by omega)
  · rw [getD_set_ne true (by omega)]; exact h.no j (by omega) h2
theorem Upto.shut {ops : List Oper} {m : Nat} {listed : Array Bool} (h : Upto ops.length m listed) (hlow : lowB ops = true) : ShutT ops listed := by
  intro k x hx hk e he hb
  have hkl : k < ops.length := (List.getElem?_eq_some_iff.1 hx).1
  have hkm : k < m := by
    apply Classical.byContradiction
    intro hno
    have h1 := h.no k (by omega) hkl
    have : k < listed.size := by rw [h.size]; exact hkl
    simp [this] at h1 hk
    rw [h1] at hk; cases hk
  have h1 := List.all_eq_true.1 hlow k (by simpa using hkl)
  rw [hx] at h1
  have h2 := (Array.all_eq_true_iff_forall_mem.1 h1) e he
  rw [hb] at h2
  have hlt : e.on < k := by simpa using h2
  exact h.yes _ (by omega)
theorem Upto.mem {ops : List Oper} {m : Nat} {listed : Array Bool} (h : Upto ops.length m listed) (hlow : lowB ops = true) (hm : m < ops.length) : m ∈ Region.ready .any ops.toArray listed := by
  rw [mem_ready]
  refine ⟨h.no m (Nat.le_refl _) hm, ops[m], by simp only [List.getElem?_toArray]; exact List.getElem?_eq_getElem hm, fun e he hb => ?_⟩
  have h1 := List.all_eq_true.1 hlow m (by simpa using hm)
  rw [List.getElem?_eq_getElem hm] at h1
  have h2 := (Array.all_eq_true_iff_forall_mem.1 h1) e he
  rw [hb] at h2
  have hlt : e.on < m := by simpa using h2
  exact h.yes _ hlt
theorem wait_of {n : Nat} {ops : List Oper} (hc : coverT n ops = true) {i : Nat} (hi : n ≤ i) {o : Oper} (ho : ops[i]? = some o) {listed : Array Bool} (hS : ShutT ops listed) (hd : ∀ e ∈ o.after, Region.binds .any e = true → listed.getD e.on false = true) : ∀ j, j < i → listed.getD j false = true := by
  intro j hj
  have hil : i < ops.length := (List.getElem?_eq_some_iff.1 ho).1
  have h1 := List.all_eq_true.1 hc i (by simpa using hil)
  rw [ho] at h1
  rcases Bool.or_eq_true_iff.1 h1 with h2 | h2
  · exact absurd (of_decide_eq_true h2) (by omega)
  · have h3 := List.all_eq_true.1 h2 j (by simpa using hj)
    exact reach_of hS 8 o j h3 hd
theorem Upto.only {n : Nat} {ops : List Oper} {m : Nat} {listed : Array Bool} (h : Upto ops.length m listed) (hlow : lowB ops = true) (hc : coverT n ops = true) (hn : n ≤ m) {i : Nat} (hi : i ∈ Region.ready .any ops.toArray listed) : i = m ∧ m < ops.length := by
  obtain ⟨h0, o, ho, hd⟩ := mem_ready.1 hi
  simp only [List.getElem?_toArray] at ho
  have hil : i < ops.length := (List.getElem?_eq_some_iff.1 ho).1
  have hsz : i < listed.size := by rw [h.size]; exact hil
  have hmi : m ≤ i := by
    apply Classical.byContradiction
    intro hno
    have h1 := h.yes i (by omega)
    simp [hsz] at h0 h1
    rw [h0] at h1; cases h1
  rcases Nat.eq_or_lt_of_le hmi with e | e
  · exact ⟨e.symm, by omega⟩
  · exfalso
    have h1 := wait_of hc (by omega) ho (h.shut hlow) hd m e
    have h2 := h.no m (Nat.le_refl _) (by omega)
    have : m < listed.size := by rw [h.size]; omega
    simp [this] at h1 h2
    rw [h2] at h1; cases h1
theorem Upto.none {n : Nat} {ops : List Oper} {listed : Array Bool} (h : Upto ops.length ops.length listed) : Region.ready .any ops.toArray listed = [] := by
  apply List.eq_nil_iff_forall_not_mem.2
  intro k hk
  obtain ⟨hk0, o2, ho2, _⟩ := mem_ready.1 hk
  have hkl : k < ops.length := by
    have := (Array.getElem?_eq_some_iff.1 ho2).1
    simpa using this
  have h1 := h.yes k hkl
  have : k < listed.size := by rw [h.size]; exact hkl
  simp [this] at h1 hk0
  rw [hk0] at h1; cases h1
/-- These, one behind the other. -/
def tailWp (P : Program) (Q : Exit → Act → World → Prop) : List Oper → Act → World → Prop
  | [], a, w => Q .normal a w
  | o :: T, a, w => o.wp P a w (fun a' w' => tailWp P Q T a' w') Q
theorem idle_run {P : Program} {C : World → Prop} {Post : Act → Prop} {l T : List Oper} (hg : (l ++ T).all (fun x => x.guard.isNone) = true) (hlow : lowB (l ++ T) = true) :
    ∀ (k fuel m : Nat) (listed : Array Bool) (a : Act), l.length ≤ m → m + k = (l ++ T).length → Upto (l ++ T).length m listed → wpAnyQ P .any (l ++ T.map idle).toArray C Post fuel listed a → Post a ∧ k ≤ fuel := by
  intro k
  induction k with
  | zero =>
    intro fuel m listed a hm hk hU h
    have hmm : m = (l ++ T).length := by omega
    rw [hmm] at hU
    have hr : Region.ready .any (l ++ T.map idle).toArray listed = [] := (ready_idles l T listed).trans (Upto.none (n := 0) hU)
    cases fuel with
    | zero => exact ⟨h.2, Nat.le_refl _⟩
    | succ f => exact ⟨h.1 hr, Nat.zero_le _⟩
  | succ k ih =>
    intro fuel m listed a hm hk hU h
    have hmem : m ∈ Region.ready .any (l ++ T.map idle).toArray listed := by rw [ready_idles]; exact hU.mem hlow (by omega)
    cases fuel with
    | zero => rw [h.1] at hmem; cases hmem
    | succ f =>
      have hq := h.2 m hmem
      have hmT : m - l.length < T.length := by simp at hk; omega
      have hidle : (l ++ T.map idle).toArray[m]? = some (idle T[m - l.length]) := by
        simp only [List.getElem?_toArray]
        rw [List.getElem?_append_right hm, List.getElem?_map, List.getElem?_eq_getElem hmT]; rfl
      have hgo : T[m - l.length].guard = none := by
        have := List.all_eq_true.1 hg T[m - l.length] (by simp)
        simpa using this
      have hwi : ∀ y, Region.wanted (idle T[m - l.length]) y = true := fun y => by unfold Region.wanted idle; simp [hgo]
      unfold qOp at hq
      simp only [hidle, hwi, if_true] at hq
      obtain ⟨v, _, hK⟩ := hq
      have e : (a.put (idle T[m - l.length]).dst v) = a := rfl
      rw [e] at hK
      obtain ⟨h1, h2⟩ := ih f (m + 1) _ a (by omega) (by omega) (hU.next (by omega)) hK
      exact ⟨h1, by omega⟩
theorem tail_run {P : Program} {Q : Exit → Act → World → Prop} {l T : List Oper} (hg : (l ++ T).all (fun x => x.guard.isNone) = true) (hlow : lowB (l ++ T) = true) (hc : coverT l.length (l ++ T) = true) :
    ∀ (k fuel m : Nat) (listed : Array Bool) (a : Act) (w : World), l.length ≤ m → m + k = (l ++ T).length → k ≤ fuel → Upto (l ++ T).length m listed → tailWp P Q (T.drop (m - l.length)) a w → wpAny P .any (l ++ T).toArray Q fuel listed a w := by
  intro k
  induction k with
  | zero =>
    intro fuel m listed a w hm hk hf hU h
    have hmm : m = (l ++ T).length := by omega
    rw [hmm] at hU
    have hd : T.drop (m - l.length) = [] := List.drop_eq_nil_iff.2 (by simp at hk; omega)
    rw [hd] at h
    exact wpAny_done (Upto.none (n := 0) hU) h fuel
  | succ k ih =>
    intro fuel m listed a w hm hk hf hU h
    obtain ⟨f, rfl⟩ : ∃ f, fuel = f + 1 := ⟨fuel - 1, by omega⟩
    have hmem := hU.mem hlow (by omega)
    refine ⟨fun hr => (by rw [hr] at hmem; cases hmem), fun i hi => ?_⟩
    obtain ⟨rfl, hlt⟩ := hU.only hlow hc hm hi
    have hmT : i - l.length < T.length := by simp at hk; omega
    rw [List.drop_eq_getElem_cons hmT] at h
    have ho : (l ++ T).toArray[i]? = some T[i - l.length] := by
      simp only [List.getElem?_toArray]
      rw [List.getElem?_append_right hm, List.getElem?_eq_getElem hmT]
    have hgo : T[i - l.length].guard = none := by
      have := List.all_eq_true.1 hg T[i - l.length] (by simp)
      simpa using this
    have hwo : ∀ y, Region.wanted T[i - l.length] y = true := fun y => by unfold Region.wanted; simp [hgo]
    unfold wpOp
    simp only [ho, hwo, if_true]
    refine .inl (Oper.wp_mono (fun a' w' h2 => ?_) h)
    refine ih f (i + 1) _ a' w' (by omega) (by omega) (by omega) (hU.next (by omega)) ?_
    rw [show i + 1 - l.length = i - l.length + 1 by omega]
    exact h2
theorem wp_tail_step {P : Program} {Q : Exit → Act → World → Prop} {C : World → Prop} {l T : List Oper} (hT : T ≠ []) (hg : (l ++ T).all (fun x => x.guard.isNone) = true) (hlow : lowB (l ++ T) = true) (hc : coverT l.length (l ++ T) = true) :
    ∀ (fuel : Nat) (listed : Array Bool) (a : Act) (w : World), listed.size = (l ++ T).length → (∀ j, l.length ≤ j → j < (l ++ T).length → listed.getD j true = false) → ShutT (l ++ T) listed → C w →
      wpAnyQ P .any (l ++ T.map idle).toArray C (fun a' => ∀ w', C w' → tailWp P Q T a' w') fuel listed a → wpAny P .any (l ++ T).toArray Q fuel listed a w := by
  have hTl : 0 < T.length := List.length_pos_iff.2 hT
  have hnever : ∀ listed : Array Bool, listed.size = (l ++ T).length → listed.getD l.length true = false → Region.ready .any (l ++ T).toArray listed ≠ [] := by
    intro listed hs h0 hr
    obtain ⟨T', o, rfl⟩ : ∃ T' o, T = T' ++ [o] := ⟨T.dropLast, T.getLast hT, (List.dropLast_concat_getLast hT).symm⟩
    rw [← List.append_assoc] at hr hlow hs
    rcases all_listed hlow hr l.length (by simp) with h | h
    · rw [h0] at h; cases h
    · simp at hs; omega
  intro fuel
  induction fuel with
  | zero =>
    intro listed a w hs h0 hS hC h
    exact absurd ((ready_idles l T listed).symm.trans h.1) (hnever listed hs (h0 _ (Nat.le_refl _) (by simp; omega)))
  | succ fuel ih =>
    intro listed a w hs h0 hS hC h
    refine ⟨fun hr => absurd hr (hnever listed hs (h0 _ (Nat.le_refl _) (by simp; omega))), fun i hi => ?_⟩
    by_cases hil : i < l.length
    · have hq := h.2 i (by rw [ready_idles]; exact hi)
      have e1 : (l ++ T.map idle).toArray[i]? = some l[i] := by
        simp only [List.getElem?_toArray]
        rw [List.getElem?_append_left hil]; exact List.getElem?_eq_getElem hil
      have e2 : (l ++ T).toArray[i]? = some l[i] := by
        simp only [List.getElem?_toArray]
        rw [List.getElem?_append_left hil]; exact List.getElem?_eq_getElem hil
      have hgi : l[i].guard = none := by
        have := List.all_eq_true.1 hg l[i] (by simp)
        simpa using this
      have hwi : ∀ y, Region.wanted l[i] y = true := fun y => by unfold Region.wanted; simp [hgi]
      unfold qOp at hq
      simp only [e1, hwi, if_true] at hq
      unfold wpOp
      simp only [e2, hwi, if_true]
      refine .inl (Oper.wp_of_quiet hC (fun a' w' hC' h5 => ih _ _ _ (by simpa using hs) ?_ ?_ hC' h5) hq)
      · intro j h1 h2
        rw [getD_set_ne true (by omega)]; exact h0 j h1 h2
      · obtain ⟨_, o2, ho2, hdep⟩ := mem_ready.1 hi
        simp only [List.getElem?_toArray] at ho2
        intro k x hx hk e he hb
        by_cases hik : i = k
        · subst hik
          rw [ho2] at hx
          have hx2 : o2 = x := by simpa using hx
          subst hx2
          exact getD_set_true (hdep e he hb)
        · rw [getD_set_ne false hik] at hk
          exact getD_set_true (hS k x hx hk e he hb)
    · obtain ⟨_, o2, ho2, hdep⟩ := mem_ready.1 hi
      simp only [List.getElem?_toArray] at ho2
      have hall := wait_of hc (by omega) ho2 hS hdep
      have hU : Upto (l ++ T).length l.length listed := ⟨hs, fun j hj => hall j (by omega), h0⟩
      obtain ⟨hpost, hfu⟩ := idle_run hg hlow T.length (fuel + 1) l.length listed a (Nat.le_refl _) (by simp) hU h
      have h4 := tail_run (P := P) (Q := Q) hg hlow hc T.length (fuel + 1) l.length listed a w (Nat.le_refl _) (by simp) hfu hU (by simpa using hpost w hC)
      exact h4.2 i hi
theorem wpQuiet_idles {P : Program} {ops : Array Oper} {C : World → Prop} {Q : Act → Prop} : ∀ (T : List Oper), T.all (fun x => x.guard.isNone) = true → ∀ (l : List Oper) (a : Act), wpQuiet P ops C Q l a → wpQuiet P ops C Q (l ++ T.map idle) a
  | [], _, l, a, h => by simpa using h
  | o :: T, hg, l, a, h => by
    simp only [List.all_cons, Bool.and_eq_true] at hg
    have h1 := wpQuiet_idle (o := o) (by simpa using hg.1) l a h
    have h2 := wpQuiet_idles T hg.2 (l ++ [idle o]) a h1
    simpa using h2
/-- A region whose last operations each wait for all ahead of them: the others by one walk in the order of the text, each quiet in the class; then these. -/
theorem wp_region_tail {P : Program} {id : Nat} {Q : Exit → Act → World → Prop} {C : World → Prop} {a : Act} {w : World} (l T : List Oper) (hT : T ≠ []) (hm : P.follows .mixedOrders = true) (hB : Region.lexB .any (l ++ T.map idle).toArray = true)
    (hg : (l ++ T).all (fun x => x.guard.isNone) = true) (hlow : lowB (l ++ T) = true) (hc : coverT l.length (l ++ T) = true) (hC : C { w with drawn := w.drawn + 1 })
    (h : wpQuiet P (l ++ T.map idle).toArray C (fun a' => ∀ w', C w' → tailWp P Q T a' w') l a) : (Code.region id (l ++ T).toArray true).wp P Q a w := by
  simp only [Region.lexB, Bool.and_eq_true] at hB
  have hgT : T.all (fun x => x.guard.isNone) = true := by
    rw [List.all_append, Bool.and_eq_true] at hg
    exact hg.2
  refine wp_region_any hm ?_
  have h2 := wpAnyQ_lex (C := C) (md := .any) hB.1 (l ++ T.map idle) 0 (Array.replicate (l ++ T.map idle).toArray.size false) a (by simp) (by simpa using hB.2) (wpQuiet_idles T hgT l a h)
  have h3 := wp_tail_step (Q := Q) hT hg hlow hc (l ++ T.map idle).length (Array.replicate (l ++ T.map idle).toArray.size false) a { w with drawn := w.drawn + 1 } (by simp) (fun j _ hj => by simp at hj; simp [Array.getD_eq_getD_getElem?, Array.getElem?_replicate, hj]) (fun k x _ hk => by exfalso; simp [Array.getD_eq_getD_getElem?, Array.getElem?_replicate] at hk; split at hk <;> simp at hk) hC h2
  simpa using h3
/-- The same at the class 'w and some blocks more'. -/
theorem wp_region_tail_ext {P : Program} {id : Nat} {Q : Exit → Act → World → Prop} {a : Act} {w : World} (l T : List Oper) (hT : T ≠ []) (hm : P.follows .mixedOrders = true) (hB : Region.lexB .any (l ++ T.map idle).toArray = true)
    (hg : (l ++ T).all (fun x => x.guard.isNone) = true) (hlow : lowB (l ++ T) = true) (hc : coverT l.length (l ++ T) = true)
    (h : wpQuiet P (l ++ T.map idle).toArray (fun w' => ∃ x, w' = ext w x) (fun a' => ∀ w', (∃ x, w' = ext w x) → tailWp P Q T a' w') l a) : (Code.region id (l ++ T).toArray true).wp P Q a w :=
  wp_region_tail l T hT hm hB hg hlow hc ⟨{ w with heap := #[], drawn := w.drawn + 1 }, by simp [ext]⟩ h
end Go.Proofs.Ytkjfecdpakhggaa
