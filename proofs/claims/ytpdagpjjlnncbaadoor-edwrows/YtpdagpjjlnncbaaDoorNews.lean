/-
  A region that draws its order, makes new variables in it, and ends in operations each of which waits for all ahead of it ('a, b := f(), g()'): one walk of the others; where the new variables lie is open. No statement is proved here.
-/
import Derived.Test.YtpdagpjjlnncbaaDoorTail
namespace Go.Proofs.YtpdagpjjlnncbaaDoor
open Go.RowKit Go.BigFrame
set_option linter.unusedVariables false
set_option linter.unusedSimpArgs false

def isNew (o : Oper) : Bool := match o.op with
  | .alloc _ => true
  | _ => false
/-- A new variable's operation, put to rest. -/
def still (o : Oper) : Oper := if isNew o then idle o else o
theorem still_after (o : Oper) : (still o).after = o.after := by unfold still; split <;> rfl
theorem still_guard (o : Oper) : (still o).guard = o.guard := by unfold still; split <;> rfl
/-- The slots of the new variables, their types, their cells. -/
abbrev News := List (Nat × Nat × Array Value)
def newB (Al : News) (l : List Oper) : Bool :=
  (l.all fun o => match o.op with
    | .alloc t => Al.any fun x => o.dst == some x.1 && t == x.2.1
    | .select _ _ => false
    | _ => true) &&
  (l.all fun o => o.op.operands.all fun x => match x with
    | .tmp k => !(Al.any fun y => y.1 == k)
    | _ => true) &&
  (Al.all fun x => l.any fun o => isNew o && o.dst == some x.1) &&
  ((List.range l.length).all fun i => (List.range l.length).all fun j => decide (i = j) || (match l[i]?, l[j]? with
    | some o, some u => o.dst.isNone || o.dst != u.dst
    | _, _ => true)) &&
  (l.all fun o => isNew o || (match o.dst with
    | some d => !(Al.any fun y => y.1 == d)
    | none => true))
def putAll (p : Nat → Nat) : News → Act → Act
  | [], a => a
  | x :: Al, a => putAll p Al (a.put (some x.1) (.pointer (some ⟨p x.1, 0, none⟩)))
theorem put_get (a : Act) (d : Nat) (v : Value) (k : Nat) : (a.put (some d) v).tmps[k]? = if d = k ∧ k < a.tmps.size then some v else a.tmps[k]? := by
  show (a.tmps.setIfInBounds d v)[k]? = _
  by_cases h : d = k
  · subst h
    by_cases hs : d < a.tmps.size
    · simp [hs]
    · simp [hs]
  · rw [Array.getElem?_setIfInBounds_ne h, if_neg (fun e => h e.1)]
theorem put_size (a : Act) (d : Option Nat) (v : Value) : (a.put d v).tmps.size = a.tmps.size := by
  cases d with
  | none => rfl
  | some d => show (a.tmps.setIfInBounds d v).size = _; simp
theorem put_defers (a : Act) (d : Option Nat) (v : Value) : (a.put d v).defers = a.defers := by cases d <;> rfl
theorem putAll_size (p : Nat → Nat) : ∀ (Al : News) (a : Act), (putAll p Al a).tmps.size = a.tmps.size
  | [], a => rfl
  | x :: Al, a => by rw [putAll, putAll_size p Al, put_size]
theorem putAll_defers (p : Nat → Nat) : ∀ (Al : News) (a : Act), (putAll p Al a).defers = a.defers
  | [], a => rfl
  | x :: Al, a => by rw [putAll, putAll_defers p Al, put_defers]
theorem putAll_get (p : Nat → Nat) : ∀ (Al : News) (a : Act) (k : Nat), (putAll p Al a).tmps[k]? = if (Al.any fun x => x.1 == k) ∧ k < a.tmps.size then some (.pointer (some ⟨p k, 0, none⟩)) else a.tmps[k]?
  | [], a, k => by simp [putAll]
  | x :: Al, a, k => by
    rw [putAll, putAll_get p Al, put_size, put_get]
    by_cases hs : k < a.tmps.size
    · by_cases h : x.1 = k
      · subst h
        by_cases h2 : (Al.any fun y => y.1 == x.1) = true
        · simp [hs, h2]
        · simp [hs, h2]
      · by_cases h2 : (Al.any fun y => y.1 == k) = true
        · simp [hs, h2]
        · simp [h, h2]
    · simp [hs]
theorem act_eq {a b : Act} (hs : a.tmps.size = b.tmps.size) (hd : a.defers = b.defers) (h : ∀ k : Nat, a.tmps[k]? = b.tmps[k]?) : a = b := by
  obtain ⟨ta, da⟩ := a
  obtain ⟨tb, db⟩ := b
  have : ta = tb := Array.ext_getElem? h
  subst this
  have : da = db := hd
  subst this
  rfl
/-- The frame with the new variables of dn, beside the frame without. -/
structure Sim (Al : News) (dn : Nat → Bool) (p : Nat → Nat) (q a : Act) : Prop where
  size : a.tmps.size = q.tmps.size
  defers : a.defers = q.defers
  get : ∀ k : Nat, a.tmps[k]? = if (Al.any fun x => x.1 == k) ∧ dn k = true ∧ k < q.tmps.size then some (.pointer (some ⟨p k, 0, none⟩)) else q.tmps[k]?
theorem Sim.eval {Al : News} {dn : Nat → Bool} {p : Nat → Nat} {q a : Act} (h : Sim Al dn p q a) {x : Operand} (hx : (match x with
    | .tmp k => !(Al.any fun y => y.1 == k)
    | _ => true) = true) : a.eval x = q.eval x := by
  cases x with
  | tmp k =>
    show a.tmps.getD k undef = q.tmps.getD k undef
    rw [Array.getD_eq_getD_getElem?, Array.getD_eq_getD_getElem?, h.get k, if_neg]
    intro e
    have hx' : (!(Al.any fun y => y.1 == k)) = true := hx
    rw [e.1] at hx'
    cases hx'
  | _ => rfl
theorem Sim.put {Al : News} {dn : Nat → Bool} {p : Nat → Nat} {q a : Act} (h : Sim Al dn p q a) (d : Option Nat) (v : Value) (hd : (match d with
    | some d => !(Al.any fun y => y.1 == d)
    | none => true) = true) : Sim Al dn p (q.put d v) (a.put d v) := by
  refine ⟨by rw [put_size, put_size, h.size], by rw [put_defers, put_defers, h.defers], fun k => ?_⟩
  cases d with
  | none => exact h.get k
  | some d =>
    have e1 := put_get a d v k
    have e2 := put_get q d v k
    rw [e1, e2, put_size, h.size]
    by_cases e : d = k
    · subst e
      have hd2 : (Al.any fun y => y.1 == d) = false := by simpa using hd
      by_cases hs : d < q.tmps.size
      · simp [hs, hd2]
      · rw [h.get d]
        simp [hs, hd2]
    · simp only [e, false_and, if_false]
      exact h.get k
theorem Sim.new {Al : News} {dn : Nat → Bool} {p : Nat → Nat} {q a : Act} (h : Sim Al dn p q a) (d b : Nat) (hd : (Al.any fun y => y.1 == d) = true) : Sim Al (fun k => if k = d then true else dn k) (fun k => if k = d then b else p k) q (a.put (some d) (.pointer (some ⟨b, 0, none⟩))) := by
  refine ⟨by rw [put_size, h.size], by rw [put_defers, h.defers], fun k => ?_⟩
  rw [put_get, h.size, h.get k]
  by_cases e : k = d
  · subst e
    by_cases hs : k < q.tmps.size
    · simp [hs, hd]
    · simp [hs]
  · have e' : ¬ d = k := fun c => e c.symm
    rw [if_neg (fun c => e' c.1)]
    simp only [if_neg e]
section
variable {P : Program} {Al : News} {l T : List Oper}
theorem ready_stills (l T : List Oper) (listed : Array Bool) : Region.ready .any (l.map still ++ T.map idle).toArray listed = Region.ready .any (l ++ T).toArray listed := by
  unfold Region.ready
  have hs : (l.map still ++ T.map idle).toArray.size = (l ++ T).toArray.size := by simp
  rw [hs]
  apply List.filter_congr
  intro i hi
  have e : ((l.map still ++ T.map idle).toArray[i]?).map (·.after) = ((l ++ T).toArray[i]?).map (·.after) := by
    simp only [List.getElem?_toArray, List.getElem?_append, List.length_map]
    split
    · rw [List.getElem?_map]
      cases l[i]? with
      | none => rfl
      | some o => simp [still_after]
    · rw [List.getElem?_map]
      cases T[i - l.length]? <;> rfl
  have e2 : ∀ x : Option Oper, (x.map fun o => o.after.all fun e => !Region.binds .any e || listed.getD e.on false) = ((x.map (·.after)).map fun s => s.all fun e => !Region.binds .any e || listed.getD e.on false) := fun x => by cases x <;> rfl
  rw [e2, e2, e]
/-- A slot that none of those left writes is as it is at the end. -/
theorem final_slot {C : World → Prop} {af : Act} {ops : Array Oper} {d : Nat} : ∀ (fuel : Nat) (listed : Array Bool) (a : Act), (∀ j o, ops[j]? = some o → listed.getD j true = false → o.dst ≠ some d) → wpAnyQ P .any ops C (fun a' => a' = af) fuel listed a → a.tmps[d]? = af.tmps[d]? ∧ a.tmps.size = af.tmps.size := by
  intro fuel
  induction fuel with
  | zero => intro listed a hn h; rw [h.2]; exact ⟨rfl, rfl⟩
  | succ fuel ih =>
    intro listed a hn h
    by_cases hr : Region.ready .any ops listed = []
    · rw [h.1 hr]; exact ⟨rfl, rfl⟩
    · obtain ⟨i, hi⟩ := List.exists_mem_of_ne_nil _ hr
      have hq := h.2 i hi
      obtain ⟨h0, o, ho, _⟩ := mem_ready.1 hi
      have hne := hn i o ho h0
      have hset : ∀ j u, ops[j]? = some u → (listed.setIfInBounds i true).getD j true = false → u.dst ≠ some d := by
        intro j u hu hj
        by_cases e : i = j
        · subst e
          rw [hu] at ho
          have : u = o := by simpa using ho
          subst this
          exact hne
        · rw [getD_set_ne true e] at hj
          exact hn j u hu hj
      have key : ∀ v, (a.put o.dst v).tmps[d]? = a.tmps[d]? := by
        intro v
        cases hd : o.dst with
        | none => rfl
        | some k =>
          rw [put_get, if_neg]
          intro e
          exact hne (by rw [hd, e.1])
      unfold qOp at hq
      simp only [ho] at hq
      split at hq
      · obtain ⟨v, _, hK⟩ := hq
        obtain ⟨h1, h2⟩ := ih _ _ hset hK
        rw [key] at h1
        rw [put_size] at h2
        exact ⟨h1, h2⟩
      · obtain ⟨h1, h2⟩ := ih _ _ hset hq
        rw [key] at h1
        rw [put_size] at h2
        exact ⟨h1, h2⟩
theorem wp_news_step {Q : Exit → Act → World → Prop} {w : World} {af : Act} (hT : T ≠ []) (hg : (l ++ T).all (fun x => x.guard.isNone) = true) (hlow : lowB (l ++ T) = true) (hc : coverT l.length (l ++ T) = true) (hN : newB Al l = true)
    (hrun : ∀ x ∈ Al, ∀ W : World, (Instr.alloc x.2.1 true (.tuple #[])).run P W = .ok (.pointer (some ⟨W.heap.size, 0, none⟩)) (W.alloc (.cells x.2.2 x.2.1)))
    (hp : ∀ (W : World) (p : Nat → Nat), Fr [] w W → (∀ x ∈ Al, W.heap[p x.1]? = some (.cells x.2.2 x.2.1) ∧ w.heap.size ≤ p x.1) → (∀ x ∈ Al, ∀ y ∈ Al, x.1 ≠ y.1 → p x.1 ≠ p y.1) → tailWp P Q T (putAll p Al af) W)
    (hty : ∀ x ∈ Al, ∀ y ∈ Al, x.1 = y.1 → x = y) :
    ∀ (fuel : Nat) (listed : Array Bool) (q a : Act) (W : World) (dn : Nat → Bool) (p : Nat → Nat), listed.size = (l ++ T).length → (∀ j, l.length ≤ j → j < (l ++ T).length → listed.getD j true = false) → ShutT (l ++ T) listed → Fr [] w W → Sim Al dn p q a →
      (∀ x ∈ Al, dn x.1 = true → W.heap[p x.1]? = some (.cells x.2.2 x.2.1) ∧ w.heap.size ≤ p x.1) → (∀ x ∈ Al, ∀ y ∈ Al, dn x.1 = true → dn y.1 = true → x.1 ≠ y.1 → p x.1 ≠ p y.1) →
      (∀ j o d, l[j]? = some o → isNew o = true → o.dst = some d → listed.getD j false = true → dn d = true) →
      (∀ V, Fr [] w V → wpAnyQ P .any (l.map still ++ T.map idle).toArray (fun w' => ∃ x, w' = ext V x) (fun a' => a' = af) fuel listed q) → wpAny P .any (l ++ T).toArray Q fuel listed a W := by
  have hTl : 0 < T.length := List.length_pos_iff.2 hT
  simp only [newB, Bool.and_eq_true] at hN
  obtain ⟨⟨⟨⟨hN1, hN2⟩, hN3⟩, hN4⟩, hN5⟩ := hN
  have hnever : ∀ listed : Array Bool, listed.size = (l ++ T).length → listed.getD l.length true = false → Region.ready .any (l ++ T).toArray listed ≠ [] := by
    intro listed hs h0 hr
    obtain ⟨T', o, rfl⟩ : ∃ T' o, T = T' ++ [o] := ⟨T.dropLast, T.getLast hT, (List.dropLast_concat_getLast hT).symm⟩
    rw [← List.append_assoc] at hr hlow hs
    rcases all_listed hlow hr l.length (by simp) with h | h
    · rw [h0] at h; cases h
    · simp at hs; omega
  intro fuel
  induction fuel with
  | zero =>
    intro listed q a W dn p hs h0 hS hF hSim hb hdis hdn h
    exact absurd ((ready_stills l T listed).symm.trans (h W hF).1) (hnever listed hs (h0 _ (Nat.le_refl _) (by simp; omega)))
  | succ fuel ih =>
    intro listed q a W dn p hs h0 hS hF hSim hb hdis hdn h
    refine ⟨fun hr => absurd hr (hnever listed hs (h0 _ (Nat.le_refl _) (by simp; omega))), fun i hi => ?_⟩
    by_cases hil : i < l.length
    · have hrd : i ∈ Region.ready .any (l.map still ++ T.map idle).toArray listed := by rw [ready_stills]; exact hi
      have e1 : (l.map still ++ T.map idle).toArray[i]? = some (still l[i]) := by
        simp only [List.getElem?_toArray]
        rw [List.getElem?_append_left (by simpa using hil), List.getElem?_map, List.getElem?_eq_getElem hil]; rfl
      have e2 : (l ++ T).toArray[i]? = some l[i] := by
        simp only [List.getElem?_toArray]
        rw [List.getElem?_append_left hil]; exact List.getElem?_eq_getElem hil
      have hmem : l[i] ∈ l := List.getElem_mem hil
      have hgi : l[i].guard = none := by
        have := List.all_eq_true.1 hg l[i] (by simp)
        simpa using this
      have hgs : (still l[i]).guard = none := by rw [still_guard, hgi]
      have hwi : ∀ y, Region.wanted l[i] y = true := fun y => by unfold Region.wanted; simp [hgi]
      have hws : ∀ y, Region.wanted (still l[i]) y = true := fun y => by unfold Region.wanted; simp [hgs]
      have hS2 : ShutT (l ++ T) (listed.setIfInBounds i true) := by
        obtain ⟨_, o2, ho2, hdep⟩ := mem_ready.1 hi
        simp only [List.getElem?_toArray] at ho2
        intro k x hx hk e he hbd
        by_cases hik : i = k
        · subst hik
          rw [ho2] at hx
          have hx2 : o2 = x := by simpa using hx
          subst hx2
          exact getD_set_true (hdep e he hbd)
        · rw [getD_set_ne false hik] at hk
          exact getD_set_true (hS k x hx hk e he hbd)
      have h02 : ∀ j, l.length ≤ j → j < (l ++ T).length → (listed.setIfInBounds i true).getD j true = false := fun j h1 h2 => by
        rw [getD_set_ne true (by omega)]; exact h0 j h1 h2
      have hs2 : (listed.setIfInBounds i true).size = (l ++ T).length := by simpa using hs
      unfold wpOp
      simp only [e2, hwi, if_true]
      by_cases hnew : isNew l[i] = true
      · have h3 : ∀ V, Fr [] w V → wpAnyQ P .any (l.map still ++ T.map idle).toArray (fun w' => ∃ x, w' = ext V x) (fun a' => a' = af) fuel (listed.setIfInBounds i true) q := fun V hV => by
          have hq := (h V hV).2 i hrd
          unfold qOp at hq
          simp only [e1, hws, if_true] at hq
          obtain ⟨v, _, hK⟩ := hq
          have e : (q.put (still l[i]).dst v) = q := by
            have : still l[i] = idle l[i] := by unfold still; rw [if_pos hnew]
            rw [this]; rfl
          rw [e] at hK
          exact hK
        have h4 := List.all_eq_true.1 hN1 l[i] hmem
        unfold isNew at hnew
        cases hop : l[i].op with
        | alloc t =>
          rw [hop] at h4
          obtain ⟨x, hx, hx2⟩ := List.any_eq_true.1 h4
          simp only [Bool.and_eq_true, beq_iff_eq] at hx2
          obtain ⟨hdst, rfl⟩ := hx2
          refine .inl ?_
          have hr : (execOp a.eval l[i]).run P W = .ok (.value (.pointer (some ⟨W.heap.size, 0, none⟩))) (W.alloc (.cells x.2.2 x.2.1)) := by
            unfold execOp
            rw [hop]
            simp only [Sem.run_bind, hrun x hx W, Result.andThen_ok, Sem.run_pure]
          unfold Oper.wp
          rw [hr, Oper.upon_value, hdst]
          have hany : (Al.any fun y => y.1 == x.1) = true := List.any_eq_true.2 ⟨x, hx, by simp⟩
          have hlt : ∀ y ∈ Al, dn y.1 = true → p y.1 < W.heap.size := fun y hy hdy => lt_of_heap (hb y hy hdy).1
          refine ih _ q _ _ _ _ hs2 h02 hS2 (hF.alloc _) (hSim.new x.1 W.heap.size hany) ?_ ?_ ?_ h3
          · intro y hy hdy
            by_cases e : y.1 = x.1
            · have := hty y hy x hx e
              subst this
              simp only [if_true]
              exact ⟨(MapKept.heap_alloc W _).1, hF.size⟩
            · simp only [e, if_false] at hdy ⊢
              obtain ⟨k1, k2⟩ := hb y hy hdy
              exact ⟨((Fr.refl [] W).alloc _).heap k1 (by simp), k2⟩
          · intro y hy z hz hdy hdz hne
            by_cases e : y.1 = x.1
            · by_cases e2 : z.1 = x.1
              · exact absurd (e.trans e2.symm) hne
              · simp only [e, e2, if_true, if_false] at hdz ⊢
                have := hlt z hz hdz
                omega
            · by_cases e2 : z.1 = x.1
              · simp only [e, e2, if_true, if_false] at hdy ⊢
                have := hlt y hy hdy
                omega
              · simp only [e, e2, if_false] at hdy hdz ⊢
                exact hdis y hy z hz hdy hdz hne
          · intro j o d hj ho hd hl
            by_cases e : d = x.1
            · simp [e]
            · simp only [e, if_false]
              by_cases e3 : i = j
              · subst e3
                rw [List.getElem?_eq_getElem hil] at hj
                have : l[i] = o := by simpa using hj
                subst this
                rw [hdst] at hd
                have : x.1 = d := by simpa using hd
                exact absurd this.symm e
              · rw [getD_set_ne false e3] at hl
                exact hdn j o d hj ho hd hl
        | _ => rw [hop] at hnew; cases hnew
      · have hst : still l[i] = l[i] := by unfold still; rw [if_neg hnew]
        rw [hst] at e1 hws
        have hsel : ∀ cs b, l[i].op ≠ .select cs b := fun cs b e => by
          have h4 := List.all_eq_true.1 hN1 l[i] hmem
          rw [e] at h4
          cases h4
        have hex : execOp a.eval l[i] = execOp q.eval l[i] := by
          refine execOp_congr l[i] hsel fun x hx => hSim.eval ?_
          have h4 := List.all_eq_true.1 hN2 l[i] hmem
          exact (Array.all_eq_true_iff_forall_mem.1 h4) x hx
        have hdo : (match l[i].dst with
            | some d => !(Al.any fun y => y.1 == d)
            | none => true) = true := by
          have h4 := List.all_eq_true.1 hN5 l[i] hmem
          rcases Bool.or_eq_true_iff.1 h4 with h5 | h5
          · exact absurd h5 hnew
          · exact h5
        have hout : ∀ d, l[i].dst = some d → ∀ j o, (l.map still ++ T.map idle).toArray[j]? = some o → (listed.setIfInBounds i true).getD j true = false → o.dst ≠ some d := by
          intro d hd j o hj hl hod
          simp only [List.getElem?_toArray] at hj
          have hij : i ≠ j := by
            intro e
            subst e
            have : i < listed.size := by rw [hs]; simp; omega
            simp [this] at hl
          rcases Nat.lt_or_ge j l.length with hjl | hjl
          · rw [List.getElem?_append_left (by simpa using hjl), List.getElem?_map, List.getElem?_eq_getElem hjl] at hj
            have hj2 : still l[j] = o := by simpa using hj
            have hjd : l[j].dst = some d := by
              by_cases hn : isNew l[j] = true
              · have : still l[j] = idle l[j] := by unfold still; rw [if_pos hn]
                rw [this] at hj2
                subst hj2
                cases hod
              · have : still l[j] = l[j] := by unfold still; rw [if_neg hn]
                rw [this] at hj2
                rw [hj2]; exact hod
            have h4 := List.all_eq_true.1 (List.all_eq_true.1 hN4 i (by simpa using hil)) j (by simpa using hjl)
            rw [List.getElem?_eq_getElem hil, List.getElem?_eq_getElem hjl] at h4
            simp only [hd, hjd] at h4
            simp [hij] at h4
          · rw [List.getElem?_append_right (by simpa using hjl), List.getElem?_map] at hj
            cases hTj : T[j - (l.map still).length]? with
            | none => rw [hTj] at hj; cases hj
            | some u =>
              rw [hTj] at hj
              have : idle u = o := by simpa using hj
              subst this
              cases hod
        have hqW := (h W hF).2 i hrd
        unfold qOp at hqW
        simp only [e1, hws, if_true] at hqW
        obtain ⟨v, hv, hK⟩ := hqW
        have hall : ∀ V, Fr [] w V → wpAnyQ P .any (l.map still ++ T.map idle).toArray (fun w' => ∃ x, w' = ext V x) (fun a' => a' = af) fuel (listed.setIfInBounds i true) (q.put l[i].dst v) := fun V hV => by
          have hq := (h V hV).2 i hrd
          unfold qOp at hq
          simp only [e1, hws, if_true] at hq
          obtain ⟨v2, _, hK2⟩ := hq
          have e : q.put l[i].dst v2 = q.put l[i].dst v := by
            cases hd : l[i].dst with
            | none => rfl
            | some d =>
              rw [hd] at hK hK2
              obtain ⟨k1, k2⟩ := final_slot fuel _ _ (hout d hd) hK
              obtain ⟨k3, _⟩ := final_slot fuel _ _ (hout d hd) hK2
              rw [put_get] at k1 k3
              by_cases hsz : d < q.tmps.size
              · rw [if_pos ⟨rfl, hsz⟩] at k1 k3
                have : v2 = v := by
                  have := k3.trans k1.symm
                  simpa using this
                rw [this]
              · refine act_eq (by rw [put_size, put_size]) (by rw [put_defers, put_defers]) fun k => ?_
                rw [put_get, put_get]
                by_cases e : d = k ∧ k < q.tmps.size
                · obtain ⟨e1, e2⟩ := e
                  subst e1
                  exact absurd e2 hsz
                · rw [if_neg e, if_neg e]
          rw [e] at hK2
          exact hK2
        refine .inl ?_
        have hquiet : l[i].quiet P a (fun w' => ∃ x, w' = ext W x) (fun a' => a' = a.put l[i].dst v) := by
          refine ⟨v, fun w1 hw1 => ?_, rfl⟩
          have := hv w1 hw1
          unfold Oper.quietAt at this ⊢
          rw [hex]; exact this
        refine Oper.wp_of_quiet (C := fun w' => ∃ x, w' = ext W x) ((Fr.refl [] W).toExt) (fun a' w' hC' ha' => ?_) hquiet
        subst ha'
        obtain ⟨x, rfl⟩ := hC'
        have hFx := hF.trans0 (ext_fr W x)
        refine ih _ (q.put l[i].dst v) _ _ dn p hs2 h02 hS2 hFx (hSim.put _ _ hdo) (fun y hy hdy => ?_) hdis ?_ hall
        · obtain ⟨k1, k2⟩ := hb y hy hdy
          exact ⟨(ext_fr W x).heap k1 (by simp), k2⟩
        · intro j o d hj ho hd hl
          by_cases e3 : i = j
          · subst e3
            rw [List.getElem?_eq_getElem hil] at hj
            have : l[i] = o := by simpa using hj
            subst this
            exact absurd ho hnew
          · rw [getD_set_ne false e3] at hl
            exact hdn j o d hj ho hd hl
    · obtain ⟨_, o2, ho2, hdep⟩ := mem_ready.1 hi
      simp only [List.getElem?_toArray] at ho2
      have hallL := wait_of hc (by omega) ho2 hS hdep
      have hU : Upto (l ++ T).length l.length listed := ⟨hs, fun j hj => hallL j (by omega), h0⟩
      have hgS : (l.map still ++ T).all (fun x => x.guard.isNone) = true := by
        rw [List.all_append, Bool.and_eq_true] at hg ⊢
        refine ⟨?_, hg.2⟩
        rw [List.all_map]
        refine List.all_eq_true.2 fun x hx => ?_
        have := List.all_eq_true.1 hg.1 x hx
        simp only [Function.comp, still_guard]
        exact this
      have hlowS : lowB (l.map still ++ T) = true := by
        refine List.all_eq_true.2 fun k hk => ?_
        have h5 := List.all_eq_true.1 hlow k (by simpa using hk)
        rcases Nat.lt_or_ge k l.length with hkl | hkl
        · rw [List.getElem?_append_left (by simpa using hkl), List.getElem?_map, List.getElem?_eq_getElem hkl]
          rw [List.getElem?_append_left hkl, List.getElem?_eq_getElem hkl] at h5
          simpa [still_after] using h5
        · rw [List.getElem?_append_right (by simpa using hkl), List.length_map]
          rw [List.getElem?_append_right hkl] at h5
          exact h5
      have hUS : Upto (l.map still ++ T).length (l.map still).length listed := by simpa using hU
      obtain ⟨hpost, hfu⟩ := idle_run hgS hlowS T.length (fuel + 1) (l.map still).length listed q (Nat.le_refl _) (by simp) hUS (h W hF)
      have hdone : ∀ x ∈ Al, dn x.1 = true := fun x hx => by
        obtain ⟨o, ho, h6⟩ := List.any_eq_true.1 (List.all_eq_true.1 hN3 x hx)
        simp only [Bool.and_eq_true, beq_iff_eq] at h6
        obtain ⟨j, hj, rfl⟩ := List.mem_iff_getElem.1 ho
        exact hdn j _ x.1 (List.getElem?_eq_getElem hj) h6.1 h6.2 (hallL j (by omega))
      have hact : a = putAll p Al af := by
        subst hpost
        refine act_eq (by rw [putAll_size, hSim.size]) (by rw [putAll_defers, hSim.defers]) fun k => ?_
        rw [putAll_get, hSim.get k]
        by_cases e : (Al.any fun x => x.1 == k) = true
        · obtain ⟨x, hx, h7⟩ := List.any_eq_true.1 e
          have h8 : x.1 = k := by simpa using h7
          have h9 := hdone x hx
          rw [h8] at h9
          simp [e, h9]
        · simp [e]
      have htail := hp W p hF (fun x hx => hb x hx (hdone x hx)) (fun x hx y hy hne => hdis x hx y hy (hdone x hx) (hdone y hy) hne)
      rw [← hact] at htail
      have h4 := tail_run (P := P) (Q := Q) hg hlow hc T.length (fuel + 1) l.length listed a W (Nat.le_refl _) (by simp) hfu hU (by simpa using htail)
      exact h4.2 i hi
end
/-- A region that makes new variables, whose last operations each wait for all ahead of them. -/
theorem wp_region_news {P : Program} {id : Nat} {Q : Exit → Act → World → Prop} {a : Act} {w : World} (Al : News) (l T : List Oper) {af : Act} (hT : T ≠ []) (hm : P.follows .mixedOrders = true) (hB : Region.lexB .any (l.map still ++ T.map idle).toArray = true)
    (hg : (l ++ T).all (fun x => x.guard.isNone) = true) (hlow : lowB (l ++ T) = true) (hc : coverT l.length (l ++ T) = true) (hN : newB Al l = true) (hty : ∀ x ∈ Al, ∀ y ∈ Al, x.1 = y.1 → x = y)
    (hrun : ∀ x ∈ Al, ∀ W : World, (Instr.alloc x.2.1 true (.tuple #[])).run P W = .ok (.pointer (some ⟨W.heap.size, 0, none⟩)) (W.alloc (.cells x.2.2 x.2.1)))
    (h : ∀ V, Fr [] w V → wpQuiet P (l.map still ++ T.map idle).toArray (fun w' => ∃ x, w' = ext V x) (fun a' => a' = af) (l.map still) a)
    (hp : ∀ (W : World) (p : Nat → Nat), Fr [] w W → (∀ x ∈ Al, W.heap[p x.1]? = some (.cells x.2.2 x.2.1) ∧ w.heap.size ≤ p x.1) → (∀ x ∈ Al, ∀ y ∈ Al, x.1 ≠ y.1 → p x.1 ≠ p y.1) → tailWp P Q T (putAll p Al af) W) : (Code.region id (l ++ T).toArray true).wp P Q a w := by
  simp only [Region.lexB, Bool.and_eq_true] at hB
  have hgT : T.all (fun x => x.guard.isNone) = true := by
    rw [List.all_append, Bool.and_eq_true] at hg
    exact hg.2
  refine wp_region_any hm ?_
  have hd : Fr [] w { w with drawn := w.drawn + 1 } := (Fr.refl [] w).drew
  have h2 : ∀ V, Fr [] w V → _ := fun V hV => wpAnyQ_lex (C := fun w' => ∃ x, w' = ext V x) (md := .any) hB.1 (l.map still ++ T.map idle) 0 (Array.replicate (l.map still ++ T.map idle).toArray.size false) a (by simp) (by simpa using hB.2) (wpQuiet_idles T hgT (l.map still) a (h V hV))
  have h3 := wp_news_step (Q := Q) (Al := Al) hT hg hlow hc hN hrun hp hty (l.map still ++ T.map idle).length (Array.replicate (l.map still ++ T.map idle).toArray.size false) a a { w with drawn := w.drawn + 1 } (fun _ => false) (fun _ => 0) (by simp) (fun j _ hj => by simp at hj; simp [Array.getD_eq_getD_getElem?, Array.getElem?_replicate, hj]) (fun k x _ hk => by exfalso; simp [Array.getD_eq_getD_getElem?, Array.getElem?_replicate] at hk; split at hk <;> simp at hk) hd ⟨rfl, rfl, fun k => by simp⟩ (fun x _ hx => by cases hx) (fun x _ y _ hx => by cases hx) (fun j o d _ _ _ hk => by exfalso; simp [Array.getD_eq_getD_getElem?, Array.getElem?_replicate] at hk; split at hk <;> simp at hk) h2
  simpa using h3
end Go.Proofs.YtpdagpjjlnncbaaDoor
