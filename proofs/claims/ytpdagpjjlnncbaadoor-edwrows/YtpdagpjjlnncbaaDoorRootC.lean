/-
  The document's Root; NumInverts' walk. No statement is proved here.
-/
import Derived.Test.YtpdagpjjlnncbaaDoorRootB
import Derived.Test.YtpdagpjjlnncbaaDoorLast
namespace Go.Proofs.YtpdagpjjlnncbaaDoor
open Go.RowKit Go.Lib Go.BigFrame
set_option linter.unusedVariables false
set_option linter.unusedSimpArgs false
set_option maxRecDepth 1000000
set_option maxHeartbeats 4000000

theorem rq_hit {a : Nat} {odd : Bool} (h : Nt.rt a * Nt.rt a % Nt.P = a) : rq a odd = rs a odd := by unfold rq; rw [decide_eq_true h, cond_true]
theorem rq_miss {a : Nat} {odd : Bool} (h : Nt.rt a * Nt.rt a % Nt.P ≠ a) : rq a odd = 0 := by unfold rq; rw [decide_eq_false h, cond_false]
theorem ry_miss {a : Nat} {odd : Bool} (h : Nt.rt a * Nt.rt a % Nt.P ≠ a) : ry a odd = false := by unfold ry; rw [decide_eq_false h, Bool.false_and]
theorem ry_hit {a : Nat} {odd : Bool} (h : Nt.rt a * Nt.rt a % Nt.P = a) {x : Nat} (hx : rs a odd = x) : ry a odd = (decide (x % 2 = 1) == odd) := by unfold ry; rw [decide_eq_true h, Bool.true_and, hx]
theorem rs_turn {a : Nat} {odd : Bool} (h : (decide (Nt.rt a % 2 = 1) != odd) = true) : rs a odd = (0 + Nt.P - Nt.rt a) % Nt.P := by unfold rs; rw [h, cond_true]
theorem rs_stay {a : Nat} {odd : Bool} (h : (decide (Nt.rt a % 2 = 1) != odd) = false) : rs a odd = Nt.rt a := by unfold rs; rw [h, cond_false]
theorem rroot_any (a : Nat) (ha : a < Nt.P) (odd : Bool) (w : World) : Calls Tryd.prog 41 #[nd a, .bool odd] w fun e w' => e = .returned (.tuple #[nd (rq a odd), .bool (ry a odd)]) ∧ Fr [] w w' := by
  have K := fun W => rpower_any a ha tRt (by decide) W
  rw [px_rt] at K
  have K1 : ∀ W : World, Calls Tryd.prog 73 #[nd a, .int .i64 250, .string ⟨#[49, 48]⟩] W fun e w' => e = .returned (nd (Nt.c1 a)) ∧ Fr [] W w' := K
  have cP := c1_ltP a
  have rP := rt_ltP a
  have nP : (0 + Nt.P - Nt.rt a) % Nt.P < Nt.P := Nat.mod_lt _ P_pos
  by_cases h1 : Nt.c1 a * Nt.c1 a % Nt.P = a
  · have hc : Nt.rt a = Nt.c1 a := by unfold Nt.rt; rw [if_pos h1]
    have hr : Nt.rt a * Nt.rt a % Nt.P = a := by rw [hc]; exact h1
    rw [rq_hit hr]
    rcases Nat.mod_two_eq_zero_or_one (Nt.rt a) with hp | hp
    · cases odd
      · have e := rs_stay (a := a) (odd := false) (by rw [decide_eq_false (by omega)]; rfl)
        rw [ry_hit hr e, e, decide_eq_false (by omega)]
        exact root_A_0_f a _ _ 0 ha cP rP P_pos K1 hc hr hp w
      · have e := rs_turn (a := a) (odd := true) (by rw [decide_eq_false (by omega)]; rfl)
        rw [ry_hit hr e, e]
        rcases Nat.mod_two_eq_zero_or_one ((0 + Nt.P - Nt.rt a) % Nt.P) with hm | hm
        · rw [decide_eq_false (by omega)]
          exact root_A_0_t_0 a _ _ _ ha cP rP nP K1 hc hr hp rfl hm w
        · rw [decide_eq_true hm]
          exact root_A_0_t_1 a _ _ _ ha cP rP nP K1 hc hr hp rfl hm w
    · cases odd
      · have e := rs_turn (a := a) (odd := false) (by rw [decide_eq_true hp]; rfl)
        rw [ry_hit hr e, e]
        rcases Nat.mod_two_eq_zero_or_one ((0 + Nt.P - Nt.rt a) % Nt.P) with hm | hm
        · rw [decide_eq_false (by omega)]
          exact root_A_1_f_0 a _ _ _ ha cP rP nP K1 hc hr hp rfl hm w
        · rw [decide_eq_true hm]
          exact root_A_1_f_1 a _ _ _ ha cP rP nP K1 hc hr hp rfl hm w
      · have e := rs_stay (a := a) (odd := true) (by rw [decide_eq_true hp]; rfl)
        rw [ry_hit hr e, e, decide_eq_true hp]
        exact root_A_1_t a _ _ 0 ha cP rP P_pos K1 hc hr hp w
  · have hI : Nt.c1 a * Nt.I % Nt.P = Nt.rt a := by unfold Nt.rt; rw [if_neg h1]
    by_cases hr : Nt.rt a * Nt.rt a % Nt.P = a
    · rw [rq_hit hr]
      rcases Nat.mod_two_eq_zero_or_one (Nt.rt a) with hp | hp
      · cases odd
        · have e := rs_stay (a := a) (odd := false) (by rw [decide_eq_false (by omega)]; rfl)
          rw [ry_hit hr e, e, decide_eq_false (by omega)]
          exact root_B_0_f a _ _ 0 ha cP rP P_pos K1 h1 hI hr hp w
        · have e := rs_turn (a := a) (odd := true) (by rw [decide_eq_false (by omega)]; rfl)
          rw [ry_hit hr e, e]
          rcases Nat.mod_two_eq_zero_or_one ((0 + Nt.P - Nt.rt a) % Nt.P) with hm | hm
          · rw [decide_eq_false (by omega)]
            exact root_B_0_t_0 a _ _ _ ha cP rP nP K1 h1 hI hr hp rfl hm w
          · rw [decide_eq_true hm]
            exact root_B_0_t_1 a _ _ _ ha cP rP nP K1 h1 hI hr hp rfl hm w
      · cases odd
        · have e := rs_turn (a := a) (odd := false) (by rw [decide_eq_true hp]; rfl)
          rw [ry_hit hr e, e]
          rcases Nat.mod_two_eq_zero_or_one ((0 + Nt.P - Nt.rt a) % Nt.P) with hm | hm
          · rw [decide_eq_false (by omega)]
            exact root_B_1_f_0 a _ _ _ ha cP rP nP K1 h1 hI hr hp rfl hm w
          · rw [decide_eq_true hm]
            exact root_B_1_f_1 a _ _ _ ha cP rP nP K1 h1 hI hr hp rfl hm w
        · have e := rs_stay (a := a) (odd := true) (by rw [decide_eq_true hp]; rfl)
          rw [ry_hit hr e, e, decide_eq_true hp]
          exact root_B_1_t a _ _ 0 ha cP rP P_pos K1 h1 hI hr hp w
    · rw [rq_miss hr, ry_miss hr]
      exact root_C a _ _ 0 ha cP rP P_pos K1 h1 hI hr odd w

end Go.Proofs.YtpdagpjjlnncbaaDoor
namespace Go.Proofs.YtpdagpjjlnncbaaDoor
open Go.RowKit Go.BigFrame
set_option linter.unusedVariables false
set_option linter.unusedSimpArgs false

/-- What has been done, and i. -/
def upd (f : Nat → Bool) (i : Nat) : Nat → Bool := fun k => if k = i then true else f k
theorem wpAny_inv {P : Program} {Q : Exit → Act → World → Prop} {ops : Array Oper} (I : (Nat → Bool) → Act → World → Prop)
    (hs : ∀ (f : Nat → Bool) (a : Act) (w : World) (i : Nat) (o : Oper), I f a w → f i = false → ops[i]? = some o → (∀ e ∈ o.after, Region.binds .any e = true → f e.on = true) → o.guard = none ∧ o.wp P a w (fun a' w' => I (upd f i) a' w') Q)
    (he : ∀ (f : Nat → Bool) (a : Act) (w : World), I f a w → (∀ i, i < ops.size → f i = true) → Q .normal a w) (hall : ∀ listed : Array Bool, listed.size = ops.size → Region.ready .any ops listed = [] → ∀ i, i < ops.size → listed.getD i false = true) :
    ∀ (fuel : Nat) (listed : Array Bool) (us : List Nat) (a : Act) (w : World), listed.size = ops.size → us.length ≤ fuel → (∀ i, listed.getD i true = false → i ∈ us) → I (fun k => listed.getD k false) a w → wpAny P .any ops Q fuel listed a w := by
  intro fuel
  induction fuel with
  | zero =>
    intro listed us a w hz hu hi hI
    have hr : Region.ready .any ops listed = [] := by
      apply List.eq_nil_iff_forall_not_mem.2
      intro k hk
      have := hi k (mem_ready.1 hk).1
      have hu0 : us = [] := List.length_eq_zero_iff.1 (by omega)
      rw [hu0] at this
      cases this
    exact ⟨hr, he _ a w hI (hall listed hz hr)⟩
  | succ fuel ih =>
    intro listed us a w hz hu hi hI
    refine ⟨fun hr => he _ a w hI (hall listed hz hr), fun i hr => ?_⟩
    obtain ⟨h0, o, ho, hd⟩ := mem_ready.1 hr
    have hlt : i < ops.size := (Array.getElem?_eq_some_iff.1 ho).1
    have hlt2 : i < listed.size := by omega
    have hf : listed.getD i false = false := by
      simp [hlt2] at h0 ⊢
      exact h0
    obtain ⟨hg, hw⟩ := hs _ a w i o hI hf ho hd
    unfold wpOp
    have hwant : Region.wanted o (yielded ops a.tmps) = true := by unfold Region.wanted; simp [hg]
    simp only [ho, hwant, if_true]
    refine .inl (Oper.wp_mono (fun a' w' hI' => ?_) hw)
    refine ih _ (us.erase i) a' w' (by simpa using hz) ?_ ?_ ?_
    · have := List.length_erase_of_mem (hi i h0)
      omega
    · intro j hj
      have hji : j ≠ i := by
        intro e
        subst e
        simp [hlt2] at hj
      rw [getD_set_ne true (Ne.symm hji)] at hj
      exact (List.mem_erase_of_ne hji).2 (hi j hj)
    · have e : (fun k => (listed.setIfInBounds i true).getD k false) = (fun k => if k = i then true else listed.getD k false) := by
        funext k
        by_cases hk : k = i
        · subst hk
          simp [hlt2]
        · rw [if_neg hk, getD_set_ne false (Ne.symm hk)]
      rw [e]; exact hI'
theorem wp_region_inv {P : Program} {id : Nat} {Q : Exit → Act → World → Prop} {a : Act} {w : World} (l : List Oper) (o : Oper) (hm : P.follows .mixedOrders = true) (hlow : lowB (l ++ [o]) = true) (I : (Nat → Bool) → Act → World → Prop)
    (h0 : I (fun _ => false) a { w with drawn := w.drawn + 1 })
    (hs : ∀ (f : Nat → Bool) (a : Act) (w : World) (i : Nat) (x : Oper), I f a w → f i = false → (l ++ [o])[i]? = some x → (∀ e ∈ x.after, Region.binds .any e = true → f e.on = true) → x.guard = none ∧ x.wp P a w (fun a' w' => I (upd f i) a' w') Q)
    (he : ∀ (f : Nat → Bool) (a : Act) (w : World), I f a w → (∀ i, i < l.length + 1 → f i = true) → Q .normal a w) : (Code.region id (l ++ [o]).toArray true).wp P Q a w := by
  refine wp_region_any hm ?_
  refine wpAny_inv I (fun f a w i x hI hf hx hd => hs f a w i x hI hf (by simpa using hx) hd) (fun f a w hI hf => he f a w hI (fun i hi => hf i (by simpa using hi))) ?_ _ _ (List.range (l ++ [o]).toArray.size) a _ (by simp) (by simp) ?_ ?_
  · intro listed hz hr i hi
    have hi2 : i < (l ++ [o]).length := by simpa using hi
    rcases all_listed hlow hr i hi2 with h | h
    · have : i < listed.size := by omega
      simp [this] at h ⊢
      exact h
    · omega
  · intro i hi
    rcases Nat.lt_or_ge i (l ++ [o]).toArray.size with h | h
    · simpa using h
    · have : ¬ i < (Array.replicate (l ++ [o]).toArray.size false).size := by simp at h ⊢; omega
      rw [Array.getD_eq_getD_getElem?, Array.getElem?_eq_none (Nat.le_of_not_lt this)] at hi
      cases hi
  · have e : (fun k => (Array.replicate (l ++ [o]).toArray.size false).getD k false) = fun _ => false := by
      funext k
      simp [Array.getD_eq_getD_getElem?, Array.getElem?_replicate]
      split <;> simp
    rw [e]; exact h0
end Go.Proofs.YtpdagpjjlnncbaaDoor
