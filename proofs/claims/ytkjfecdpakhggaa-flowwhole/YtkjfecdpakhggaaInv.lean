/-
  A region that draws its order, by an invariant over what has been listed so far: whatever comes up next keeps it. No statement is proved here.
-/
import Derived.Test.YtkjfecdpakhggaaLast
namespace Go.Proofs.Ytkjfecdpakhggaa
open Go.RowKit Go.BigFrame
set_option linter.unusedVariables false
set_option linter.unusedSimpArgs false

/-- What has been done, and i. -/
def upd (f : Nat → Bool) (i : Nat) : Nat → Bool := fun k => if k = i then true else f k
theorem wpAny_inv {P : Program} {Q : Exit → Act → World → Prop} {ops : Array Oper} (I : (Nat → Bool) → Act → World → Prop)
    (hs : ∀ (f : Nat → Bool) (a : Act) (w : World) (i : Nat) (o : Oper), I f a w → f i = false → ops[i]? = some o → (∀ e ∈ o.after, Region.binds .any e = true → f e.on = true) → (Region.wanted o (yielded ops a.tmps) = true ∧ o.wp P a w (fun a' w' => I (upd f i) a' w') Q) ∨ (Region.wanted o (yielded ops a.tmps) = false ∧ I (upd f i) (a.put o.dst undef) w))
    (he : ∀ (f : Nat → Bool) (a : Act) (w : World), I f a w → (∀ i, i < ops.size → f i = true) → Q .normal a w) (hall : ∀ listed : Array Bool, listed.size = ops.size → Region.ready .any ops listed = [] → ∀ i, i < ops.size → listed.getD i false = true) :
    ∀ (fuel : Nat) (listed : Array Bool) (us : List Nat) (a : Act) (w : World), listed.size = ops.size → us.length ≤ fuel → (∀ i, listed.getD i true = false → i ∈ us) → I (fun k => listed.getD k false) a w → wpAny P .any ops Q fuel listed a w := by
  intro fuel
  induction fuel with
  | zero =>
    intro listed us a w hz hu hi hI
    have hr : Region.ready .any ops listed = [] := by
      apply List.eq_nil_iff_forall_not_mem.2
      intro k hk
      have := hi k (mem_ready.1 hk).1
      have hu0 : us = [] := List.length_eq_zero_iff.1 (by omega)
      rw [hu0] at this
      cases this
    exact ⟨hr, he _ a w hI (hall listed hz hr)⟩
  | succ fuel ih =>
    intro listed us a w hz hu hi hI
    refine ⟨fun hr => he _ a w hI (hall listed hz hr), fun i hr => ?_⟩
    obtain ⟨h0, o, ho, hd⟩ := mem_ready.1 hr
    have hlt : i < ops.size := (Array.getElem?_eq_some_iff.1 ho).1
    have hlt2 : i < listed.size := by omega
    have hf : listed.getD i false = false := by
      simp [hlt2] at h0 ⊢
      exact h0
    have go : ∀ a' w', I (upd (fun k => listed.getD k false) i) a' w' → wpAny P .any ops Q fuel (listed.setIfInBounds i true) a' w' := fun a' w' hI' => by
      refine ih _ (us.erase i) a' w' (by simpa using hz) ?_ ?_ ?_
      · have := List.length_erase_of_mem (hi i h0)
        omega
      · intro j hj
        have hji : j ≠ i := by
          intro e
          subst e
          simp [hlt2] at hj
        rw [getD_set_ne true (Ne.symm hji)] at hj
        exact (List.mem_erase_of_ne hji).2 (hi j hj)
      · have e : (fun k => (listed.setIfInBounds i true).getD k false) = (fun k => if k = i then true else listed.getD k false) := by
          funext k
          by_cases hk : k = i
          · subst hk
            simp [hlt2]
          · rw [if_neg hk, getD_set_ne false (Ne.symm hk)]
        rw [e]; exact hI'
    unfold wpOp
    rcases hs _ a w i o hI hf ho hd with ⟨hwant, hw⟩ | ⟨hwant, hw⟩
    · simp only [ho, hwant, if_true]
      exact .inl (Oper.wp_mono (fun a' w' hI' => go a' w' hI') hw)
    · simp only [ho, hwant, Bool.false_eq_true, if_false]
      exact go _ _ hw
theorem wp_region_inv {P : Program} {id : Nat} {Q : Exit → Act → World → Prop} {a : Act} {w : World} (l : List Oper) (o : Oper) (hm : P.follows .mixedOrders = true) (hlow : lowB (l ++ [o]) = true) (I : (Nat → Bool) → Act → World → Prop)
    (h0 : I (fun _ => false) a { w with drawn := w.drawn + 1 })
    (hs : ∀ (f : Nat → Bool) (a : Act) (w : World) (i : Nat) (x : Oper), I f a w → f i = false → (l ++ [o])[i]? = some x → (∀ e ∈ x.after, Region.binds .any e = true → f e.on = true) → (Region.wanted x (yielded (l ++ [o]).toArray a.tmps) = true ∧ x.wp P a w (fun a' w' => I (upd f i) a' w') Q) ∨ (Region.wanted x (yielded (l ++ [o]).toArray a.tmps) = false ∧ I (upd f i) (a.put x.dst undef) w))
    (he : ∀ (f : Nat → Bool) (a : Act) (w : World), I f a w → (∀ i, i < l.length + 1 → f i = true) → Q .normal a w) : (Code.region id (l ++ [o]).toArray true).wp P Q a w := by
  refine wp_region_any hm ?_
  refine wpAny_inv I (fun f a w i x hI hf hx hd => hs f a w i x hI hf (by simpa using hx) hd) (fun f a w hI hf => he f a w hI (fun i hi => hf i (by simpa using hi))) ?_ _ _ (List.range (l ++ [o]).toArray.size) a _ (by simp) (by simp) ?_ ?_
  · intro listed hz hr i hi
    have hi2 : i < (l ++ [o]).length := by simpa using hi
    rcases all_listed hlow hr i hi2 with h | h
    · have : i < listed.size := by omega
      simp [this] at h ⊢
      exact h
    · omega
  · intro i hi
    rcases Nat.lt_or_ge i (l ++ [o]).toArray.size with h | h
    · simpa using h
    · have : ¬ i < (Array.replicate (l ++ [o]).toArray.size false).size := by simp at h ⊢; omega
      rw [Array.getD_eq_getD_getElem?, Array.getElem?_eq_none (Nat.le_of_not_lt this)] at hi
      cases hi
  · have e : (fun k => (Array.replicate (l ++ [o]).toArray.size false).getD k false) = fun _ => false := by
      funext k
      simp [Array.getD_eq_getD_getElem?, Array.getElem?_replicate]
      split <;> simp
    rw [e]; exact h0
end Go.Proofs.Ytkjfecdpakhggaa
