/-
  A reckoner of conditions: regions that draw their order: operations that read, and make new blocks, in any order, and then those that wait for all ahead of them. No statement is proved here.
-/
import Derived.Test.YtkjfecdpakhggaaVcO
namespace Go.Proofs.Ytkjfecdpakhggaa
open Go.RowKit
set_option linter.unusedVariables false
set_option linter.unusedSimpArgs false

/-- All blocks that it points to meet p, and nothing of it is unknown. -/
def SV.allP (p : Nat → Bool) : SV → Bool
  | .any => false
  | .ptr k _ => p k
  | .sl k _ _ _ => p k
  | .pe k _ _ _ _ => p k
  | .rs k _ _ _ _ _ => p k
  | .ns _ k _ _ _ => p k
  | .mp k => p k
  | .agg l => allPs p l
  | .tup l => allPs p l
  | .fn _ l => allPs p l
  | .fm _ l => allPs p l
  | _ => true
where allPs (p : Nat → Bool) : List SV → Bool
  | [] => true
  | x :: l => SV.allP p x && allPs p l
def Cont.allP (p : Nat → Bool) : Cont → Bool
  | .row l => SV.allP.allPs p l
  | .tr _ l => SV.allP.allPs p l
  | _ => true
mutual
theorem val_agreeP {p : Nat → Bool} {β β' : Nat → Nat} (hb : ∀ k, p k = true → β' k = β k) : ∀ (x : SV), x.allP p = true → val β' x = val β x
  | .any, h | .v _, h | .i _, h | .b _, h | .w64 _, h | .w32 _, h | .w16 _, h | .w8 _, h | .s _, h | .a64 _, h | .a32 _, h | .a8 _, h => by simp [val]
  | .ptr k off, h => by simp only [val]; rw [hb k h]
  | .sl k off len cap, h => by simp only [val]; rw [hb k h]
  | .pe k _ _ _ _, h => by simp only [val]; rw [hb k h]
  | .rs k _ _ _ _ _, h => by simp only [val]; rw [hb k h]
  | .ns _ k _ _ _, h => by simp only [val]; rw [hb k h]
  | .mp k, h => by simp only [val]; rw [hb k h]
  | .agg l, h => by simp only [val]; rw [vals_agreeP hb l h]
  | .tup l, h => by simp only [val]; rw [vals_agreeP hb l h]
  | .fn f l, h => by simp only [val]; rw [vals_agreeP hb l h]
  | .fm f l, h => by simp only [val]; rw [vals_agreeP hb l h]
theorem vals_agreeP {p : Nat → Bool} {β β' : Nat → Nat} (hb : ∀ k, p k = true → β' k = β k) : ∀ (l : List SV), SV.allP.allPs p l = true → vals β' l = vals β l
  | [], _ => rfl
  | x :: l, h => by
    simp only [SV.allP.allPs, Bool.and_eq_true] at h
    simp only [vals]
    rw [val_agreeP hb x h.1, vals_agreeP hb l h.2]
end
theorem cells_agreeP {p : Nat → Bool} {β β' : Nat → Nat} (hb : ∀ k, p k = true → β' k = β k) (c : Cont) (h : c.allP p = true) : c.cells β' = c.cells β := by
  cases c <;> first | rfl | exact vals_agreeP hb _ h
theorem at_agreeP {p : Nat → Bool} {β β' : Nat → Nat} (hb : ∀ k, p k = true → β' k = β k) {w : World} {b : Nat} {rw : Bool} (c : Cont) (h : c.allP p = true) : At β' w b rw c = At β w b rw c := by
  cases c <;> first | rfl | (simp only [At, Cont.cells]; rw [vals_agreeP hb _ h])
mutual
theorem allP_mono {p q : Nat → Bool} (hm : ∀ k, p k = true → q k = true) : ∀ (x : SV), x.allP p = true → x.allP q = true
  | .any, h => h
  | .v _, h | .i _, h | .b _, h | .w64 _, h | .w32 _, h | .w16 _, h | .w8 _, h | .s _, h | .a64 _, h | .a32 _, h | .a8 _, h => rfl
  | .ptr k off, h | .sl k off _ _, h | .pe k _ _ _ _, h | .rs k _ _ _ _ _, h | .ns _ k _ _ _, h | .mp k, h => hm k h
  | .agg l, h | .tup l, h | .fn _ l, h | .fm _ l, h => allPs_mono hm l h
theorem allPs_mono {p q : Nat → Bool} (hm : ∀ k, p k = true → q k = true) : ∀ (l : List SV), SV.allP.allPs p l = true → SV.allP.allPs q l = true
  | [], _ => rfl
  | x :: l, h => by
    simp only [SV.allP.allPs, Bool.and_eq_true] at h ⊢
    exact ⟨allP_mono hm x h.1, allPs_mono hm l h.2⟩
end
theorem callP_mono {p q : Nat → Bool} (hm : ∀ k, p k = true → q k = true) (c : Cont) (h : c.allP p = true) : c.allP q = true := by
  cases c <;> first | rfl | exact allPs_mono hm _ h
mutual
theorem allP_of_wf {n : Nat} : ∀ (x : SV), x.wf n = true → x.allP (fun k => Nat.blt k n) = true
  | .any, h => h
  | .v _, h | .i _, h | .b _, h | .w64 _, h | .w32 _, h | .w16 _, h | .w8 _, h | .s _, h | .a64 _, h | .a32 _, h | .a8 _, h => rfl
  | .ptr k off, h | .sl k off _ _, h | .pe k _ _ _ _, h | .rs k _ _ _ _ _, h | .ns _ k _ _ _, h | .mp k, h => h
  | .agg l, h | .tup l, h | .fn _ l, h | .fm _ l, h => allPs_of_wf l h
theorem allPs_of_wf {n : Nat} : ∀ (l : List SV), SV.wf.wfs n l = true → SV.allP.allPs (fun k => Nat.blt k n) l = true
  | [], _ => rfl
  | x :: l, h => by
    simp only [SV.wf.wfs, SV.allP.allPs, Bool.and_eq_true] at h ⊢
    exact ⟨allP_of_wf x h.1, allPs_of_wf l h.2⟩
end
theorem callP_of_wf {n : Nat} (c : Cont) (h : c.wf n = true) : c.allP (fun k => Nat.blt k n) = true := by
  cases c <;> first | rfl | exact allPs_of_wf _ h
mutual
theorem wf_of_allP {n : Nat} {p : Nat → Bool} (hp : ∀ k, p k = true → k < n) : ∀ (x : SV), x.allP p = true → x.wf n = true
  | .any, h => h
  | .v _, h | .i _, h | .b _, h | .w64 _, h | .w32 _, h | .w16 _, h | .w8 _, h | .s _, h | .a64 _, h | .a32 _, h | .a8 _, h => rfl
  | .ptr k off, h | .sl k off _ _, h | .pe k _ _ _ _, h | .rs k _ _ _ _ _, h | .ns _ k _ _ _, h | .mp k, h => by have := hp k h; simp [SV.wf, Nat.blt_eq]; exact this
  | .agg l, h | .tup l, h | .fn _ l, h | .fm _ l, h => wfs_of_allP hp l h
theorem wfs_of_allP {n : Nat} {p : Nat → Bool} (hp : ∀ k, p k = true → k < n) : ∀ (l : List SV), SV.allP.allPs p l = true → SV.wf.wfs n l = true
  | [], _ => rfl
  | x :: l, h => by
    simp only [SV.wf.wfs, SV.allP.allPs, Bool.and_eq_true] at h ⊢
    exact ⟨wf_of_allP hp x h.1, wfs_of_allP hp l h.2⟩
end
theorem cwf_of_allP {n : Nat} {p : Nat → Bool} (hp : ∀ k, p k = true → k < n) (c : Cont) (h : c.allP p = true) : c.wf n = true := by
  cases c <;> first | rfl | exact wfs_of_allP hp _ h
/-- All that an operation waits for, by bits. -/
def mask1 (prev : List Nat) (o : Oper) : Nat := o.after.toList.foldl (fun acc e => bif Region.binds .any e then (acc ||| 2 ^ e.on) ||| prev.getD e.on 0 else acc) 0
def natK (n : Nat) (K : Nat → Prop) : Prop := match n with
  | 0 => K 0
  | k + 1 => K (k + 1)
theorem natK_eq (n : Nat) (K : Nat → Prop) : natK n K = K n := by cases n <;> rfl
def masks : List Oper → List Nat → List Nat
  | [], prev => prev
  | o :: rest, prev => masks rest (prev ++ [mask1 prev o])
def masksK : List Oper → List Nat → (List Nat → Prop) → Prop
  | [], prev, K => K prev
  | o :: rest, prev, K => natK (mask1 prev o) fun m => snocK prev m fun prev2 => masksK rest prev2 K
theorem masksK_eq : ∀ (l : List Oper) (prev : List Nat) (K : List Nat → Prop), masksK l prev K = K (masks l prev)
  | [], prev, K => rfl
  | o :: l, prev, K => by simp only [masksK, natK_eq, snocK_eq, masks]; exact masksK_eq l _ K
theorem masks_pre : ∀ (l : List Oper) (prev : List Nat), ∃ t, masks l prev = prev ++ t ∧ t.length = l.length
  | [], prev => ⟨[], by simp [masks], rfl⟩
  | o :: l, prev => by
    obtain ⟨t, h1, h2⟩ := masks_pre l (prev ++ [mask1 prev o])
    exact ⟨mask1 prev o :: t, by rw [masks, h1]; simp, by simp [h2]⟩
theorem masks_at (l : List Oper) : ∀ (prev : List Nat) (i : Nat) (o : Oper), l[i]? = some o → (masks l prev).getD (prev.length + i) 0 = mask1 ((masks l prev).take (prev.length + i)) o := by
  induction l with
  | nil => intro prev i o h; cases h
  | cons o0 l ih =>
    intro prev i o h
    cases i with
    | zero =>
      obtain rfl := Option.some.inj h
      obtain ⟨t, h1, h2⟩ := masks_pre l (prev ++ [mask1 prev o0])
      rw [masks, h1, Nat.add_zero]
      have e2 : (prev ++ [mask1 prev o0] ++ t).take prev.length = prev := by rw [List.append_assoc]; exact List.take_left
      rw [e2]
      generalize mask1 prev o0 = m
      rw [List.getD_eq_getElem?_getD, List.append_assoc, List.getElem?_append_right (Nat.le_refl _), Nat.sub_self]
      rfl
    | succ i =>
      have := ih (prev ++ [mask1 prev o0]) i o h
      simp only [List.length_append, List.length_cons, List.length_nil] at this
      rw [masks, show prev.length + (i + 1) = prev.length + (0 + 1) + i by omega]
      exact this
theorem fold_bit (prev : List Nat) (j : Nat) : ∀ (es : List Edge) (acc : Nat), (es.foldl (fun acc e => bif Region.binds .any e then (acc ||| 2 ^ e.on) ||| prev.getD e.on 0 else acc) acc).testBit j = true → acc.testBit j = true ∨ ∃ e ∈ es, Region.binds .any e = true ∧ (e.on = j ∨ (prev.getD e.on 0).testBit j = true)
  | [], acc, h => .inl h
  | e :: es, acc, h => by
    rcases fold_bit prev j es _ h with h1 | ⟨e', he', h1⟩
    · dsimp only at h1
      cases hb : Region.binds .any e
      · rw [hb] at h1; exact .inl h1
      · rw [hb] at h1
        simp only [cond_true, Nat.testBit_or, Bool.or_eq_true, Nat.testBit_two_pow, decide_eq_true_eq] at h1
        rcases h1 with (h2 | h2) | h2
        · exact .inl h2
        · exact .inr ⟨e, by simp, hb, .inl h2⟩
        · exact .inr ⟨e, by simp, hb, .inr h2⟩
    · exact .inr ⟨e', List.mem_cons_of_mem _ he', h1⟩
/-- What was done had all done that it waits for. -/
def ShutF (ops : List Oper) (f : Nat → Bool) : Prop := ∀ k y, ops[k]? = some y → f k = true → ∀ e ∈ y.after, Region.binds .any e = true → f e.on = true
theorem mask_done {ops : List Oper} {f : Nat → Bool} (hS : ShutF ops f) : ∀ (i : Nat) (o : Oper), ops[i]? = some o → (∀ e ∈ o.after, Region.binds .any e = true → f e.on = true) → ∀ j, ((masks ops []).getD i 0).testBit j = true → f j = true := by
  intro i
  induction i using Nat.strongRecOn with
  | _ i ih =>
    intro o ho hd j hj
    have h1 := masks_at ops [] i o ho
    simp only [List.length_nil, Nat.zero_add] at h1
    rw [h1] at hj
    rcases fold_bit _ j _ _ hj with h2 | ⟨e, he, hb, h2⟩
    · simp at h2
    · have hm : e ∈ o.after := by simpa using he
      have hf := hd e hm hb
      rcases h2 with rfl | h2
      · exact hf
      · have hlt : e.on < i := by
          rcases Nat.lt_or_ge e.on i with q | q
          · exact q
          · rw [List.getD_eq_getElem?_getD, List.getElem?_take, if_neg (by omega)] at h2
            simp at h2
        have hil : i < ops.length := lt_of_get ho
        have hy : ops[e.on]? = some ops[e.on] := List.getElem?_eq_getElem (by omega)
        have e1 : ((masks ops []).take i).getD e.on 0 = (masks ops []).getD e.on 0 := by
          rw [List.getD_eq_getElem?_getD, List.getElem?_take_of_lt hlt, ← List.getD_eq_getElem?_getD]
        rw [e1] at h2
        exact ih e.on hlt _ hy (fun e' he' hb' => hS e.on _ hy hf e' he' hb') j h2
theorem mask_lt {ops : List Oper} (hlow : lowB ops = true) : ∀ (i : Nat) (o : Oper), ops[i]? = some o → ∀ j, ((masks ops []).getD i 0).testBit j = true → j < i := by
  have hS : ∀ m, ShutF ops (fun k => decide (k < m)) := fun m k y hy hk e he hb => by
    have h1 := List.all_eq_true.1 hlow k (by simpa using lt_of_get hy)
    rw [hy] at h1
    have h2 := (Array.all_eq_true_iff_forall_mem.1 h1) e he
    rw [hb] at h2
    have hlt : e.on < k := by simpa using h2
    have := of_decide_eq_true hk
    exact decide_eq_true (by omega)
  intro i o ho j hj
  have := mask_done (hS i) i o ho (fun e he hb => by
    have h1 := List.all_eq_true.1 hlow i (by simpa using lt_of_get ho)
    rw [ho] at h1
    have h2 := (Array.all_eq_true_iff_forall_mem.1 h1) e he
    rw [hb] at h2
    have hlt : e.on < i := by simpa using h2
    exact decide_eq_true hlt) j hj
  exact of_decide_eq_true this
end Go.Proofs.Ytkjfecdpakhggaa
