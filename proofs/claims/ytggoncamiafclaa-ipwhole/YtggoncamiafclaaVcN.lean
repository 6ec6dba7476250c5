/-
  A reckoner of conditions: what a function does to the blocks that it is handed, told of a caller's blocks. No statement is proved here.
-/
import Derived.Test.YtggoncamiafclaaVcM
namespace Go.Proofs.Ytggoncamiafclaa
open Go.RowKit
set_option linter.unusedVariables false
set_option linter.unusedSimpArgs false
mutual
def ren (σ : Nat → Nat) : SV → SV
 | .ptr k off => .ptr (σ k) off
 | .sl k off len cap => .sl (σ k) off len cap
 | .pe k base idx sz j => .pe (σ k) base idx sz j
 | .rs k base eo sz len cap => .rs (σ k) base eo sz len cap
 | .ns b k sz len cap => .ns b (σ k) sz len cap
 | .mp k => .mp (σ k)
 | .fm f l => .fm f (rens σ l)
 | .agg l => .agg (rens σ l)
 | .tup l => .tup (rens σ l)
 | .fn f l => .fn f (rens σ l)
 | x => x
def rens (σ : Nat → Nat) : List SV → List SV
 | [] => []
 | x :: l => ren σ x :: rens σ l
end
def Cont.ren (σ : Nat → Nat) : Cont → Cont
 | .row l => .row (rens σ l)
 | .tr t l => .tr t (rens σ l)
 | c => c
mutual
theorem val_ren (β σ : Nat → Nat) : ∀ x : SV, val β (ren σ x) = val (fun k => β (σ k)) x
 | .any | .v _ | .i _ | .b _ | .w64 _ | .w32 _ | .w16 _ | .w8 _ | .s _ | .a64 _ | .a32 _ | .a8 _ | .ptr _ _ | .sl _ _ _ _ | .pe _ _ _ _ _ | .rs _ _ _ _ _ _ | .ns _ _ _ _ _ | .mp _ => by simp [ren, val]
 | .agg l => by simp only [ren, val]; rw [vals_ren β σ l]
 | .tup l => by simp only [ren, val]; rw [vals_ren β σ l]
 | .fn f l => by simp only [ren, val]; rw [vals_ren β σ l]
 | .fm f l => by simp only [ren, val]; rw [vals_ren β σ l]
theorem vals_ren (β σ : Nat → Nat) : ∀ l : List SV, vals β (rens σ l) = vals (fun k => β (σ k)) l
 | [] => rfl
 | x :: l => by simp only [rens, vals]; rw [val_ren β σ x, vals_ren β σ l]
end
theorem cells_ren (β σ : Nat → Nat) (c : Cont) : (c.ren σ).cells β = c.cells (fun k => β (σ k)) := by
 cases c <;> first | rfl | exact vals_ren β σ _
theorem rens_len (σ : Nat → Nat) : ∀ l : List SV, (rens σ l).length = l.length
 | [] => rfl
 | x :: l => by simp [rens, rens_len σ l]
theorem shp_ren (σ : Nat → Nat) (c : Cont) : (c.ren σ).shp = c.shp := by
 cases c <;> first | rfl | (simp only [Cont.ren, Cont.shp, rens_len])
mutual
theorem wf_ren {n m : Nat} {σ : Nat → Nat} (h : ∀ k, k < n → σ k < m) : ∀ x : SV, x.wf n = true → (ren σ x).wf m = true
 | .any, hx => by cases hx
 | .v _, hx | .i _, hx | .b _, hx | .w64 _, hx | .w32 _, hx | .w16 _, hx | .w8 _, hx | .s _, hx | .a64 _, hx | .a32 _, hx | .a8 _, hx => rfl
 | .ptr k off, hx => by have := h k (blt_lt hx); simp [ren, SV.wf, Nat.blt_eq]; exact this
 | .sl k off _ _, hx => by have := h k (blt_lt hx); simp [ren, SV.wf, Nat.blt_eq]; exact this
 | .pe k _ _ _ _, hx => by have := h k (blt_lt hx); simp [ren, SV.wf, Nat.blt_eq]; exact this
 | .rs k _ _ _ _ _, hx => by have := h k (blt_lt hx); simp [ren, SV.wf, Nat.blt_eq]; exact this
 | .ns _ k _ _ _, hx => by have := h k (blt_lt hx); simp [ren, SV.wf, Nat.blt_eq]; exact this
 | .mp k, hx => by have := h k (blt_lt hx); simp [ren, SV.wf, Nat.blt_eq]; exact this
 | .agg l, hx | .tup l, hx | .fn _ l, hx | .fm _ l, hx => wfs_ren h l hx
theorem wfs_ren {n m : Nat} {σ : Nat → Nat} (h : ∀ k, k < n → σ k < m) : ∀ l : List SV, SV.wf.wfs n l = true → SV.wf.wfs m (rens σ l) = true
 | [], _ => rfl
 | x :: l, hx => by
  simp only [SV.wf.wfs, Bool.and_eq_true] at hx
  simp only [rens, SV.wf.wfs, Bool.and_eq_true]
  exact ⟨wf_ren h x hx.1, wfs_ren h l hx.2⟩
end
theorem here_ren (σ : Nat → Nat) (c : Cont) : (c.ren σ).here = c.here := by cases c <;> rfl
theorem isRes_ren (σ : Nat → Nat) (c : Cont) : (c.ren σ).isRes = c.isRes := by cases c <;> rfl
theorem own_ren (σ : Nat → Nat) (b : Nat) (c : Cont) (i : Nat) : own b (c.ren σ) i ↔ own b c i := by cases c <;> exact Iff.rfl
theorem at_ren (β σ : Nat → Nat) (w : World) (b : Nat) (rw : Bool) (c : Cont) : At β w b rw (c.ren σ) = At (fun k => β (σ k)) w b rw c := by
 by_cases h : c.isRes = true
 ·cases c <;> first | rfl | cases h
 ·have h' : c.isRes = false := by simpa using h
  rw [propext (At_of h'), propext (At_of (by rw [isRes_ren]; exact h')), cells_ren, shp_ren]
theorem At.weak {β : Nat → Nat} {w : World} {b : Nat} {r r' : Bool} {c : Cont} (h : At β w b r c) (hr : r' = true → r = true) : At β w b r' c := by
 by_cases hc : c.isRes = true
 ·cases c <;> first | exact h | cases hc
 ·have hc' : c.isRes = false := by simpa using hc
  have h5 := (At_of hc').1 h
  exact (At_of hc').2 ⟨h5.lt, h5.cell, fun q => h5.free (hr q), h5.shp, fun q => h5.iv (hr q), fun q => h5.fz (hr q)⟩
mutual
theorem ren_id {n : Nat} {σ : Nat → Nat} (h : ∀ k, k < n → σ k = k) : ∀ x : SV, x.wf n = true → ren σ x = x
 | .any, hx => by cases hx
 | .v _, hx | .i _, hx | .b _, hx | .w64 _, hx | .w32 _, hx | .w16 _, hx | .w8 _, hx | .s _, hx | .a64 _, hx | .a32 _, hx | .a8 _, hx => rfl
 | .ptr k off, hx => by simp [ren, h k (blt_lt hx)]
 | .sl k off _ _, hx => by simp [ren, h k (blt_lt hx)]
 | .pe k _ _ _ _, hx => by simp [ren, h k (blt_lt hx)]
 | .rs k _ _ _ _ _, hx => by simp [ren, h k (blt_lt hx)]
 | .ns _ k _ _ _, hx => by simp [ren, h k (blt_lt hx)]
 | .mp k, hx => by simp [ren, h k (blt_lt hx)]
 | .agg l, hx => by simp only [ren]; rw [rens_id h l hx]
 | .tup l, hx => by simp only [ren]; rw [rens_id h l hx]
 | .fn _ l, hx => by simp only [ren]; rw [rens_id h l hx]
 | .fm _ l, hx => by simp only [ren]; rw [rens_id h l hx]
theorem rens_id {n : Nat} {σ : Nat → Nat} (h : ∀ k, k < n → σ k = k) : ∀ l : List SV, SV.wf.wfs n l = true → rens σ l = l
 | [], _ => rfl
 | x :: l, hx => by
  simp only [SV.wf.wfs, Bool.and_eq_true] at hx
  simp only [rens]
  rw [ren_id h x hx.1, rens_id h l hx.2]
end
structure Lies (G R M : Mm) (σ : Nat → Nat) : Prop where
 gl : G.length ≤ M.length
 old : ∀ k, k < G.length → σ k = k
 at' : ∀ (i : Nat) (e : Ent), R[i]? = some e → ∃ r, M[σ (G.length + i)]? = some ⟨r, e.c.ren σ⟩ ∧ (e.rw = true → r = true) ∧ e.c.here = true ∧ e.c.wf (G.length + R.length) = true
 inj : ∀ (i j : Nat) (x y : Ent), R[i]? = some x → R[j]? = some y → i ≠ j → x.rw = true → σ (G.length + i) ≠ σ (G.length + j)
section
variable {G R M : Mm} {σ β : Nat → Nat} {w : World}
theorem app_get {G R : Mm} {k : Nat} {e : Ent} (h : (G ++ R)[k]? = some e) : (k < G.length ∧ G[k]? = some e) ∨ ∃ i, k = G.length + i ∧ R[i]? = some e := by
 rcases Nat.lt_or_ge k G.length with q | q
 ·rw [List.getElem?_append_left q] at h; exact .inl ⟨q, h⟩
 ·rw [List.getElem?_append_right q] at h; exact .inr ⟨k - G.length, by omega, h⟩
theorem Rel.sel (h : Rel G β M w) (hl : Lies G R M σ) : Rel G (fun k => β (σ k)) (G ++ R) w := by
 refine ⟨fun k e he hc => ?_, fun i j x y hx hy hij hr hxc hyc => ?_, fun g hg => by simp only [hl.old g hg]; exact h.glob g hg, by simp, fun k hk => List.getElem?_append_left hk, h.ro, fun k e he => ?_⟩
 ·rcases app_get he with ⟨q, hk⟩ | ⟨i, rfl, hi⟩
  ·have h1 := h.all k e ((h.pre k q).trans hk) hc
   have e1 : At (fun k => β (σ k)) w (β k) e.rw e.c = At β w (β k) e.rw e.c := at_agree (n := G.length) (fun k hk => by simp only [hl.old k hk]) _ (h.ro k e hk).2
   simp only [hl.old k q, e1]; exact h1
  ·obtain ⟨r, h1, h2, h3, h4⟩ := hl.at' i e hi
   have h5 := h.all _ _ h1 (by rw [here_ren]; exact h3)
   rw [at_ren] at h5
   exact h5.weak h2
 ·rcases app_get hx with ⟨q, hk⟩ | ⟨i', rfl, hi⟩
  ·rw [(h.ro i x hk).1] at hr; cases hr
  ·obtain ⟨r, h1, h2, h3, h4⟩ := hl.at' i' x hi
   have hc1 : (x.c.ren σ).here = true := by rw [here_ren]; exact h3
   rcases app_get hy with ⟨q, hk⟩ | ⟨j', rfl, hj⟩
   ·have hM := (h.pre j q).trans hk
    have hne : σ (G.length + i') ≠ j := fun e => by
     rw [e, hM] at h1
     have e2 := Option.some.inj h1
     have := (h.ro j y hk).1
     rw [e2, h2 hr] at this
     cases this
    simp only [hl.old j q]
    intro b hb
    exact h.dis _ _ _ _ h1 hM hne (h2 hr) hc1 hyc b ((own_ren _ _ _ _).2 hb)
   ·obtain ⟨r', h1', h2', h3', h4'⟩ := hl.at' j' y hj
    intro b hb hb'
    exact h.dis _ _ _ _ h1 h1' (hl.inj i' j' x y hi hj (by omega) hr) (h2 hr) hc1 (by rw [here_ren]; exact h3') b ((own_ren _ _ _ _).2 hb) ((own_ren _ _ _ _).2 hb')
 ·rcases app_get he with ⟨q, hk⟩ | ⟨i, rfl, hi⟩
  ·exact cwf_mono (by simp) _ (h.ro k e hk).2
  ·obtain ⟨r, h1, h2, h3, h4⟩ := hl.at' i e hi
   rw [List.length_append]; exact h4
theorem norw {G : Mm} {R : Mm} {β : Nat → Nat} {w : World} (h : Rel G β (G ++ R) w) (hro : ∀ (i : Nat) (e : Ent), R[i]? = some e → e.rw = false) (b : Nat) : ¬ rwset β (G ++ R) b := by
 rintro ⟨k, e, he, hr, -⟩
 rcases app_get he with ⟨q, hk⟩ | ⟨i, rfl, hi⟩
 ·rw [(h.ro k e hk).1] at hr; cases hr
 ·rw [hro i e hi] at hr; cases hr
theorem pure_of {P : Program} {f : Nat} {args0 : List SV} {r0 : SV} (hS : Spec P G f args0 (G ++ R) (fun r _ => r = r0)) (hR : Rel G β M w) (hl : Lies G R M σ) (hro : ∀ (i : Nat) (e : Ent), R[i]? = some e → e.rw = false) (ha : SV.wf.wfs (G ++ R).length args0 = true) (hr : r0.wf (G ++ R).length = true) :
  CallR P f (vals β (rens σ args0)).toArray w (fun v w' => v = val β (ren σ r0) ∧ Fp0 w w') := by
 have h1 := hR.sel hl
 have := hS _ w h1 ha
 rw [vals_ren]
 have conv : ∀ (v : Value) (w' : World), (∃ β' M' r, Ext (fun k => β (σ k)) (G ++ R) w β' M' w' ∧ Rel G β' M' w' ∧ (r.wf M'.length = true ∧ v = val β' r) ∧ r = r0) → v = val β (ren σ r0) ∧ Fp0 w w' := by
  rintro v w' ⟨β', M', r, hE, hR', ⟨hw, rfl⟩, rfl⟩
  refine ⟨by rw [val_ren]; exact val_agree hE.agree r hr, hE.fp.mono fun k _ hk => norw h1 hro k hk⟩
 rcases this with ⟨v, W', h2, h3⟩ | ⟨h2, h3⟩
 ·exact .inl ⟨v, W', h2, conv _ _ h3⟩
 ·exact .inr ⟨h2, h3.mono fun e W' ⟨v, he, hq⟩ => ⟨v, he, conv _ _ hq⟩⟩
end
end Go.Proofs.Ytggoncamiafclaa
namespace Go.Proofs.Ytggoncamiafclaa
open Go.RowKit
set_option linter.unusedVariables false
set_option linter.unusedSimpArgs false
def putAt (σ τ : Nat → Nat) : Nat → List Ent → Mm → Mm
 | _, [], M => M
 | j, e :: l, M => putAt σ τ (j + 1) l (bif e.rw then M.set (σ j) ⟨true, e.c.ren τ⟩ else M)
def Ent.ren (τ : Nat → Nat) (e : Ent) : Ent := ⟨e.rw, e.c.ren τ⟩
def reloc (σ : Nat → Nat) (n m : Nat) : Nat → Nat := fun j => if j < n then σ j else m + (j - n)
def back (G R M : Mm) (σ : Nat → Nat) (M1 : Mm) : Mm :=
 putAt σ (reloc σ (G ++ R).length M.length) G.length ((M1.drop G.length).take R.length) M ++ (M1.drop (G ++ R).length).map (Ent.ren (reloc σ (G ++ R).length M.length))
end Go.Proofs.Ytggoncamiafclaa
namespace Go.Proofs.Ytggoncamiafclaa
open Go.RowKit
set_option linter.unusedVariables false
set_option linter.unusedSimpArgs false
def SV.allP (p : Nat → Bool) : SV → Bool
 | .any => false
 | .ptr k _ => p k
 | .sl k _ _ _ => p k
 | .pe k _ _ _ _ => p k
 | .rs k _ _ _ _ _ => p k
 | .ns _ k _ _ _ => p k
 | .mp k => p k
 | .agg l => allPs p l
 | .tup l => allPs p l
 | .fn _ l => allPs p l
 | .fm _ l => allPs p l
 | _ => true
where allPs (p : Nat → Bool) : List SV → Bool
 | [] => true
 | x :: l => SV.allP p x && allPs p l
def Cont.allP (p : Nat → Bool) : Cont → Bool
 | .row l => SV.allP.allPs p l
 | .tr _ l => SV.allP.allPs p l
 | _ => true
mutual
theorem val_agreeP {p : Nat → Bool} {β β' : Nat → Nat} (hb : ∀ k, p k = true → β' k = β k) : ∀ (x : SV), x.allP p = true → val β' x = val β x
 | .any, h | .v _, h | .i _, h | .b _, h | .w64 _, h | .w32 _, h | .w16 _, h | .w8 _, h | .s _, h | .a64 _, h | .a32 _, h | .a8 _, h => by simp [val]
 | .ptr k off, h => by simp only [val]; rw [hb k h]
 | .sl k off len cap, h => by simp only [val]; rw [hb k h]
 | .pe k _ _ _ _, h => by simp only [val]; rw [hb k h]
 | .rs k _ _ _ _ _, h => by simp only [val]; rw [hb k h]
 | .ns _ k _ _ _, h => by simp only [val]; rw [hb k h]
 | .mp k, h => by simp only [val]; rw [hb k h]
 | .agg l, h => by simp only [val]; rw [vals_agreeP hb l h]
 | .tup l, h => by simp only [val]; rw [vals_agreeP hb l h]
 | .fn f l, h => by simp only [val]; rw [vals_agreeP hb l h]
 | .fm f l, h => by simp only [val]; rw [vals_agreeP hb l h]
theorem vals_agreeP {p : Nat → Bool} {β β' : Nat → Nat} (hb : ∀ k, p k = true → β' k = β k) : ∀ (l : List SV), SV.allP.allPs p l = true → vals β' l = vals β l
 | [], _ => rfl
 | x :: l, h => by
  simp only [SV.allP.allPs, Bool.and_eq_true] at h
  simp only [vals]
  rw [val_agreeP hb x h.1, vals_agreeP hb l h.2]
end
theorem at_agreeP {p : Nat → Bool} {β β' : Nat → Nat} (hb : ∀ k, p k = true → β' k = β k) {w : World} {b : Nat} {rw : Bool} (c : Cont) (h : c.allP p = true) : At β' w b rw c = At β w b rw c := by
 cases c <;> first | rfl | (simp only [At, Cont.cells]; rw [vals_agreeP hb _ h])
mutual
theorem allP_mono {p q : Nat → Bool} (hm : ∀ k, p k = true → q k = true) : ∀ (x : SV), x.allP p = true → x.allP q = true
 | .any, h => h
 | .v _, h | .i _, h | .b _, h | .w64 _, h | .w32 _, h | .w16 _, h | .w8 _, h | .s _, h | .a64 _, h | .a32 _, h | .a8 _, h => rfl
 | .ptr k off, h | .sl k off _ _, h | .pe k _ _ _ _, h | .rs k _ _ _ _ _, h | .ns _ k _ _ _, h | .mp k, h => hm k h
 | .agg l, h | .tup l, h | .fn _ l, h | .fm _ l, h => allPs_mono hm l h
theorem allPs_mono {p q : Nat → Bool} (hm : ∀ k, p k = true → q k = true) : ∀ (l : List SV), SV.allP.allPs p l = true → SV.allP.allPs q l = true
 | [], _ => rfl
 | x :: l, h => by
  simp only [SV.allP.allPs, Bool.and_eq_true] at h ⊢
  exact ⟨allP_mono hm x h.1, allPs_mono hm l h.2⟩
end
theorem callP_mono {p q : Nat → Bool} (hm : ∀ k, p k = true → q k = true) (c : Cont) (h : c.allP p = true) : c.allP q = true := by
 cases c <;> first | rfl | exact allPs_mono hm _ h
mutual
theorem allP_of_wf {n : Nat} : ∀ (x : SV), x.wf n = true → x.allP (fun k => Nat.blt k n) = true
 | .any, h => h
 | .v _, h | .i _, h | .b _, h | .w64 _, h | .w32 _, h | .w16 _, h | .w8 _, h | .s _, h | .a64 _, h | .a32 _, h | .a8 _, h => rfl
 | .ptr k off, h | .sl k off _ _, h | .pe k _ _ _ _, h | .rs k _ _ _ _ _, h | .ns _ k _ _ _, h | .mp k, h => h
 | .agg l, h | .tup l, h | .fn _ l, h | .fm _ l, h => allPs_of_wf l h
theorem allPs_of_wf {n : Nat} : ∀ (l : List SV), SV.wf.wfs n l = true → SV.allP.allPs (fun k => Nat.blt k n) l = true
 | [], _ => rfl
 | x :: l, h => by
  simp only [SV.wf.wfs, SV.allP.allPs, Bool.and_eq_true] at h ⊢
  exact ⟨allP_of_wf x h.1, allPs_of_wf l h.2⟩
end
theorem callP_of_wf {n : Nat} (c : Cont) (h : c.wf n = true) : c.allP (fun k => Nat.blt k n) = true := by
 cases c <;> first | rfl | exact allPs_of_wf _ h
def mask1 (prev : List Nat) (o : Oper) : Nat := o.after.toList.foldl (fun acc e => bif Region.binds .any e then (acc ||| 2 ^ e.on) ||| prev.getD e.on 0 else acc) 0
def natK (n : Nat) (K : Nat → Prop) : Prop := match n with
 | 0 => K 0
 | k + 1 => K (k + 1)
theorem natK_eq (n : Nat) (K : Nat → Prop) : natK n K = K n := by cases n <;> rfl
def masks : List Oper → List Nat → List Nat
 | [], prev => prev
 | o :: rest, prev => masks rest (prev ++ [mask1 prev o])
def masksK : List Oper → List Nat → (List Nat → Prop) → Prop
 | [], prev, K => K prev
 | o :: rest, prev, K => natK (mask1 prev o) fun m => snocK prev m fun prev2 => masksK rest prev2 K
theorem masksK_eq : ∀ (l : List Oper) (prev : List Nat) (K : List Nat → Prop), masksK l prev K = K (masks l prev)
 | [], prev, K => rfl
 | o :: l, prev, K => by simp only [masksK, natK_eq, snocK_eq, masks]; exact masksK_eq l _ K
theorem masks_pre : ∀ (l : List Oper) (prev : List Nat), ∃ t, masks l prev = prev ++ t ∧ t.length = l.length
 | [], prev => ⟨[], by simp [masks], rfl⟩
 | o :: l, prev => by
  obtain ⟨t, h1, h2⟩ := masks_pre l (prev ++ [mask1 prev o])
  exact ⟨mask1 prev o :: t, by rw [masks, h1]; simp, by simp [h2]⟩
theorem masks_at (l : List Oper) : ∀ (prev : List Nat) (i : Nat) (o : Oper), l[i]? = some o → (masks l prev).getD (prev.length + i) 0 = mask1 ((masks l prev).take (prev.length + i)) o := by
 induction l with
 | nil => intro prev i o h; cases h
 | cons o0 l ih =>
  intro prev i o h
  cases i with
  | zero =>
   obtain rfl := Option.some.inj h
   obtain ⟨t, h1, h2⟩ := masks_pre l (prev ++ [mask1 prev o0])
   rw [masks, h1, Nat.add_zero]
   have e2 : (prev ++ [mask1 prev o0] ++ t).take prev.length = prev := by rw [List.append_assoc]; exact List.take_left
   rw [e2]
   generalize mask1 prev o0 = m
   rw [List.getD_eq_getElem?_getD, List.append_assoc, List.getElem?_append_right (Nat.le_refl _), Nat.sub_self]
   rfl
  | succ i =>
   have := ih (prev ++ [mask1 prev o0]) i o h
   simp only [List.length_append, List.length_cons, List.length_nil] at this
   rw [masks, show prev.length + (i + 1) = prev.length + (0 + 1) + i by omega]
   exact this
theorem fold_bit (prev : List Nat) (j : Nat) : ∀ (es : List Edge) (acc : Nat), (es.foldl (fun acc e => bif Region.binds .any e then (acc ||| 2 ^ e.on) ||| prev.getD e.on 0 else acc) acc).testBit j = true → acc.testBit j = true ∨ ∃ e ∈ es, Region.binds .any e = true ∧ (e.on = j ∨ (prev.getD e.on 0).testBit j = true)
 | [], acc, h => .inl h
 | e :: es, acc, h => by
  rcases fold_bit prev j es _ h with h1 | ⟨e', he', h1⟩
  ·dsimp only at h1
   cases hb : Region.binds .any e
   ·rw [hb] at h1; exact .inl h1
   ·rw [hb] at h1
    simp only [cond_true, Nat.testBit_or, Bool.or_eq_true, Nat.testBit_two_pow, decide_eq_true_eq] at h1
    rcases h1 with (h2 | h2) | h2
    ·exact .inl h2
    ·exact .inr ⟨e, by simp, hb, .inl h2⟩
    ·exact .inr ⟨e, by simp, hb, .inr h2⟩
  ·exact .inr ⟨e', List.mem_cons_of_mem _ he', h1⟩
def ShutF (ops : List Oper) (f : Nat → Bool) : Prop := ∀ k y, ops[k]? = some y → f k = true → ∀ e ∈ y.after, Region.binds .any e = true → f e.on = true
theorem mask_done {ops : List Oper} {f : Nat → Bool} (hS : ShutF ops f) : ∀ (i : Nat) (o : Oper), ops[i]? = some o → (∀ e ∈ o.after, Region.binds .any e = true → f e.on = true) → ∀ j, ((masks ops []).getD i 0).testBit j = true → f j = true := by
 intro i
 induction i using Nat.strongRecOn with
 | _ i ih =>
  intro o ho hd j hj
  have h1 := masks_at ops [] i o ho
  simp only [List.length_nil, Nat.zero_add] at h1
  rw [h1] at hj
  rcases fold_bit _ j _ _ hj with h2 | ⟨e, he, hb, h2⟩
  ·simp at h2
  ·have hm : e ∈ o.after := by simpa using he
   have hf := hd e hm hb
   rcases h2 with rfl | h2
   ·exact hf
   ·have hlt : e.on < i := by
     rcases Nat.lt_or_ge e.on i with q | q
     ·exact q
     ·rw [List.getD_eq_getElem?_getD, List.getElem?_take, if_neg (by omega)] at h2
      simp at h2
    have hil : i < ops.length := lt_of_get ho
    have hy : ops[e.on]? = some ops[e.on] := List.getElem?_eq_getElem (by omega)
    have e1 : ((masks ops []).take i).getD e.on 0 = (masks ops []).getD e.on 0 := by
     rw [List.getD_eq_getElem?_getD, List.getElem?_take_of_lt hlt, ← List.getD_eq_getElem?_getD]
    rw [e1] at h2
    exact ih e.on hlt _ hy (fun e' he' hb' => hS e.on _ hy hf e' he' hb') j h2
theorem mask_lt {ops : List Oper} (hlow : lowB ops = true) : ∀ (i : Nat) (o : Oper), ops[i]? = some o → ∀ j, ((masks ops []).getD i 0).testBit j = true → j < i := by
 have hS : ∀ m, ShutF ops (fun k => decide (k < m)) := fun m k y hy hk e he hb => by
  have h1 := List.all_eq_true.1 hlow k (by simpa using lt_of_get hy)
  rw [hy] at h1
  have h2 := (Array.all_eq_true_iff_forall_mem.1 h1) e he
  rw [hb] at h2
  have hlt : e.on < k := by simpa using h2
  have := of_decide_eq_true hk
  exact decide_eq_true (by omega)
 intro i o ho j hj
 have := mask_done (hS i) i o ho (fun e he hb => by
  have h1 := List.all_eq_true.1 hlow i (by simpa using lt_of_get ho)
  rw [ho] at h1
  have h2 := (Array.all_eq_true_iff_forall_mem.1 h1) e he
  rw [hb] at h2
  have hlt : e.on < i := by simpa using h2
  exact decide_eq_true hlt) j hj
 exact of_decide_eq_true this
end Go.Proofs.Ytggoncamiafclaa
