/-
  link: the document's table: those go whose time is over; who is found. No statement is proved here.
-/
import Derived.Test.YtedcileokcbohaaDoorLiU
namespace Go.Proofs.YtedcileokcbohaaDoor
open Go.RowKit
set_option linter.unusedVariables false
set_option linter.unusedSimpArgs false
set_option maxRecDepth 100000

theorem bifT {c : Bool} {p q : Prop} (h : c = true) (hp : p) : bif c then p else q := by rw [h]; exact hp
theorem bifF {c : Bool} {p q : Prop} (h : c = false) (hq : q) : bif c then p else q := by rw [h]; exact hq
theorem bTF (b : Bool) : b = true ∨ b = false := by cases b <;> simp
theorem Spec.mvD {P : Program} {f : Nat} {args : List SV} {p : List SV} {s : TS} {K : SV → Mm → Prop} {Q : SV → TS → Prop} (hp : SV.wf.wfs 0 p = true) (hS : Spec P G f args (M0T p s) K) (h : ∀ r M1, K r M1 → ∃ s' t, r.wf 0 = true ∧ Q r s' ∧ 2 ≤ t ∧ M1[0]? = some e0 ∧ (∃ x, M1[1]? = some ⟨true, .row (p ++ [x])⟩ ∧ ∀ β : Nat → Nat, Proofs.YtedcileokcbohaaDoor.val β x = Proofs.YtedcileokcbohaaDoor.val β (.ns s'.b t 3 s'.len s'.cap)) ∧ (∃ c, M1[2]? = some ⟨true, c⟩) ∧ ∃ c, M1[t]? = some ⟨true, c⟩ ∧ (s'.b = false → c.here = true ∧ (∀ β : Nat → Nat, (recT' s').c.cells β = c.cells β) ∧ (recT' s').c.shp = c.shp)) : Spec P G f args (M0T p s) (fun r M1 => ∃ s', (r.wf 0 = true ∧ Q r s') ∧ M1 = M1T p s') := by
  refine Spec.re hS fun r M1 hK => ?_
  obtain ⟨s', t, hr, hq, ht, h0, ⟨x1, h1, hx1⟩, ⟨c, h2⟩, c3, h3, h3'⟩ := h r M1 hK
  let σ : Nat → Nat := fun i => if i = 3 then t else i
  have s1 : ∀ i, i < 3 → σ i = i := fun i hi => if_neg (by omega)
  have s2 : σ 3 = t := if_pos rfl
  refine ⟨r, M1T p s', σ, ⟨fun k hk => s1 k hk, by show 3 ≤ 4; omega, fun k e he hh => ?_, fun i j x y hx hy hij hrw hxh hyh => ?_, fun k e he => ?_, fun k e he hrw => ?_, fun k e hk he => ?_, fun k e hk he => ?_, fun β => val0 hr, wf_mono (Nat.zero_le _) r hr⟩, ⟨s', ⟨hr, hq⟩, rfl⟩⟩
  · match k, he with
    | 0, he => cases he; rw [s1 0 (by omega)]; exact ⟨_, h0, rfl, rfl, fun _ => rfl, rfl⟩
    | 1, he =>
      cases he
      rw [s1 1 (by omega)]
      refine ⟨_, h1, rfl, rfl, fun β => ?_, rfl⟩
      show vals (fun i => β (σ i)) (p ++ [.ns s'.b 3 3 s'.len s'.cap]) = vals β (p ++ [x1])
      rw [vals_app, vals_app, vals0 (β := fun i => β (σ i)) (β' := β) hp]
      have e : vals (fun i => β (σ i)) [.ns s'.b 3 3 s'.len s'.cap] = vals β [x1] := by simp only [vals, hx1, val, s2]
      rw [e]
    | 2, he => cases he; cases hh
    | 3, he =>
      cases he; rw [s2]
      have hb : s'.b = false := by
        have : (!s'.b) = true := hh
        cases hq : s'.b
        · rfl
        · rw [hq] at this; cases this
      obtain ⟨g1, g2, g3⟩ := h3' hb
      exact ⟨_, h3, g1, rfl, fun β => g2 β, g3⟩
    | k + 4, he => cases he
  · match i, j, hx, hy with
    | 2, _, hx, _ => cases hx; cases hxh
    | _, 2, _, hy => cases hy; cases hyh
    | 0, 0, _, _ => exact absurd rfl hij
    | 0, 1, _, _ => exact fun h => by rw [s1 0 (by omega), s1 1 (by omega)] at h; cases h
    | 0, 3, _, _ => rw [s1 0 (by omega), s2]; omega
    | 1, 0, _, _ => exact fun h => by rw [s1 0 (by omega), s1 1 (by omega)] at h; cases h
    | 1, 1, _, _ => exact absurd rfl hij
    | 1, 3, _, _ => rw [s1 1 (by omega), s2]; omega
    | 3, 0, _, _ => rw [s1 0 (by omega), s2]; omega
    | 3, 1, _, _ => rw [s1 1 (by omega), s2]; omega
    | 3, 3, _, _ => exact absurd rfl hij
    | i + 4, _, hx, _ => cases hx
    | _, j + 4, _, hy => cases hy
  · match k, he with
    | 0, he => cases he; rfl
    | 1, he => cases he; exact wfs_app (wfs_mono (Nat.zero_le _) p hp) rfl
    | 2, he => cases he; rfl
    | 3, he => cases he; rfl
    | k + 4, he => cases he
  · match k, he with
    | 0, he => cases he; cases hrw
    | 1, he => rw [s1 1 (by omega)]; exact ⟨_, h1, rfl⟩
    | 2, he => rw [s1 2 (by omega)]; exact ⟨_, h2, rfl⟩
    | 3, he => rw [s2]; exact ⟨_, h3, rfl⟩
    | k + 4, he => cases he
  · match k, hk with
    | 0, _ =>
      rw [h0] at he; cases he
      exact ⟨_, rfl, fun _ => rfl⟩
    | 1, _ =>
      rw [h1] at he; cases he
      exact ⟨_, rfl, fun h => by cases h⟩
    | 2, _ =>
      rw [h2] at he; cases he
      exact ⟨_, rfl, fun h => by cases h⟩
    | k + 3, hk => exact absurd hk (by show ¬ k + 3 < 3; omega)
  · match k, hk with
    | 0, hk => exact absurd hk (by show ¬ 3 ≤ 0; omega)
    | 1, hk => exact absurd hk (by show ¬ 3 ≤ 1; omega)
    | 2, hk => exact absurd hk (by show ¬ 3 ≤ 2; omega)
    | 3, _ => cases he; rfl
    | k + 4, _ => cases he
theorem tab_effD {P : Program} {f k j : Nat} {M : Mm} {rest p : List SV} {s : TS} {K0 : SV → Mm → Prop} {Q : SV → TS → Prop} (hp : SV.wf.wfs 0 p = true) (hrest : SV.wf.wfs 0 rest = true) (hS : Spec P G f (.ptr 1 0 :: rest) (M0T p s) K0) (h : ∀ r M1, K0 r M1 → ∃ s' t, r.wf 0 = true ∧ Q r s' ∧ 2 ≤ t ∧ M1[0]? = some e0 ∧ (∃ x, M1[1]? = some ⟨true, .row (p ++ [x])⟩ ∧ ∀ β : Nat → Nat, Proofs.YtedcileokcbohaaDoor.val β x = Proofs.YtedcileokcbohaaDoor.val β (.ns s'.b t 3 s'.len s'.cap)) ∧ (∃ c, M1[2]? = some ⟨true, c⟩) ∧ ∃ c, M1[t]? = some ⟨true, c⟩ ∧ (s'.b = false → c.here = true ∧ (∀ β : Nat → Nat, (recT' s').c.cells β = c.cells β) ∧ (recT' s').c.shp = c.shp)) (hk : M[k]? = some (rowT p s j)) (hj : M[j]? = some (recT' s)) (hne : k ≠ j) :
    Spec P G f (.ptr k 0 :: rest) M (fun r M' => ∃ s', Q r s' ∧ M' = ((M.set k (rowT p s' M.length)).set j goneE) ++ [recT' s']) :=
  effN hp hp hrest (Spec.mvD hp hS h) hk hj hne
/-- A row that grows: what it has. -/
def okO (o : Option (Nat × Nat × List Nr)) (X : List Nr) : Prop := match o with
  | none => X = []
  | some (sn, sc, sl) => sl.take sn = X ∧ sl.length = sc ∧ sn ≤ sc ∧ X.length = sn
theorem okO_snoc0 {x : Nr} {cap' : Nat} {rest : List Nr} (h : [x].length + rest.length = cap') : okO (some ([x].length, cap', [x] ++ rest)) ([] ++ [x]) := ⟨rfl, by rw [List.length_append]; exact h, by rw [← h]; exact Nat.le_add_right _ _, rfl⟩
theorem okO_snoc {sn sc cap' : Nat} {sl rest X : List Nr} {x : Nr} (ho : okO (some (sn, sc, sl)) X) (h : sn + [x].length + rest.length = cap') : okO (some (sn + [x].length, cap', sl.take sn ++ [x] ++ rest)) (X ++ [x]) := by
  obtain ⟨h1, h2, h3, h4⟩ := ho
  have e : (sl.take sn ++ [x]).length = sn + [x].length := by rw [List.length_append, List.length_take]; omega
  refine ⟨?_, by rw [List.length_append, e]; exact h, by rw [← h]; exact Nat.le_add_right _ _, by rw [List.length_append, h4]⟩
  rw [← h1]
  exact List.take_left' e
theorem del_ult (n : BitVec 64) (r : Nr) : n.ult r.2.2.1 = !(del n r) := by
  unfold del BitVec.ult BitVec.ule
  by_cases h : r.2.2.1.toNat ≤ n.toNat
  · rw [decide_eq_true h, decide_eq_false (by omega)]; rfl
  · rw [decide_eq_false h, decide_eq_true (by omega)]; rfl
theorem kept_succ (n : BitVec 64) (l : List Nr) (i : Nat) (h : i < l.length) : kept n (l.take (i + 1)) = kept n (l.take i) ++ (bif n.ult (l.getD i (rz NF)).2.2.1 then [l.getD i (rz NF)] else []) := by
  rw [take_succ_getD (rz NF) l i h]
  unfold kept
  rw [List.filter_append, del_ult]
  cases hd : del n (l.getD i (rz NF))
  · rw [List.filter_cons_of_pos (by rw [hd]; rfl)]; rfl
  · rw [List.filter_cons_of_neg (by rw [hd]; decide)]; rfl
theorem loop48 (mac : Tx) (own : BitVec 32) (q : Int) (f n : BitVec 64) (b : Bool) (len cap : Nat) (l : List Nr) (hok : TS.ok ⟨b, len, cap, l⟩ = true) : LOk Tryd.prog G (M0T (pT mac own q f) ⟨b, len, cap, l⟩) 48 (L48 (pT mac own q f) n ⟨b, len, cap, l⟩ (kept n (l.take len) = []) (fun sn sc sl => okO (some (sn, sc, sl)) (kept n (l.take len)))) := by
  obtain ⟨o1, o2, o3, o4⟩ := TS.ok_iff.1 hok
  dsimp only at o1 o2 o3 o4
  refine LT.add_ok (noL_ok _ _ _ _) fun fr M K h => ?_
  obtain ⟨h0, hA, hS⟩ := vLe_ok (show vLe _ _ _ _ _ _ _ from h)
  refine loop_pick e0_ok mixed (by show 1 ≤ 3; decide) (by kernel_rfl) (i48 n) (m48 (pT mac own q f) ⟨b, len, cap, l⟩) (fun st => st.i ≤ len ∧ okO st.o (kept n (l.take st.i))) (fun st => len - st.i) (fun st => sel48 st.i) (fun st => st.i = len) o48 (m48 (pT mac own q f) ⟨b, len, cap, l⟩) ⟨0, none⟩ ⟨Nat.zero_le _, rfl⟩ (fun _ => noL) (fun _ _ => noL_ok _ _ _ _) (fun st hp => ?_) h0 (fun st hp hq => ?_)
  · obtain ⟨i, o⟩ := st
    obtain ⟨hi, ho⟩ := hp
    dsimp only at hi ho
    have go : i < len → (!b) = true ∧ (!b && inR ((i : Nat) : Int) len) = true ∧ (!b && rok 0 i 3 NF [] l.length) = true ∧ (!b && (rok 0 i 3 NF [] l.length && true)) = true ∧ inI (((i : Nat) : Int) + 1) = true := fun hlt => by
      have b1 : (!b) = true := by
        cases b
        · rfl
        · have : len = 0 := Nat.eq_of_beq_eq_true o1
          omega
      have b2 := rok0 (i := i) (m := l.length) (by omega)
      refine ⟨b1, and_t b1 (inRn hlt (by omega)), and_t b1 ?_, and_t b1 b2, inI_iff.2 (by omega)⟩
      rw [Bool.and_true] at b2; exact b2
    cases o with
    | none =>
      refine of_eq (r48A mac own q f n b len cap l i _ _) (bif_of o1 ?_)
      rcases bTF (ilt (i : Int) (len : Int)) with hc | hc
      · have hlt : i < len := by have := of_ilt hc; omega
        obtain ⟨b1, b2, b3, b4, b5⟩ := go hlt
        have hk := kept_succ n l i (by omega)
        refine bifT hc (bif_of b2 (bif_of b3 ?_))
        rcases bTF (n.ult (l.getD i (rz NF)).snd.snd.fst) with hu | hu
        · refine bifT hu (bif_of b2 (bif_of b4 fun cap' rest hcr => bif_of b5 ⟨⟨⟨by show i + 1 ≤ len; omega, ?_⟩, by show len - (i + 1) < len - i; omega⟩, ?_⟩))
          · have ho : kept n (l.take i) = [] := ho
            rw [hu, ho] at hk
            show okO (some _) (kept n (l.take (i + 1)))
            rw [hk]
            exact okO_snoc0 hcr
          · repeat' (first | exact rfl | exact trivial | apply And.intro)
        · refine bifF hu (bif_of b5 ⟨⟨⟨by show i + 1 ≤ len; omega, ?_⟩, by show len - (i + 1) < len - i; omega⟩, ?_⟩)
          · have ho : kept n (l.take i) = [] := ho
            rw [hu, ho] at hk
            exact hk
          · repeat' (first | exact rfl | exact trivial | apply And.intro)
      · have hge : i = len := by have := of_nilt hc; omega
        refine bifF hc ⟨rfl, hge, ?_⟩
        repeat' (first | exact rfl | exact trivial | apply And.intro)
    | some o =>
      obtain ⟨sn, sc, sl⟩ := o
      obtain ⟨g1, g2, g3, g4⟩ : sl.take sn = kept n (l.take i) ∧ sl.length = sc ∧ sn ≤ sc ∧ (kept n (l.take i)).length = sn := ho
      refine of_eq (r48S mac own q f n b len cap l i sn sc sl _ _) (bif_of o1 ?_)
      have gl := kept_le n (l.take i)
      rw [List.length_take] at gl
      rcases bTF (ilt (i : Int) (len : Int)) with hc | hc
      · have hlt : i < len := by have := of_ilt hc; omega
        obtain ⟨b1, b2, b3, b4, b5⟩ := go hlt
        have hk := kept_succ n l i (by omega)
        refine bifT hc (bif_of b2 (bif_of b3 ?_))
        rcases bTF (n.ult (l.getD i (rz NF)).snd.snd.fst) with hu | hu
        · refine bifT hu (bif_of b2 (bif_of b4 (bif_of (and_t (ble_of g3) (and_t (by rw [g2]; exact Nat.beq_refl _) (and_t (ble_of (by show sn + 1 ≤ _; omega)) rfl))) fun cap' rest hcr => bif_of b5 ⟨⟨⟨by show i + 1 ≤ len; omega, ?_⟩, by show len - (i + 1) < len - i; omega⟩, ?_⟩)))
          · rw [hu] at hk
            show okO (some _) (kept n (l.take (i + 1)))
            rw [hk]
            exact okO_snoc ⟨g1, g2, g3, g4⟩ hcr
          · repeat' (first | exact rfl | exact trivial | apply And.intro)
        · refine bifF hu (bif_of b5 ⟨⟨⟨by show i + 1 ≤ len; omega, ?_⟩, by show len - (i + 1) < len - i; omega⟩, ?_⟩)
          · rw [hu] at hk
            have e : kept n (l.take (i + 1)) = kept n (l.take i) := by rw [hk]; exact List.append_nil _
            show okO (some (sn, sc, sl)) (kept n (l.take (i + 1)))
            rw [e]
            exact ⟨g1, g2, g3, g4⟩
          · repeat' (first | exact rfl | exact trivial | apply And.intro)
      · have hge : i = len := by have := of_nilt hc; omega
        refine bifF hc ⟨rfl, hge, ?_⟩
        repeat' (first | exact rfl | exact trivial | apply And.intro)
  · obtain ⟨i, o⟩ := st
    obtain rfl : i = len := hq
    obtain ⟨hi, ho⟩ := hp
    cases o with
    | none => have := hA ho; rw [frK_eq] at this; exact this
    | some o =>
      obtain ⟨sn, sc, sl⟩ := o
      have := hS sn sc sl ho
      rw [frK_eq] at this; exact this
theorem val_nil (β : Nat → Nat) (t len cap : Nat) : Proofs.YtedcileokcbohaaDoor.val β (.v (.slice none 0 0)) = Proofs.YtedcileokcbohaaDoor.val β (.ns true t 3 0 0) := rfl
def cTidy : List SV → Mm → (SV → Mm → Prop) → Prop
  | [.ptr k off, .w64 n], M, K => onT M k off fun m o q f s j => ∀ s', okT s' (kept n s.L) → putT M k j m o q f s' (K (.tup []))
  | _, _, _ => False
theorem tidy_ok : COk Tryd.prog G 48 cTidy := by
  intro args M K h
  unfold cTidy at h
  split at h
  · rename_i k off n
    obtain ⟨m, o, q, f, s, j, hk, hj, hne, rfl, hok, h⟩ := onT_ok h
    obtain ⟨b, len, cap, l⟩ := s
    obtain ⟨o1, o2, o3, o4⟩ := TS.ok_iff.1 hok
    dsimp only at o1 o2 o3 o4
    have kl := kept_le n (l.take len)
    rw [List.length_take] at kl
    refine Spec.imp (tab_effD (Q := fun r s' => r = .tup [] ∧ okT s' (kept n (TS.L ⟨b, len, cap, l⟩))) rfl rfl (vf_ok e0_ok mixed (loop48 m o q f n b len cap l hok) (of_eq (v48 m o q f n b len cap l _ _ (fun r M1 => (r = .tup [] ∧ kept n (l.take len) = [] ∧ M1 = [e0, ⟨true, .row (pT m o q f ++ [.v (.slice none 0 0)])⟩, recT' ⟨b, len, cap, l⟩]) ∨ ∃ sn sc sl, r = .tup [] ∧ okO (some (sn, sc, sl)) (kept n (l.take len)) ∧ M1 = [e0, ⟨true, .row (pT m o q f ++ [.rs 3 0 0 3 sn sc])⟩, recT' ⟨b, len, cap, l⟩, sdE sl])) ?_)) (fun r M1 h => ?_) hk hj hne) ?_
    · refine ⟨rfl, rfl, rfl, rfl, rfl, ⟨rfl, rfl⟩, ⟨rfl, rfl⟩, ⟨rfl, rfl⟩, fun hA => .inl ⟨rfl, hA, rfl⟩, fun sn sc sl hS => .inr ⟨sn, sc, sl, rfl, hS, rfl⟩⟩
    · rcases h with ⟨rfl, hA, rfl⟩ | ⟨sn, sc, sl, rfl, ⟨g1, g2, g3, g4⟩, rfl⟩
      · exact ⟨⟨true, 0, 0, []⟩, 2, rfl, ⟨rfl, rfl, hA.symm⟩, Nat.le_refl _, rfl, ⟨_, rfl, fun β => rfl⟩, ⟨_, rfl⟩, _, rfl, fun h => by cases h⟩
      · refine ⟨⟨false, sn, sc, sl⟩, 3, rfl, ⟨rfl, TS.ok_iff.2 ⟨rfl, g2, g3, ?_⟩, g1⟩, by decide, rfl, ⟨_, rfl, fun β => rfl⟩, ⟨_, rfl⟩, _, rfl, fun _ => ⟨rfl, fun β => rfl, by simp [recT', Cont.shp]⟩⟩
        show sn ≤ 64
        omega
    · rintro r M' ⟨s', ⟨rfl, hs⟩, rfl⟩
      have := h s' hs
      rw [putT_eq] at this
      exact this
  · exact h.elim
end Go.Proofs.YtedcileokcbohaaDoor
namespace Go.Proofs.YtedcileokcbohaaDoor
open Go.RowKit
set_option linter.unusedVariables false
set_option linter.unusedSimpArgs false
set_option maxRecDepth 100000

def fnI (a : BitVec 32) (L : List Nr) : Int := bif isL a L then ((cntL a L : Nat) : Int) else -1
theorem fnd_eq {a : BitVec 32} {L : List Nr} (hs : sortB L = true) {i : Nat} (hi : i < L.length) (h : (L.getD i (rz NF)).1 = a) : isL a L = true ∧ cntL a L = i := by
  have h1 : isL a L = true := by
    unfold isL
    rw [List.any_eq_true]
    refine ⟨L.getD i (rz NF), ?_, by rw [h]; exact beq_self_eq_true _⟩
    rw [List.getD_eq_getElem?_getD, List.getElem?_eq_getElem hi]
    exact List.getElem_mem _
  refine ⟨h1, ?_⟩
  have h2 := is_lt hs h1
  have h3 := is_cnt a L hs
  rw [h1, show Nat.blt (cntL a L) L.length = true by rw [Nat.blt_eq]; exact h2] at h3
  have h3 : (L.getD (cntL a L) (rz NF)).1 = a := eq_of_beq h3.symm
  rcases Nat.lt_trichotomy (cntL a L) i with q | q | q
  · have := sort_lt L hs _ _ q hi
    rw [h3, h] at this; omega
  · exact q
  · have := sort_lt L hs _ _ q h2
    rw [h3, h] at this; omega
theorem fnd_no {a : BitVec 32} {L : List Nr} (h : ∀ j, j < L.length → (L.getD j (rz NF)).1 ≠ a) : isL a L = false := by
  unfold isL
  rw [List.any_eq_false]
  intro r hr
  obtain ⟨j, hj, rfl⟩ := List.getElem_of_mem hr
  have := h j hj
  rw [List.getD_eq_getElem?_getD, List.getElem?_eq_getElem hj] at this
  simpa using this
theorem loop49 (mac : Tx) (own : BitVec 32) (q : Int) (f : BitVec 64) (b : Bool) (len cap : Nat) (l : List Nr) (a : BitVec 32) (hok : TS.ok ⟨b, len, cap, l⟩ = true) (hs : sortB (l.take len) = true) : LOk Tryd.prog G (M0T (pT mac own q f) ⟨b, len, cap, l⟩) 49 (L49 mac own q f ⟨b, len, cap, l⟩ a ((cntL a (l.take len) : Nat) : Int) (isL a (l.take len) = false) (isL a (l.take len) = true)) := by
  obtain ⟨o1, o2, o3, o4⟩ := TS.ok_iff.1 hok
  dsimp only at o1 o2 o3 o4
  have hL : (l.take len).length = len := by rw [List.length_take]; omega
  refine LT.add_ok (noL_ok _ _ _ _) (loop_ret e0_ok mixed (noL_ok _ _ _ _) (by show 1 ≤ 3; decide) (by kernel_rfl) (fun i => i49 a i) (fun _ => M0T (pT mac own q f) ⟨b, len, cap, l⟩) (fun i => i ≤ len ∧ ∀ j, j < i → ((l.take len).getD j (rz NF)).1 ≠ a) (fun i => len - i) (fun i => i + 1) 0 ⟨Nat.zero_le _, fun j hj => absurd hj (by omega)⟩ (fun i hp => of_eq (r49 mac own q f b len cap l a i _ _ _ _) ?_))
  obtain ⟨hi, hp⟩ := hp
  refine bif_of o1 ?_
  rcases bTF (ilt (i : Int) (len : Int)) with hc | hc
  · have hlt : i < len := of_ilt hc
    have b1 : (!b) = true := by
      cases b
      · rfl
      · have : len = 0 := Nat.eq_of_beq_eq_true o1
        omega
    have b2 := rok0 (i := i) (m := l.length) (by omega)
    rw [Bool.and_true] at b2
    have hg : (l.take len).getD i (rz NF) = l.getD i (rz NF) := getD_take _ _ _ _ hlt
    refine bifT hc (bif_of (and_t b1 (inRn hlt (by omega))) (bif_of (and_t b1 b2) ?_))
    rcases bTF ((l.getD i (rz NF)).fst == a) with he | he
    · obtain ⟨g1, g2⟩ := fnd_eq hs (i := i) (by omega) (show ((l.take len).getD i (rz NF)).1 = a by rw [hg]; exact eq_of_beq he)
      refine bifT he ⟨g1, by rw [g2], ?_⟩
      repeat' (first | exact rfl | exact trivial | apply And.intro)
    · refine bifF he (bif_of (inI_iff.2 (by omega)) ⟨⟨⟨by omega, fun j hj => ?_⟩, by omega⟩, ?_⟩)
      · rcases Nat.lt_or_eq_of_le (Nat.le_of_lt_succ hj) with q | rfl
        · exact hp j q
        · rw [hg]; exact beq_eq_false_iff_ne.1 he
      · repeat' (first | exact rfl | exact trivial | apply And.intro)
  · have hge : i = len := by have := of_nilt hc; omega
    subst hge
    refine bifF hc ⟨rfl, fnd_no fun j hj => hp j (by omega), ?_⟩
    repeat' (first | exact rfl | exact trivial | apply And.intro)
def cFindD : List SV → Mm → (SV → Mm → Prop) → Prop
  | [.ptr k off, .w32 a], M, K => onT M k off fun m o q f s j => vsome (sortB s.L) (putT M k j m o q f s (K (.i (fnI a s.L))))
  | _, _, _ => False
theorem findD_ok : COk Tryd.prog G 49 cFindD := by
  intro args M K h
  unfold cFindD at h
  split at h
  · rename_i k off a
    obtain ⟨m, o, q, f, s, j, hk, hj, hne, rfl, hok, h⟩ := onT_ok h
    obtain ⟨hs, h⟩ := vsome_iff.1 h
    obtain ⟨b, len, cap, l⟩ := s
    refine Spec.imp (tab_eff (Q := fun r s' => r = .i (fnI a (TS.L ⟨b, len, cap, l⟩)) ∧ s' = ⟨b, len, cap, l⟩) rfl rfl (vf_ok e0_ok mixed (loop49 m o q f b len cap l a hok hs) (of_eq (v49 m o q f ⟨b, len, cap, l⟩ a _ _ _ (fun r M1 => r = .i (fnI a (TS.L ⟨b, len, cap, l⟩)) ∧ M1 = M0T (pT m o q f) ⟨b, len, cap, l⟩)) ?_)) (fun r M1 h => ?_) hk hj hne) ?_
    · refine ⟨rfl, rfl, rfl, rfl, ⟨rfl, rfl⟩, ⟨rfl, rfl⟩, ⟨rfl, rfl⟩, fun hn => ⟨?_, rfl⟩, fun hy => ⟨?_, rfl⟩⟩
      · unfold fnI TS.L; rw [hn]; rfl
      · unfold fnI TS.L; rw [hy]; rfl
    · obtain ⟨rfl, rfl⟩ := h
      exact ⟨⟨b, len, cap, l⟩, 2, rfl, ⟨rfl, rfl⟩, Nat.le_refl _, rfl, rfl, ⟨_, rfl⟩, rfl⟩
    · rintro r M' ⟨s', ⟨rfl, rfl⟩, rfl⟩
      rw [putT_eq] at h
      exact h
  · exact h.elim
end Go.Proofs.YtedcileokcbohaaDoor
