/-
  flow: FlowWhole's rounds keep what it says. No statement is proved here.
-/
import Derived.Test.YtkjfecdpakhggaaFwC
namespace Go.Proofs.Ytkjfecdpakhggaa
open Go.RowKit
set_option linter.unusedVariables false
set_option linter.unusedSimpArgs false
set_option maxRecDepth 100000

theorem rok_p {i m : Nat} (pre : List Value) (h : i < m) : rok pre.length i 2 PF pre m = true := by
  unfold rok
  rw [Nat.sub_self, show Nat.beq 2 PF.length = true from rfl, show Nat.blt 0 2 = true from rfl, show Nat.ble pre.length pre.length = true from by rw [Nat.ble_eq]; exact Nat.le_refl _]
  show Nat.blt (i + 0) m = true
  rw [Nat.blt_eq]; exact h
theorem rok_r {i m : Nat} (pre : List Value) (h : i < m) : rok pre.length i 1 RF pre m = true := by
  unfold rok
  rw [Nat.sub_self, show Nat.beq 1 RF.length = true from rfl, show Nat.blt 0 1 = true from rfl, show Nat.ble pre.length pre.length = true from by rw [Nat.ble_eq]; exact Nat.le_refl _]
  show Nat.blt (i + 0) m = true
  rw [Nat.blt_eq]; exact h
theorem loop2R (pp pr : List Value) (lp : List Pr) (lr : List Rr) (a : BitVec 32) (x : Tx) (len cap rl rc N i : Nat) : LOk Try.prog G (mB2 (pcE pp lp) (rdE pr lr)) 4 (L2R pp pr lp lr a x len cap rl rc N i) := by
  refine LT.add_ok (noL_ok _ _ _ _) fun fr M K h => ?_
  unfold v2R at h
  split at h
  · rename_i rb p lc told A0 n0 fin en _ _ _ _ _ _ _
    obtain ⟨⟨c1, c2, c3, c4, c5⟩, h⟩ := h
    obtain ⟨A, rfl⟩ : ∃ A : Nat, A0 = (A : Int) := ⟨A0.toNat, by omega⟩
    obtain ⟨n, rfl⟩ : ∃ n : Nat, n0 = (n : Int) := ⟨n0.toNat, by omega⟩
    simp only [Int.toNat_natCast] at h
    refine loop_next ewk_ok mixed (noL_ok _ _ _ _) (Nat.zero_le _) (by kernel_rfl) (fun k => kR (i2R pp pr a x len cap rl rc N told i (A : Nat) (n : Nat) fin en) k) (fun k => m4 (pcE pp lp) (rdE pr lr) rb p (mkB lc A (k - A))) (fun k => A ≤ k ∧ k ≤ A + n) (fun k => A + n - k) (fun k => k + 1) A ⟨Nat.le_refl _, by omega⟩ (o := i2R pp pr a x len cap rl rc N told i (A : Nat) (n : Nat) fin en) (M1 := m4 (pcE pp lp) (rdE pr lr) rb p (mkB lc A n)) (fun k hk => of_eq (r2R pp pr lp lr a x len cap rl rc N told i A n fin en rb p (mkB lc A (k - A)) k (mkB lc A (k + 1 - A)) (mkB lc A n) _) ?_) fr M K ?_
    · obtain ⟨k1, k2⟩ := hk
      refine bif_of (inI_iff.2 (by omega)) ?_
      rcases bTF (ilt (k : Int) ((A : Int) + (n : Int))) with hc | hc
      · have hlt : k < A + n := by have := of_ilt hc; omega
        have hl : (mkB lc A (k - A)).length = lc.length := mkB_len _ _ _
        refine bifT hc (bif_of (inRn (by omega)) (bif_of (by rw [rok1 (by omega)]; rfl) (bif_of (inI_iff.2 (by omega)) ⟨⟨⟨by omega, by omega⟩, by show A + n - (k + 1) < A + n - k; omega⟩, rfl, rfl, rfl, rfl, rfl, rfl, rfl, rfl, rfl, rfl, rfl, rfl, rfl, ⟨rfl, rfl⟩, ⟨rfl, rfl⟩, ⟨rfl, rfl⟩, ⟨rfl, congrArg (Cont.recs none fUb []) ?_⟩, trivial⟩)))
        rw [show k + 1 - A = (k - A) + 1 by omega]
        conv => rhs; unfold mkB
        rw [show A + (k - A) = k by omega]
      · have hlt : k = A + n := by have := of_nilt hc; omega
        subst hlt
        exact bifF hc ⟨rfl, rfl, rfl, rfl, rfl, rfl, rfl, rfl, rfl, rfl, rfl, rfl, rfl, ⟨rfl, rfl⟩, ⟨rfl, rfl⟩, ⟨rfl, rfl⟩, ⟨rfl, congrArg (Cont.recs none fUb []) (by rw [show A + n - A = n by omega])⟩, trivial⟩
    · show vLe _ _ _ _ _ (m4 (pcE pp lp) (rdE pr lr) rb p (mkB lc A (A - A))) _
      rw [Nat.sub_self]
      exact h
  · exact h.elim
theorem loop2Z (pp : List Value) (lp : List Pr) (ad : Option Addr) (a : BitVec 32) (x : Tx) (len cap rc N i : Nat) : LOk Try.prog G (mB2 (pcE pp lp) zE) 4 (L2Z pp lp ad a x len cap rc N i) := by
  refine LT.add_ok (noL_ok _ _ _ _) fun fr M K h => ?_
  unfold v2Z at h
  split at h
  · rename_i rb p lc told A0 n0 fin en _ _ _ _ _ _ _
    obtain ⟨⟨c1, c2, c3, c4, c5⟩, h⟩ := h
    obtain ⟨A, rfl⟩ : ∃ A : Nat, A0 = (A : Int) := ⟨A0.toNat, by omega⟩
    obtain ⟨n, rfl⟩ : ∃ n : Nat, n0 = (n : Int) := ⟨n0.toNat, by omega⟩
    simp only [Int.toNat_natCast] at h
    refine loop_next ewk_ok mixed (noL_ok _ _ _ _) (Nat.zero_le _) (by kernel_rfl) (fun k => kR (i2Z pp ad a x len cap rc N told i (A : Nat) (n : Nat) fin en) k) (fun k => m4 (pcE pp lp) zE rb p (mkB lc A (k - A))) (fun k => A ≤ k ∧ k ≤ A + n) (fun k => A + n - k) (fun k => k + 1) A ⟨Nat.le_refl _, by omega⟩ (o := i2Z pp ad a x len cap rc N told i (A : Nat) (n : Nat) fin en) (M1 := m4 (pcE pp lp) zE rb p (mkB lc A n)) (fun k hk => of_eq (r2Z pp lp ad a x len cap rc N told i A n fin en rb p (mkB lc A (k - A)) k (mkB lc A (k + 1 - A)) (mkB lc A n) _) ?_) fr M K ?_
    · obtain ⟨k1, k2⟩ := hk
      refine bif_of (inI_iff.2 (by omega)) ?_
      rcases bTF (ilt (k : Int) ((A : Int) + (n : Int))) with hc | hc
      · have hlt : k < A + n := by have := of_ilt hc; omega
        have hl : (mkB lc A (k - A)).length = lc.length := mkB_len _ _ _
        refine bifT hc (bif_of (inRn (by omega)) (bif_of (by rw [rok1 (by omega)]; rfl) (bif_of (inI_iff.2 (by omega)) ⟨⟨⟨by omega, by omega⟩, by show A + n - (k + 1) < A + n - k; omega⟩, rfl, rfl, rfl, rfl, rfl, rfl, rfl, rfl, rfl, rfl, rfl, rfl, rfl, ⟨rfl, rfl⟩, ⟨rfl, rfl⟩, ⟨rfl, rfl⟩, ⟨rfl, congrArg (Cont.recs none fUb []) ?_⟩, trivial⟩)))
        rw [show k + 1 - A = (k - A) + 1 by omega]
        conv => rhs; unfold mkB
        rw [show A + (k - A) = k by omega]
      · have hlt : k = A + n := by have := of_nilt hc; omega
        subst hlt
        exact bifF hc ⟨rfl, rfl, rfl, rfl, rfl, rfl, rfl, rfl, rfl, rfl, rfl, rfl, rfl, ⟨rfl, rfl⟩, ⟨rfl, rfl⟩, ⟨rfl, rfl⟩, ⟨rfl, congrArg (Cont.recs none fUb []) (by rw [show A + n - A = n by omega])⟩, trivial⟩
    · show vLe _ _ _ _ _ (m4 (pcE pp lp) zE rb p (mkB lc A (A - A))) _
      rw [Nat.sub_self]
      exact h
  · exact h.elim
theorem bif3 {c nz e : Bool} {D : Prop} (hnz : nz = true) (he : c = true → e = true) (hD : D) : bif c then bif nz then bif bif true then !e else false then False else D else False else D := by
  cases c
  · exact hD
  · rw [hnz, he rfl]; exact hD
theorem at_eq (r : BitVec 16) (T : Nat) : (((r.toNat : Nat) : Int).tmod (((T : Nat) : Int) + 1)) = ((r.toNat % (T + 1) : Nat) : Int) := by
  rw [Int.tmod_eq_emod_of_nonneg (by omega)]
  exact (Int.natCast_emod _ _).symm
theorem nn_eq (r : BitVec 16) (B : Nat) : (bif ilt ((B : Nat) : Int) (((r.toNat : Nat) : Int).tmod 200) then ((B : Nat) : Int) else ((r.toNat : Nat) : Int).tmod 200) = ((min (r.toNat % 200) B : Nat) : Int) := by
  have e : ((r.toNat : Nat) : Int).tmod 200 = ((r.toNat % 200 : Nat) : Int) := by
    rw [Int.tmod_eq_emod_of_nonneg (by omega)]; omega
  rw [e, ilt_eq]
  by_cases g : ((B : Nat) : Int) < ((r.toNat % 200 : Nat) : Int)
  · rw [decide_eq_true g, cond_true]; omega
  · rw [decide_eq_false g, cond_false]; omega
theorem round4R (pp pr : List Value) (lp : List Pr) (lr : List Rr) (a : BitVec 32) (x : Tx) (len cap rl rc N : Nat) (told : Tx) (i : Nat) (rb : Nat) (p : QuP) (lc : List Ub) (hN : N = x.length + 1) (hx : x.length ≤ 1000) (h100 : len ≤ 100) (hll : len ≤ lp.length) (hrl : rl ≤ 100) (hrr : rl ≤ lr.length) (hp : PW4 a x len ⟨i, p, lc, told⟩) :
    frK 196 (i4R pp pr a x len cap rl rc N told i) fun fr => vround Try.prog EWk (L2R pp pr lp lr a x len cap rl rc N i) 4 0 fr (m4 (pcE pp lp) (rdE pr lr) rb p lc) (Kp (mB2 (pcE pp lp) (rdE pr lr)) 0 196 (sel4 i) (fun st' => PW4 a x len st' ∧ len - st'.i < len - i) (fun st => i4R pp pr a x len cap rl rc N st.told st.i) (fun st => m4 (pcE pp lp) (rdE pr lr) rb st.p st.lc) (i = len) (i4R pp pr a x len cap rl rc N told i) (m4 (pcE pp lp) (rdE pr lr) rb p lc)) := by
  obtain ⟨⟨hi, htl⟩, q, NN, hq, hw⟩ := hp
  replace hi : i ≤ len := hi
  replace htl : told.length ≤ 1000 := htl
  replace hq : PQa p q := hq
  replace hw : WI a x q lc told NN := hw
  refine of_eq (r4R pp pr lp lr a x len cap rl rc N told i rb p lc _ _) ?_
  rcases bTF (ilt (i : Int) (len : Int)) with hc | hc
  rotate_left
  · exact bifF hc ⟨rfl, (by have := of_nilt hc; omega), rfl, rfl, rfl, rfl, rfl, rfl, rfl, rfl, ⟨rfl, rfl⟩, ⟨rfl, rfl⟩, ⟨rfl, rfl⟩, ⟨rfl, rfl⟩, trivial⟩
  have hlt : i < len := by have := of_ilt hc; omega
  have hlen := hw.len
  have hI : inI ((i : Int) + 1) = true := inI_iff.2 (by omega)
  generalize lp.getD (i + (pp.length - pp.length) / 2) (rz PF) = r
  rw [at_eq r.fst x.length]
  have hA : r.fst.toNat % (x.length + 1) ≤ x.length := by have := Nat.mod_lt r.fst.toNat (show 0 < x.length + 1 by omega); omega
  generalize r.fst.toNat % (x.length + 1) = A at hA ⊢
  rw [show ((x.length : Nat) : Int) - ((A : Nat) : Int) = ((x.length - A : Nat) : Int) by omega, nn_eq r.snd.fst (x.length - A)]
  have hn : min (r.snd.fst.toNat % 200) (x.length - A) ≤ x.length - A := Nat.min_le_right _ _
  generalize min (r.snd.fst.toNat % 200) (x.length - A) = n at hn ⊢
  have hsum : ((A : Nat) : Int) + ((n : Nat) : Int) = ((A + n : Nat) : Int) := by omega
  have hfin : (((A + n : Nat) : Int) == ((x.length : Nat) : Int)) = decide (A + n = x.length) := by
    rw [Bool.eq_iff_iff]; simp only [beq_iff_eq, decide_eq_true_eq]; omega
  rw [hsum, hfin, ofI, Int.toNat_natCast, Int.toNat_natCast, Int.toNat_natCast]
  have hile : (ile ((A : Nat) : Int) ((A + n : Nat) : Int) && ile ((A + n : Nat) : Int) ((x.length : Nat) : Int)) = true := by
    rw [ile_eq, ile_eq, decide_eq_true (by omega), decide_eq_true (by omega)]; rfl
  have hIs : inI ((A + n : Nat) : Int) = true := inI_iff.2 (by omega)
  refine bifT hc (bif_of (inRn hlt) (bif_of (rok_p pp (by omega)) (bif_of (inI_iff.2 (by omega)) (bif_of (inRn hlt) (bif_of (rok_p pp (by omega)) (bif_of (inI_iff.2 (by omega)) (bif_of hIs (bif_of hq.nz (bif_of hIs (bif_of hile ⟨⟨q, hq⟩, fun q' p' h1 hp' => ?_⟩))))))))))
  obtain rfl := hq.uniq h1
  obtain ⟨⟨N', hw'⟩, hed⟩ := hw.put hq.ok hx (show A + n ≤ x.length by omega) (fin := decide (A + n = x.length)) rfl
  refine ⟨rfl, ⟨by omega, by omega, by omega, by omega, by omega⟩, rfl, rfl, rfl, rfl, rfl, rfl, rfl, rfl, rfl, rfl, rfl, rfl, rfl, ⟨rfl, rfl⟩, ⟨rfl, rfl⟩, ⟨rfl, rfl⟩, ⟨rfl, rfl⟩, ?_⟩
  have hml : (mkB lc A n).length = lc.length := mkB_len _ _ _
  refine bif_of (inRn (by omega)) (bif_of (rok1 (by omega)) ?_)
  generalize hq1 : q.put (a + BitVec.ofNat 32 A) (List.drop A (List.take (A + n) x)) (decide (A + n = x.length)) = q1 at hp' hw' hed
  have hpe : p.ed = true → q1.ed = true := fun he => hed (hq.ed.symm.trans he)
  have hlv : ∀ v, (isB (mkB lc A n) x.length || decide (A + n = x.length)) = v → (mkB lc A n).set x.length (v, ()) = lcN lc x.length A n (decide (A + n = x.length)) := fun v hv => by unfold lcN; rw [hv]
  rcases bTF ((mkB lc A n).getD x.length (rz fUb)).fst with hb | hb
  · refine bifT hb (bif_of (inRn (by omega)) (bif_of (by rw [rok1 (by omega)]; rfl) ?_))
    rw [hlv true (by unfold isB; rw [hb]; rfl)]
    rcases bTF (ilt (i : Int) (rl : Int)) with hr | hr
    · have hrlt : i < rl := by have := of_ilt hr; omega
      refine bifT hr (bif_of (inRn hrlt) (bif_of (rok_r pr (by omega)) ⟨⟨_, hp'⟩, fun q2 p2 h2 hp2 => ?_⟩))
      obtain rfl := hp'.uniq h2
      have hw2 := hw'.read (((lr.getD (i + (pr.length - pr.length) / 1) (rz RF)).fst.toNat : Nat) : Int)
      have htl2 := hw2.rdl
      have hnt2 := hw2.nT
      rw [List.length_append] at htl2
      refine bif_of (by rw [ile_eq]; exact decide_eq_true (by omega)) (bif3 hp2.nz (fun he => by rw [hp2.ed]; exact hpe he) (bif_of hI ⟨⟨⟨⟨hlt, by show (told ++ _).length ≤ 1000; rw [List.length_append]; omega⟩, _, N', hp2, hw2⟩, by show len - (i + 1) < len - i; omega⟩, rfl, rfl, rfl, rfl, rfl, rfl, rfl, rfl, ⟨rfl, rfl⟩, ⟨rfl, rfl⟩, ⟨rfl, rfl⟩, ⟨rfl, rfl⟩, trivial⟩))
    · exact bifF hr (bif3 hp'.nz (fun he => by rw [hp'.ed]; exact hpe he) (bif_of hI ⟨⟨⟨⟨hlt, htl⟩, _, N', hp', hw'⟩, by show len - (i + 1) < len - i; omega⟩, rfl, rfl, rfl, rfl, rfl, rfl, rfl, rfl, ⟨rfl, rfl⟩, ⟨rfl, rfl⟩, ⟨rfl, rfl⟩, ⟨rfl, rfl⟩, trivial⟩))
  · refine bifF hb (bif_of (inRn (by omega)) (bif_of (by rw [rok1 (by omega)]; rfl) ?_))
    rw [hlv (bif false then true else decide (A + n = x.length)) (by unfold isB; rw [hb]; rfl)]
    rcases bTF (ilt (i : Int) (rl : Int)) with hr | hr
    · have hrlt : i < rl := by have := of_ilt hr; omega
      refine bifT hr (bif_of (inRn hrlt) (bif_of (rok_r pr (by omega)) ⟨⟨_, hp'⟩, fun q2 p2 h2 hp2 => ?_⟩))
      obtain rfl := hp'.uniq h2
      have hw2 := hw'.read (((lr.getD (i + (pr.length - pr.length) / 1) (rz RF)).fst.toNat : Nat) : Int)
      have htl2 := hw2.rdl
      have hnt2 := hw2.nT
      rw [List.length_append] at htl2
      refine bif_of (by rw [ile_eq]; exact decide_eq_true (by omega)) (bif3 hp2.nz (fun he => by rw [hp2.ed]; exact hpe he) (bif_of hI ⟨⟨⟨⟨hlt, by show (told ++ _).length ≤ 1000; rw [List.length_append]; omega⟩, _, N', hp2, hw2⟩, by show len - (i + 1) < len - i; omega⟩, rfl, rfl, rfl, rfl, rfl, rfl, rfl, rfl, ⟨rfl, rfl⟩, ⟨rfl, rfl⟩, ⟨rfl, rfl⟩, ⟨rfl, rfl⟩, trivial⟩))
    · exact bifF hr (bif3 hp'.nz (fun he => by rw [hp'.ed]; exact hpe he) (bif_of hI ⟨⟨⟨⟨hlt, htl⟩, _, N', hp', hw'⟩, by show len - (i + 1) < len - i; omega⟩, rfl, rfl, rfl, rfl, rfl, rfl, rfl, rfl, ⟨rfl, rfl⟩, ⟨rfl, rfl⟩, ⟨rfl, rfl⟩, ⟨rfl, rfl⟩, trivial⟩))
theorem round4Z (pp : List Value) (lp : List Pr) (ad : Option Addr) (a : BitVec 32) (x : Tx) (len cap rc N : Nat) (told : Tx) (i : Nat) (rb : Nat) (p : QuP) (lc : List Ub) (hN : N = x.length + 1) (hx : x.length ≤ 1000) (h100 : len ≤ 100) (hll : len ≤ lp.length) (hp : PW4 a x len ⟨i, p, lc, told⟩) :
    frK 196 (i4Z pp ad a x len cap rc N told i) fun fr => vround Try.prog EWk (L2Z pp lp ad a x len cap rc N i) 4 0 fr (m4 (pcE pp lp) zE rb p lc) (Kp (mB2 (pcE pp lp) zE) 0 196 (sel4 i) (fun st' => PW4 a x len st' ∧ len - st'.i < len - i) (fun st => i4Z pp ad a x len cap rc N st.told st.i) (fun st => m4 (pcE pp lp) zE rb st.p st.lc) (i = len) (i4Z pp ad a x len cap rc N told i) (m4 (pcE pp lp) zE rb p lc)) := by
  obtain ⟨⟨hi, htl⟩, q, NN, hq, hw⟩ := hp
  replace hi : i ≤ len := hi
  replace htl : told.length ≤ 1000 := htl
  replace hq : PQa p q := hq
  replace hw : WI a x q lc told NN := hw
  refine of_eq (r4Z pp lp ad a x len cap rc N told i rb p lc _ _) ?_
  rcases bTF (ilt (i : Int) (len : Int)) with hc | hc
  rotate_left
  · exact bifF hc ⟨rfl, (by have := of_nilt hc; omega), rfl, rfl, rfl, rfl, rfl, rfl, rfl, rfl, ⟨rfl, rfl⟩, ⟨rfl, rfl⟩, ⟨rfl, rfl⟩, ⟨rfl, rfl⟩, trivial⟩
  have hlt : i < len := by have := of_ilt hc; omega
  have hlen := hw.len
  have hI : inI ((i : Int) + 1) = true := inI_iff.2 (by omega)
  generalize lp.getD (i + (pp.length - pp.length) / 2) (rz PF) = r
  rw [at_eq r.fst x.length]
  have hA : r.fst.toNat % (x.length + 1) ≤ x.length := by have := Nat.mod_lt r.fst.toNat (show 0 < x.length + 1 by omega); omega
  generalize r.fst.toNat % (x.length + 1) = A at hA ⊢
  rw [show ((x.length : Nat) : Int) - ((A : Nat) : Int) = ((x.length - A : Nat) : Int) by omega, nn_eq r.snd.fst (x.length - A)]
  have hn : min (r.snd.fst.toNat % 200) (x.length - A) ≤ x.length - A := Nat.min_le_right _ _
  generalize min (r.snd.fst.toNat % 200) (x.length - A) = n at hn ⊢
  have hsum : ((A : Nat) : Int) + ((n : Nat) : Int) = ((A + n : Nat) : Int) := by omega
  have hfin : (((A + n : Nat) : Int) == ((x.length : Nat) : Int)) = decide (A + n = x.length) := by
    rw [Bool.eq_iff_iff]; simp only [beq_iff_eq, decide_eq_true_eq]; omega
  rw [hsum, hfin, ofI, Int.toNat_natCast, Int.toNat_natCast, Int.toNat_natCast]
  have hile : (ile ((A : Nat) : Int) ((A + n : Nat) : Int) && ile ((A + n : Nat) : Int) ((x.length : Nat) : Int)) = true := by
    rw [ile_eq, ile_eq, decide_eq_true (by omega), decide_eq_true (by omega)]; rfl
  have hIs : inI ((A + n : Nat) : Int) = true := inI_iff.2 (by omega)
  refine bifT hc (bif_of (inRn hlt) (bif_of (rok_p pp (by omega)) (bif_of (inI_iff.2 (by omega)) (bif_of (inRn hlt) (bif_of (rok_p pp (by omega)) (bif_of (inI_iff.2 (by omega)) (bif_of hIs (bif_of hq.nz (bif_of hIs (bif_of hile ⟨⟨q, hq⟩, fun q' p' h1 hp' => ?_⟩))))))))))
  obtain rfl := hq.uniq h1
  obtain ⟨⟨N', hw'⟩, hed⟩ := hw.put hq.ok hx (show A + n ≤ x.length by omega) (fin := decide (A + n = x.length)) rfl
  refine ⟨rfl, ⟨by omega, by omega, by omega, by omega, by omega⟩, rfl, rfl, rfl, rfl, rfl, rfl, rfl, rfl, rfl, rfl, rfl, rfl, rfl, ⟨rfl, rfl⟩, ⟨rfl, rfl⟩, ⟨rfl, rfl⟩, ⟨rfl, rfl⟩, ?_⟩
  have hml : (mkB lc A n).length = lc.length := mkB_len _ _ _
  refine bif_of (inRn (by omega)) (bif_of (rok1 (by omega)) ?_)
  generalize hq1 : q.put (a + BitVec.ofNat 32 A) (List.drop A (List.take (A + n) x)) (decide (A + n = x.length)) = q1 at hp' hw' hed
  have hpe : p.ed = true → q1.ed = true := fun he => hed (hq.ed.symm.trans he)
  have hlv : ∀ v, (isB (mkB lc A n) x.length || decide (A + n = x.length)) = v → (mkB lc A n).set x.length (v, ()) = lcN lc x.length A n (decide (A + n = x.length)) := fun v hv => by unfold lcN; rw [hv]
  rcases bTF ((mkB lc A n).getD x.length (rz fUb)).fst with hb | hb
  · refine bifT hb (bif_of (inRn (by omega)) (bif_of (by rw [rok1 (by omega)]; rfl) ?_))
    rw [hlv true (by unfold isB; rw [hb]; rfl)]
    exact bif3 hp'.nz (fun he => by rw [hp'.ed]; exact hpe he) (bif_of hI ⟨⟨⟨⟨hlt, htl⟩, _, N', hp', hw'⟩, by show len - (i + 1) < len - i; omega⟩, rfl, rfl, rfl, rfl, rfl, rfl, rfl, rfl, ⟨rfl, rfl⟩, ⟨rfl, rfl⟩, ⟨rfl, rfl⟩, ⟨rfl, rfl⟩, trivial⟩)
  · refine bifF hb (bif_of (inRn (by omega)) (bif_of (by rw [rok1 (by omega)]; rfl) ?_))
    rw [hlv (bif false then true else decide (A + n = x.length)) (by unfold isB; rw [hb]; rfl)]
    exact bif3 hp'.nz (fun he => by rw [hp'.ed]; exact hpe he) (bif_of hI ⟨⟨⟨⟨hlt, htl⟩, _, N', hp', hw'⟩, by show len - (i + 1) < len - i; omega⟩, rfl, rfl, rfl, rfl, rfl, rfl, rfl, rfl, ⟨rfl, rfl⟩, ⟨rfl, rfl⟩, ⟨rfl, rfl⟩, ⟨rfl, rfl⟩, trivial⟩)
end Go.Proofs.Ytkjfecdpakhggaa
