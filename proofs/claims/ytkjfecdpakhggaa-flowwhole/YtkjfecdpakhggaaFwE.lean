/-
  flow: the law FlowWhole answers true. No statement is proved here.
-/
import Derived.Test.YtkjfecdpakhggaaFwD
namespace Go.Proofs.Ytkjfecdpakhggaa
open Go.RowKit
set_option linter.unusedVariables false
set_option linter.unusedSimpArgs false
set_option maxRecDepth 100000

theorem loop5n (eP eR : Ent) (hP : ∀ n, eP.c.wf n = true) (hR : ∀ n, eR.c.wf n = true) (a : BitVec 32) (x : Tx) (N : Nat) : ∀ fr M K, v5n eP eR a x N fr M K → Wp Try.prog G (mB2 eP eR) (loopOf Try.prog 4 4) fr M K := by
  intro fr M K h
  unfold v5n at h
  split at h
  · rename_i rb p lc told _ _ _
    obtain ⟨⟨c1, c2, c3⟩, h⟩ := h
    obtain ⟨C, hC⟩ := nx_ex lc x.length
    replace h := h C hC
    have hle := hC.le
    refine loop_next ewk_ok mixed (noL_ok _ _ _ _) (Nat.zero_le _) (by kernel_rfl) (fun n => i5n a x N told n) (fun n => m4 eP eR rb p lc) (fun n => n ≤ C) (fun n => C - n) (fun n => n + 1) 0 (Nat.zero_le _) (o := i5n a x N told C) (M1 := m4 eP eR rb p lc) (fun n hn => of_eq (r5n eP eR a x N told n C rb p lc _) ?_) fr M K h
    replace hn : n ≤ C := hn
    have w1 := hP (List.length (m4 eP eR rb p lc))
    have w2 := hR (List.length (m4 eP eR rb p lc))
    have done : n = C → (4 = 4 ∧ SV.w32 a = SV.w32 a ∧ SV.s x = SV.s x ∧ SV.ptr 2 0 = SV.ptr 2 0 ∧ SV.rs 3 0 0 1 N N = SV.rs 3 0 0 1 N N ∧ SV.s told = SV.s told ∧ SV.i (n : Int) = SV.i (C : Int) ∧ (eP.1 = eP.1 ∧ eP.2 = eP.2) ∧ bif Cont.wf (List.length (m4 eP eR rb p lc)) eP.2 then (eR.1 = eR.1 ∧ eR.2 = eR.2) ∧ bif Cont.wf (List.length (m4 eP eR rb p lc)) eR.2 then (true = true ∧ Cont.res (stP rb p) = Cont.res (stP rb p)) ∧ (true = true ∧ Cont.recs none fUb [] lc = Cont.recs none fUb [] lc) ∧ True else False else False) := fun e => by
      subst e
      exact ⟨rfl, rfl, rfl, rfl, rfl, rfl, rfl, ⟨rfl, rfl⟩, bif_of w1 ⟨⟨rfl, rfl⟩, bif_of w2 ⟨⟨rfl, rfl⟩, ⟨rfl, rfl⟩, trivial⟩⟩⟩
    rcases bTF (ilt (n : Int) ((x.length : Nat) : Int)) with hc | hc
    · have hlt : n < x.length := by have := of_ilt hc; omega
      refine bifT hc (bif_of (inRn (by omega)) (bif_of (rok1 (by omega)) ?_))
      rcases bTF ((lc.getD n (rz fUb)).fst) with hb | hb
      · have hnC : n < C := by
          rcases Nat.lt_or_ge n C with g | g
          · exact g
          · have : n = C := by omega
            subst this
            rcases hC.stop with q | q
            · omega
            · have q : (lc.getD n (rz fUb)).fst = false := q
              rw [hb] at q; cases q
        exact bifT hb (bif_of (inI_iff.2 (by omega)) ⟨⟨hnC, by show C - (n + 1) < C - n; omega⟩, rfl, rfl, rfl, rfl, rfl, rfl, ⟨rfl, rfl⟩, bif_of w1 ⟨⟨rfl, rfl⟩, bif_of w2 ⟨⟨rfl, rfl⟩, ⟨rfl, rfl⟩, trivial⟩⟩⟩)
      · refine bifF hb (done ?_)
        rcases Nat.lt_or_ge n C with g | g
        · have q : (lc.getD n (rz fUb)).fst = true := hC.all n g
          rw [hb] at q; cases q
        · omega
    · exact bifF hc (done (by have := of_nilt hc; omega))
  · exact h.elim
theorem fin_lem {a qa : BitVec 32} {x : Tx} {C N n : Nat} {lct ed nz tol : Bool} {KT KF : Prop} (hN : N = x.length + 1) (hn : n = x.length + 1) (hC : C ≤ x.length) (htol : tol = true) (hnz : nz = true) (hed : ed = (decide (C = x.length) && lct)) (hqa : qa = a + BitVec.ofNat 32 (C + if ed = true then 1 else 0)) (hKT : KT) :
    bif ((C : Int) == ((x.length : Nat) : Int)) then bif inR ((x.length : Nat) : Int) N then bif rok 0 x.length 1 fUb [] n then bif bif true then lct else false then bif ile (C : Int) ((x.length : Nat) : Int) then bif tol then bif nz then bif bif true then bif false then !(ed == bif true then lct else false) else ed == bif true then lct else false else false then bif nz then bif bif true then qa == a + BitVec.ofInt 32 (C : Int) + BitVec.ofInt 32 1 else false then KT else KF else False else KF else False else KF else False else bif ile (C : Int) ((x.length : Nat) : Int) then bif tol then bif nz then bif bif true then bif false then !(ed == bif true then lct else false) else ed == bif true then lct else false else false then bif nz then bif bif true then qa == a + BitVec.ofInt 32 (C : Int) else false then KT else KF else False else KF else False else KF else False else False else False else bif ile (C : Int) ((x.length : Nat) : Int) then bif tol then bif nz then bif bif true then bif false then !(ed == false) else ed == false else false then bif nz then bif bif true then qa == a + BitVec.ofInt 32 (C : Int) else false then KT else KF else False else KF else False else KF else False := by
  have hile : ile (C : Int) ((x.length : Nat) : Int) = true := by rw [ile_eq]; exact decide_eq_true (by omega)
  by_cases c : C = x.length
  · have e : ((C : Int) == ((x.length : Nat) : Int)) = true := by rw [c]; simp
    refine bifT e (bif_of (inRn (by omega)) (bif_of (rok1 (by omega)) ?_))
    rw [decide_eq_true c, Bool.true_and] at hed
    subst hed
    cases ed
    · rw [if_neg (by simp), Nat.add_zero] at hqa
      refine bifF rfl (bif_of hile (bifT htol (bif_of hnz (bifT rfl (bif_of hnz (bifT ?_ hKT))))))
      show (qa == a + BitVec.ofInt 32 (C : Int)) = true
      rw [ofI, hqa]; simp
    · rw [if_pos rfl] at hqa
      refine bifT rfl (bif_of hile (bifT htol (bif_of hnz (bifT rfl (bif_of hnz (bifT ?_ hKT))))))
      show (qa == a + BitVec.ofInt 32 (C : Int) + BitVec.ofInt 32 1) = true
      rw [ofI, hqa, bv_one]; simp
  · have e : ((C : Int) == ((x.length : Nat) : Int)) = false := by
      rw [beq_eq_false_iff_ne]; omega
    rw [decide_eq_false c, Bool.false_and] at hed
    subst hed
    rw [if_neg (by simp), Nat.add_zero] at hqa
    refine bifF e (bif_of hile (bifT htol (bif_of hnz (bifT rfl (bif_of hnz (bifT ?_ hKT))))))
    show (qa == a + BitVec.ofInt 32 (C : Int)) = true
    rw [ofI, hqa]; simp
theorem nx_N {a : BitVec 32} {x : Tx} {q : Qa} {lc : List Ub} {told : Tx} {N C : Nat} (h : WI a x q lc told N) (ok : q.Ok) (hC : Nx lc x.length C) : C = N := by
  have h1 := hC.le
  have h2 := h.nT
  rcases Nat.lt_trichotomy C N with g | g | g
  · rcases hC.stop with s | s
    · omega
    · rw [h.all C g] at s; cases s
  · exact g
  · have := h.stop ok (by omega)
    rw [hC.all N g] at this; cases this
/-- All is told at the end. -/
theorem end_told {a : BitVec 32} {x : Tx} {q : Qa} {lc : List Ub} {told : Tx} {N : Nat} (h : WI a x q lc told N) (ok : q.Ok) (hx : x.length ≤ 1000) : told ++ q.told 2000 = x.take N ∧ (told.length + (q.told 2000).length ≤ 1000) := by
  have h1 := h.rdl
  have h2 := h.nT
  have e : q.told 2000 = q.rd := by
    unfold Qa.told
    refine List.take_of_length_le ?_
    unfold rdN
    omega
  rw [e]
  exact ⟨h.txt, by omega⟩
end Go.Proofs.Ytkjfecdpakhggaa
namespace Go.Proofs.Ytkjfecdpakhggaa
open Go.RowKit
set_option linter.unusedVariables false
set_option linter.unusedSimpArgs false
set_option maxRecDepth 100000

theorem loop0R (pp pr : List Value) (lp : List Pr) (lr : List Rr) (a : BitVec 32) (x : Tx) (len cap rl rc N : Nat) : ∀ fr M K, v0R pp pr lp lr a x len cap rl rc N fr M K → Wp Try.prog G (mB2 (pcE pp lp) (rdE pr lr)) (loopOf Try.prog 4 0) fr M K := by
  intro fr M K h
  unfold v0R at h
  split at h
  · rename_i rb p lc _ _
    obtain ⟨⟨hp, rfl, rfl, c3, c4, c5, c6, c7⟩, h⟩ := h
    obtain ⟨hle, hK⟩ := vLe_ok h
    refine loop_pick ewk_ok mixed (Nat.zero_le _) (by kernel_rfl) (fun st : S4 => i4R pp pr a x len cap rl rc (x.length + 1) st.told st.i) (fun st => m4 (pcE pp lp) (rdE pr lr) rb st.p st.lc) (PW4 a x len) (fun st => len - st.i) (fun st => sel4 st.i) (fun st => st.i = len) (fun st => i4R pp pr a x len cap rl rc (x.length + 1) st.told st.i) (fun st => m4 (pcE pp lp) (rdE pr lr) rb st.p st.lc) ⟨0, p, List.replicate (x.length + 1) (rz fUb), []⟩ ⟨⟨Nat.zero_le _, Nat.zero_le _⟩, _, _, hp, WI.new a x⟩ (fun st => L2R pp pr lp lr a x len cap rl rc (x.length + 1) st.i) (fun st _ => loop2R pp pr lp lr a x len cap rl rc (x.length + 1) st.i) (fun st hst => round4R pp pr lp lr a x len cap rl rc (x.length + 1) st.told st.i rb st.p st.lc rfl c3 c4 c5 c6 c7 hst) hle (fun st hst hq => ?_)
    obtain ⟨i, p', lc', told'⟩ := st
    obtain rfl : i = len := hq
    have h2 := hK p' lc' told' hst
    rw [frK_eq] at h2
    exact h2
  · exact h.elim
theorem loop0Z (pp : List Value) (lp : List Pr) (ad : Option Addr) (a : BitVec 32) (x : Tx) (len cap rc N : Nat) : ∀ fr M K, v0Z pp lp ad a x len cap rc N fr M K → Wp Try.prog G (mB2 (pcE pp lp) zE) (loopOf Try.prog 4 0) fr M K := by
  intro fr M K h
  unfold v0Z at h
  split at h
  · rename_i rb p lc _ _
    obtain ⟨⟨hp, rfl, rfl, c3, c4, c5⟩, h⟩ := h
    obtain ⟨hle, hK⟩ := vLe_ok h
    refine loop_pick ewk_ok mixed (Nat.zero_le _) (by kernel_rfl) (fun st : S4 => i4Z pp ad a x len cap rc (x.length + 1) st.told st.i) (fun st => m4 (pcE pp lp) zE rb st.p st.lc) (PW4 a x len) (fun st => len - st.i) (fun st => sel4 st.i) (fun st => st.i = len) (fun st => i4Z pp ad a x len cap rc (x.length + 1) st.told st.i) (fun st => m4 (pcE pp lp) zE rb st.p st.lc) ⟨0, p, List.replicate (x.length + 1) (rz fUb), []⟩ ⟨⟨Nat.zero_le _, Nat.zero_le _⟩, _, _, hp, WI.new a x⟩ (fun st => L2Z pp lp ad a x len cap rc (x.length + 1) st.i) (fun st _ => loop2Z pp lp ad a x len cap rc (x.length + 1) st.i) (fun st hst => round4Z pp lp ad a x len cap rc (x.length + 1) st.told st.i rb st.p st.lc rfl c3 c4 c5 hst) hle (fun st hst hq => ?_)
    obtain ⟨i, p', lc', told'⟩ := st
    obtain rfl : i = len := hq
    have h2 := hK p' lc' told' hst
    rw [frK_eq] at h2
    exact h2
  · exact h.elim
theorem loop0N (eR : Ent) (hR : ∀ n, eR.c.wf n = true) (d : Option Addr) (c : Nat) (a : BitVec 32) (x : Tx) (N : Nat) : ∀ fr M K, v0N eR d c a x N fr M K → Wp Try.prog G (mB2 zE eR) (loopOf Try.prog 4 0) fr M K := by
  intro fr M K h
  unfold v0N at h
  split at h
  · rename_i rb p lc _ _
    exact loop_next ewk_ok mixed (noL_ok _ _ _ _) (Nat.zero_le _) (by kernel_rfl) (fun _ : Nat => i4N d c a x N) (fun _ => m4 zE eR rb p lc) (fun _ => True) (fun _ => 0) (fun i => i) 0 trivial (fun i hp => of_eq (r4N eR d c a x N rb p lc _) ⟨rfl, rfl, rfl, rfl, rfl, rfl, rfl, rfl, ⟨rfl, rfl⟩, ⟨rfl, rfl⟩, bif_of (hR _) ⟨⟨rfl, rfl⟩, ⟨rfl, rfl⟩, trivial⟩⟩) fr M K h
  · exact h.elim
theorem lens {x : Tx} : (((x.length : Nat) : Int) + 1).toNat = x.length + 1 := by omega
theorem law4RR (pp pr : List Value) (lp : List Pr) (lr : List Rr) (a : BitVec 32) (x : Tx) (len cap rl rc : Nat) (hl : len ≤ lp.length) (hr : rl ≤ lr.length) : Spec Try.prog G 4 [.w32 a, .s x, .rs 0 pp.length 0 2 len cap, .rs 1 pr.length 0 1 rl rc] (mB2 (pcE pp lp) (rdE pr lr)) (fun r _ => r = .b true) := by
  refine vf_ok ewk_ok mixed (LT.add_ok (LT.add_ok (noL_ok _ _ _ _) (loop0R pp pr lp lr a x len cap rl rc (x.length + 1))) (loop5n (pcE pp lp) (rdE pr lr) (fun _ => rfl) (fun _ => rfl) a x (x.length + 1))) (of_eq (vRR pp pr lp lr a x len cap rl rc (x.length + 1) _) ?_)
  rw [lens]
  rcases bTF (ilt 1000 ((x.length : Nat) : Int)) with h1 | h1
  · exact bifT h1 rfl
  refine bifF h1 ?_
  rcases bTF (ilt 100 (len : Int)) with h2 | h2
  · exact bifT (c := bif false then true else ilt 100 (len : Int)) h2 rfl
  refine bifF (c := bif false then true else ilt 100 (len : Int)) h2 ?_
  rcases bTF (ilt 100 (rl : Int)) with h3 | h3
  · exact bifT (c := bif false then true else ilt 100 (rl : Int)) h3 rfl
  refine bifF (c := bif false then true else ilt 100 (rl : Int)) h3 fun rb p hp => ?_
  have g1 := of_nilt h1
  have g2 := of_nilt h2
  have g3 := of_nilt h3
  have hx : x.length ≤ 1000 := by omega
  refine bif_of (inI_iff.2 (by omega)) (bif_of (by rw [ile_eq, ile_eq, decide_eq_true (by omega), decide_eq_true (by omega)]; rfl) ⟨rfl, ⟨hp, rfl, rfl, hx, by omega, hl, by omega, hr⟩, rfl, rfl, rfl, rfl, rfl, rfl, rfl, rfl, ⟨rfl, rfl⟩, ⟨rfl, rfl⟩, ⟨rfl, rfl⟩, ⟨rfl, rfl⟩, fun p' lc' told' hst => ?_⟩)
  obtain ⟨⟨-, htl⟩, q, NN, hq, hw⟩ := hst
  replace hq : PQa p' q := hq
  replace hw : WI a x q lc' told' NN := hw
  refine ⟨⟨q, hq⟩, fun q' p2 hu hp2 => ?_⟩
  obtain rfl := hq.uniq hu
  obtain ⟨t1, t2⟩ := end_told hw hq.ok hx
  refine bif_of (by rw [ile_eq]; exact decide_eq_true (by omega)) ⟨rfl, ⟨hw.len, rfl, hx⟩, fun C hC => ⟨rfl, rfl, rfl, rfl, rfl, rfl, ⟨rfl, rfl⟩, ⟨rfl, rfl⟩, ⟨rfl, rfl⟩, ⟨rfl, rfl⟩, ?_⟩⟩
  obtain rfl := nx_N hw hq.ok hC
  exact fin_lem (N := x.length + 1) (n := lc'.length) rfl hw.len hC.le (by rw [t1]; simp) hp2.nz (by rw [hp2.ed]; exact hw.ed) (by rw [hp2.a, hp2.ed]; exact hw.a) rfl
theorem law4RZ (pp : List Value) (lp : List Pr) (ad : Option Addr) (a : BitVec 32) (x : Tx) (len cap rc : Nat) (hl : len ≤ lp.length) : Spec Try.prog G 4 [.w32 a, .s x, .rs 0 pp.length 0 2 len cap, .v (.slice ad 0 rc)] (mB2 (pcE pp lp) zE) (fun r _ => r = .b true) := by
  refine vf_ok ewk_ok mixed (LT.add_ok (LT.add_ok (noL_ok _ _ _ _) (loop0Z pp lp ad a x len cap rc (x.length + 1))) (loop5n (pcE pp lp) zE (fun _ => rfl) (fun _ => rfl) a x (x.length + 1))) (of_eq (vRZ pp lp ad a x len cap rc (x.length + 1) _) ?_)
  rw [lens]
  rcases bTF (ilt 1000 ((x.length : Nat) : Int)) with h1 | h1
  · exact bifT h1 rfl
  refine bifF h1 ?_
  rcases bTF (ilt 100 (len : Int)) with h2 | h2
  · exact bifT (c := bif false then true else ilt 100 (len : Int)) h2 rfl
  refine bifF (c := bif false then true else ilt 100 (len : Int)) h2 fun rb p hp => ?_
  have g1 := of_nilt h1
  have g2 := of_nilt h2
  have hx : x.length ≤ 1000 := by omega
  refine bif_of (inI_iff.2 (by omega)) (bif_of (by rw [ile_eq, ile_eq, decide_eq_true (by omega), decide_eq_true (by omega)]; rfl) ⟨rfl, ⟨hp, rfl, rfl, hx, by omega, hl⟩, rfl, rfl, rfl, rfl, rfl, rfl, rfl, rfl, ⟨rfl, rfl⟩, ⟨rfl, rfl⟩, ⟨rfl, rfl⟩, ⟨rfl, rfl⟩, fun p' lc' told' hst => ?_⟩)
  obtain ⟨⟨-, htl⟩, q, NN, hq, hw⟩ := hst
  replace hq : PQa p' q := hq
  replace hw : WI a x q lc' told' NN := hw
  refine ⟨⟨q, hq⟩, fun q' p2 hu hp2 => ?_⟩
  obtain rfl := hq.uniq hu
  obtain ⟨t1, t2⟩ := end_told hw hq.ok hx
  refine bif_of (by rw [ile_eq]; exact decide_eq_true (by omega)) ⟨rfl, ⟨hw.len, rfl, hx⟩, fun C hC => ⟨rfl, rfl, rfl, rfl, rfl, rfl, ⟨rfl, rfl⟩, ⟨rfl, rfl⟩, ⟨rfl, rfl⟩, ⟨rfl, rfl⟩, ?_⟩⟩
  obtain rfl := nx_N hw hq.ok hC
  exact fin_lem (N := x.length + 1) (n := lc'.length) rfl hw.len hC.le (by rw [t1]; simp) hp2.nz (by rw [hp2.ed]; exact hw.ed) (by rw [hp2.a, hp2.ed]; exact hw.a) rfl
theorem law4ZR (pr : List Value) (lr : List Rr) (d : Option Addr) (c : Nat) (a : BitVec 32) (x : Tx) (rl rc : Nat) : Spec Try.prog G 4 [.w32 a, .s x, .v (.slice d 0 c), .rs 1 pr.length 0 1 rl rc] (mB2 zE (rdE pr lr)) (fun r _ => r = .b true) := by
  refine vf_ok ewk_ok mixed (LT.add_ok (LT.add_ok (noL_ok _ _ _ _) (loop0N (rdE pr lr) (fun _ => rfl) d c a x (x.length + 1))) (loop5n zE (rdE pr lr) (fun _ => rfl) (fun _ => rfl) a x (x.length + 1))) (of_eq (vZR pr lr d c a x rl rc (x.length + 1) _) ?_)
  rw [lens]
  rcases bTF (ilt 1000 ((x.length : Nat) : Int)) with h1 | h1
  · exact bifT h1 rfl
  refine bifF h1 ?_
  rcases bTF (ilt 100 (rl : Int)) with h2 | h2
  · exact bifT (c := bif false then true else ilt 100 (rl : Int)) h2 rfl
  refine bifF (c := bif false then true else ilt 100 (rl : Int)) h2 fun rb p hq => ?_
  have g1 := of_nilt h1
  have hx : x.length ≤ 1000 := by omega
  have hw := WI.new a x
  refine bif_of (inI_iff.2 (by omega)) (bif_of (by rw [ile_eq, ile_eq, decide_eq_true (by omega), decide_eq_true (by omega)]; rfl) ⟨rfl, rfl, rfl, rfl, rfl, rfl, rfl, rfl, ⟨rfl, rfl⟩, ⟨rfl, rfl⟩, ⟨rfl, rfl⟩, ⟨rfl, rfl⟩, ⟨_, hq⟩, fun q' p2 hu hp2 => ?_⟩)
  obtain rfl := hq.uniq hu
  obtain ⟨t1, t2⟩ := end_told hw hq.ok hx
  have t2 : 0 + ((newA a 1024).told 2000).length ≤ 1000 := t2
  refine bif_of (by rw [ile_eq]; exact decide_eq_true (by omega)) ⟨rfl, ⟨hw.len, rfl, hx⟩, fun C hC => ⟨rfl, rfl, rfl, rfl, rfl, rfl, ⟨rfl, rfl⟩, ⟨rfl, rfl⟩, ⟨rfl, rfl⟩, ⟨rfl, rfl⟩, ?_⟩⟩
  obtain rfl := nx_N hw hq.ok hC
  exact fin_lem (N := x.length + 1) (n := (List.replicate (x.length + 1) (rz fUb)).length) rfl hw.len hC.le (by rw [t1]; simp) hp2.nz (by rw [hp2.ed]; exact hw.ed) (by rw [hp2.a, hp2.ed]; exact hw.a) rfl
theorem law4ZZ (d : Option Addr) (c : Nat) (ad : Option Addr) (rc : Nat) (a : BitVec 32) (x : Tx) : Spec Try.prog G 4 [.w32 a, .s x, .v (.slice d 0 c), .v (.slice ad 0 rc)] (mB2 zE zE) (fun r _ => r = .b true) := by
  refine vf_ok ewk_ok mixed (LT.add_ok (LT.add_ok (noL_ok _ _ _ _) (loop0N zE (fun _ => rfl) d c a x (x.length + 1))) (loop5n zE zE (fun _ => rfl) (fun _ => rfl) a x (x.length + 1))) (of_eq (vZZ d c ad rc a x (x.length + 1) _) ?_)
  rw [lens]
  rcases bTF (ilt 1000 ((x.length : Nat) : Int)) with h1 | h1
  · exact bifT h1 rfl
  refine bifF h1 fun rb p hq => ?_
  have g1 := of_nilt h1
  have hx : x.length ≤ 1000 := by omega
  have hw := WI.new a x
  refine bif_of (inI_iff.2 (by omega)) (bif_of (by rw [ile_eq, ile_eq, decide_eq_true (by omega), decide_eq_true (by omega)]; rfl) ⟨rfl, rfl, rfl, rfl, rfl, rfl, rfl, rfl, ⟨rfl, rfl⟩, ⟨rfl, rfl⟩, ⟨rfl, rfl⟩, ⟨rfl, rfl⟩, ⟨_, hq⟩, fun q' p2 hu hp2 => ?_⟩)
  obtain rfl := hq.uniq hu
  obtain ⟨t1, t2⟩ := end_told hw hq.ok hx
  have t2 : 0 + ((newA a 1024).told 2000).length ≤ 1000 := t2
  refine bif_of (by rw [ile_eq]; exact decide_eq_true (by omega)) ⟨rfl, ⟨hw.len, rfl, hx⟩, fun C hC => ⟨rfl, rfl, rfl, rfl, rfl, rfl, ⟨rfl, rfl⟩, ⟨rfl, rfl⟩, ⟨rfl, rfl⟩, ⟨rfl, rfl⟩, ?_⟩⟩
  obtain rfl := nx_N hw hq.ok hC
  exact fin_lem (N := x.length + 1) (n := (List.replicate (x.length + 1) (rz fUb)).length) rfl hw.len hC.le (by rw [t1]; simp) hp2.nz (by rw [hp2.ed]; exact hw.ed) (by rw [hp2.a, hp2.ed]; exact hw.a) rfl
end Go.Proofs.Ytkjfecdpakhggaa
