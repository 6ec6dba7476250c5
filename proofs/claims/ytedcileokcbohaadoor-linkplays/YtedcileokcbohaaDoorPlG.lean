/-
  link: the document's Learn, as a contract. No statement is proved here.
-/
import Derived.Test.YtedcileokcbohaaDoorPlF
namespace Go.Proofs.YtedcileokcbohaaDoor
open Go.RowKit
set_option linter.unusedVariables false
set_option linter.unusedSimpArgs false
set_option maxRecDepth 100000

def outD (p : List SV) (Q : SV → TS → Prop) (r : SV) (M1 : Mm) : Prop := ∃ s' t, r.wf 0 = true ∧ Q r s' ∧ 2 ≤ t ∧ M1[0]? = some e0 ∧ (∃ x, M1[1]? = some ⟨true, .row (p ++ [x])⟩ ∧ ∀ β : Nat → Nat, Proofs.YtedcileokcbohaaDoor.val β x = Proofs.YtedcileokcbohaaDoor.val β (.ns s'.b t 3 s'.len s'.cap)) ∧ (∃ c, M1[2]? = some ⟨true, c⟩) ∧ ∃ c, M1[t]? = some ⟨true, c⟩ ∧ (s'.b = false → c.here = true ∧ (∀ β : Nat → Nat, (recT' s').c.cells β = c.cells β) ∧ (recT' s').c.shp = c.shp)
theorem outD_of {p : List SV} {Q : SV → TS → Prop} {r : SV} {M1 : Mm} (h : outT p Q r M1) : outD p Q r M1 := by
  obtain ⟨s', t, h1, h2, h3, h4, h5, h6, h7⟩ := h
  exact ⟨s', t, h1, h2, h3, h4, ⟨_, h5, fun β => rfl⟩, h6, _, h7, fun hb => ⟨by show (!s'.b) = true; rw [hb]; rfl, fun β => rfl, rfl⟩⟩
theorem outD_recs {p : List SV} {Q : SV → TS → Prop} {r : SV} {M1 : Mm} {sn sc t : Nat} {sl : List Nr} (hr : r.wf 0 = true) (hQ : Q r ⟨false, sn, sc, sl⟩) (ht : 2 ≤ t) (h0 : M1[0]? = some e0) (h1 : M1[1]? = some ⟨true, .row (p ++ [.rs t 0 0 3 sn sc])⟩) (h2 : ∃ c, M1[2]? = some ⟨true, c⟩) (h3 : M1[t]? = some ⟨true, .recs (some 57) NF [] sl⟩) : outD p Q r M1 :=
  ⟨⟨false, sn, sc, sl⟩, t, hr, hQ, ht, h0, ⟨_, h1, fun β => rfl⟩, h2, _, h3, fun _ => ⟨rfl, fun β => rfl, by simp [recT', Cont.shp]⟩⟩
theorem ed1_ok : EnvOk Tryd.prog (ED1 aloneA aloneM) := ⟨PT.add_ok (PT.add_ok t0_ok raloneAddr_ok) ralone_ok, CT.add_ok (CT.add_ok (noC_ok _ _) tidy_ok) findD_ok⟩
def lnLd (q : Int) (f : BitVec 64) (own a : BitVec 32) (m : Tx) (n : BitVec 64) (L : List Nr) : List Nr := bif lnOk own a m n then keepL q f a m n (kept n L) else L
def cLearnD : List SV → Mm → (SV → Mm → Prop) → Prop
  | [.ptr k off, .w32 a, .s m', .w64 n], M, K => onT M k off fun m o q f s j => vsome (sortB s.L && okQ q) (∀ s', okT s' (lnLd q f o a m' n s.L) → putT M k j m o q f s' (K (.i (lnE q o a m' n s.L))))
  | _, _, _ => False
theorem learnD_row (m m' : Tx) (o a : BitVec 32) (q : Int) (f n : BitVec 64) (b : Bool) (len cap : Nat) (l : List Nr) (hok : TS.ok ⟨b, len, cap, l⟩ = true) (hs : sortB (l.take len) = true) (hq : okQ q = true) : vf Tryd.prog (ED1 aloneA aloneM) (L27 (pT m o q f) ⟨b, len, cap, l⟩ (a, m', n + f, ()) (X27 a) QA27 (QS27 a (a, m', n + f, ()))) 27 [.ptr 1 0, .w32 a, .s m', .w64 n] (M0T (pT m o q f) ⟨b, len, cap, l⟩) (outD (pT m o q f) (fun r s' => r = .i (lnE q o a m' n (l.take len)) ∧ okT s' (lnLd q f o a m' n (l.take len)))) := by
  have hq64 : q ≤ 64 := by
    have := okQ_le hq
    rw [ile_eq] at this
    exact of_decide_eq_true this
  refine of_eq (v27 aloneA aloneM (X27 a) QA27 (QS27 a (a, m', n + f, ())) m m' o a q f n b len cap l _) ?_
  have bad : lnOk o a m' n = false → outD (pT m o q f) (fun r s' => r = .i (lnE q o a m' n (l.take len)) ∧ okT s' (lnLd q f o a m' n (l.take len))) (.i 2) (M0T (pT m o q f) ⟨b, len, cap, l⟩) := fun h => by
    refine outD_of ⟨⟨b, len, cap, l⟩, 2, rfl, ⟨?_, hok, ?_⟩, Nat.le_refl _, rfl, rfl, ⟨_, rfl⟩, rfl⟩
    · unfold lnE; rw [h]; rfl
    · unfold lnLd; rw [h]; rfl
  have hB : lnOk o a m' n = (!(MC.ule n) && (aloneA a && (aloneM m' && a != o))) := rfl
  rcases bTF (aloneA a) with a1 | a1
  rotate_left
  · exact bifT (by rw [a1]; rfl) (bad (by rw [hB, a1]; cases MC.ule n <;> rfl))
  refine bifF (by rw [a1]; rfl) ?_
  rcases bTF (aloneM m') with a2 | a2
  rotate_left
  · exact bifT (by rw [a2]; rfl) (bad (by rw [hB, a1, a2]; cases MC.ule n <;> rfl))
  refine bifF (by rw [a2]; rfl) ?_
  rcases bTF (a == o) with a3 | a3
  · exact bifT a3 (bad (by rw [hB, a1, a2]; unfold bne; rw [a3]; cases MC.ule n <;> rfl))
  refine bifF a3 ?_
  rcases bTF (MC.ule n) with a4 | a4
  · exact bifT a4 (bad (by rw [hB, a4]; rfl))
  refine bifF a4 ⟨rfl, bif_of hok fun s1 hs1 => ?_⟩
  have good : lnOk o a m' n = true := by rw [hB, a1, a2, a4]; unfold bne; rw [a3]; rfl
  have eE : lnE q o a m' n (l.take len) = keepE q a (kept n (l.take len)) := by unfold lnE; rw [good]; rfl
  have eL : lnLd q f o a m' n (l.take len) = keepL q f a m' n (kept n (l.take len)) := by unfold lnLd; rw [good]; rfl
  rw [eE, eL]
  replace hs1 : okT s1 (kept n (l.take len)) := hs1
  obtain ⟨k1, k2⟩ := hs1
  have hso : sortB s1.L = true := by rw [k2]; exact sort_kept n hs
  rw [← k2]
  clear k2
  obtain ⟨b1, len1, cap1, l1⟩ := s1
  obtain ⟨o1, o2, o3, o4⟩ := TS.ok_iff.1 k1
  dsimp only at o1 o2 o3 o4
  have hL := TS.L_len k1
  have hTL : TS.L ⟨b1, len1, cap1, l1⟩ = l1.take len1 := rfl
  dsimp only at hL
  have hcl := cntL_le a (TS.L ⟨b1, len1, cap1, l1⟩)
  refine ⟨rfl, bif_of k1 (bif_of hso ?_)⟩
  dsimp only [mkT]
  rcases bTF (isL a (TS.L ⟨b1, len1, cap1, l1⟩)) with hi | hi
  · have hf : fnI a (TS.L ⟨b1, len1, cap1, l1⟩) = ((cntL a (TS.L ⟨b1, len1, cap1, l1⟩) : Nat) : Int) := by unfold fnI; rw [hi]; rfl
    have hlt := is_lt hso hi
    obtain ⟨n1, n2, n3⟩ := nb_of k1 hlt
    have b5 : (rok 0 (cntL a (TS.L ⟨b1, len1, cap1, l1⟩)) 3 NF [] l1.length && true) = true := rok0 n3
    rw [hf, Int.toNat_natCast]
    refine bifT (ile_of (by omega)) (bif_of (and_t n1 (inRn n2 (by omega))) (bif_of (and_t n1 b5) ?_))
    refine outD_of ⟨⟨b1, len1, cap1, l1.set (cntL a (TS.L ⟨b1, len1, cap1, l1⟩)) (a, m', n + f, ())⟩, 5, rfl, ⟨?_, TS.ok_iff.2 ⟨o1, by show (l1.set _ _).length = cap1; rw [List.length_set]; exact o2, o3, o4⟩, ?_⟩, by decide, rfl, rfl, ⟨_, rfl⟩, rfl⟩
    · unfold keepE; rw [hi]; rfl
    · unfold keepL
      rw [hi]
      exact set_take _ _ _ _
  · have hf : fnI a (TS.L ⟨b1, len1, cap1, l1⟩) = -1 := by unfold fnI; rw [hi]; rfl
    rw [hf]
    refine bifF rfl (bif_of o1 ?_)
    rcases bTF (ile q (len1 : Int)) with hc | hc
    · refine bifT hc (outD_of ⟨⟨b1, len1, cap1, l1⟩, 5, rfl, ⟨?_, k1, ?_⟩, by decide, rfl, rfl, ⟨_, rfl⟩, rfl⟩)
      · unfold keepE; rw [hi, hL, hc]; rfl
      · unfold keepL; rw [hi, hL, hc]; rfl
    · have hc' : ¬ q ≤ (len1 : Int) := fun e => by rw [ile_of e] at hc; cases hc
      have hkE : keepE q a (TS.L ⟨b1, len1, cap1, l1⟩) = 0 := by unfold keepE; rw [hi, hL, hc]; rfl
      have hkL : keepL q f a m' n (TS.L ⟨b1, len1, cap1, l1⟩) = insL (cntL a (TS.L ⟨b1, len1, cap1, l1⟩)) (a, m', n + f, ()) (TS.L ⟨b1, len1, cap1, l1⟩) := by unfold keepL; rw [hi, hL, hc]; rfl
      rw [hkE, hkL]
      refine bifF hc ⟨rfl, ⟨k1, hso, hi⟩, rfl, rfl, rfl, rfl, rfl, rfl, ⟨rfl, rfl⟩, ⟨rfl, rfl⟩, ⟨rfl, rfl⟩, ⟨rfl, rfl⟩, ⟨rfl, rfl⟩, fun hA cap' rest hcr => ?_, fun dn sn sc sl hS => ?_⟩
      · have hA : TS.L ⟨b1, len1, cap1, l1⟩ = [] := hA
        obtain ⟨g1, g2, g3, g4⟩ := okO_snoc0 (x := (a, m', n + f, ())) hcr
        refine outD_recs (t := 6) rfl ⟨rfl, TS.ok_iff.2 ⟨rfl, g2, g3, by show 1 ≤ 64; decide⟩, ?_⟩ (by decide) rfl rfl ⟨_, rfl⟩ rfl
        rw [hA]
        exact g1
      · obtain ⟨ho, hd⟩ := hS
        rcases bTF (!dn) with hdn | hdn
        · have hdn' : dn = false := by cases dn <;> first | rfl | cases hdn
          subst hdn'
          have hcn := hd rfl
          obtain ⟨h1, h2, h3, h4⟩ : sl.take sn = TS.L ⟨b1, len1, cap1, l1⟩ ∧ sl.length = sc ∧ sn ≤ sc ∧ (TS.L ⟨b1, len1, cap1, l1⟩).length = sn := ho
          refine bifT rfl (bif_of (and_t (ble_of h3) (and_t (by rw [h2]; exact Nat.beq_refl _) (and_t (ble_of (by show sn + 1 ≤ _; omega)) rfl))) fun cap' rest hcr => ?_)
          obtain ⟨g1, g2, g3, g4⟩ := okO_snoc (x := (a, m', n + f, ())) (X := TS.L ⟨b1, len1, cap1, l1⟩) ⟨h1, h2, h3, h4⟩ hcr
          refine outD_recs (t := 7) rfl ⟨rfl, TS.ok_iff.2 ⟨rfl, g2, g3, by show sn + 1 ≤ 64; omega⟩, ?_⟩ (by decide) rfl rfl ⟨_, rfl⟩ rfl
          rw [insL_end _ _ _ (by omega)]
          exact g1
        · have hdn' : dn = true := by cases dn <;> first | rfl | cases hdn
          subst hdn'
          obtain ⟨h1, h2, h3, h4⟩ : sl.take sn = insL (cntL a (TS.L ⟨b1, len1, cap1, l1⟩)) (a, m', n + f, ()) (TS.L ⟨b1, len1, cap1, l1⟩) ∧ sl.length = sc ∧ sn ≤ sc ∧ (insL (cntL a (TS.L ⟨b1, len1, cap1, l1⟩)) (a, m', n + f, ()) (TS.L ⟨b1, len1, cap1, l1⟩)).length = sn := ho
          rw [insL_len] at h4
          exact bifF rfl (outD_recs (t := 5) rfl ⟨rfl, TS.ok_iff.2 ⟨rfl, h2, h3, by show sn ≤ 64; omega⟩, h1⟩ (by decide) rfl rfl ⟨_, rfl⟩ rfl)
theorem learnD_ok : COk Tryd.prog G 27 cLearnD := by
  intro args M K h
  unfold cLearnD at h
  split at h
  · rename_i k off a m' n
    obtain ⟨m, o, q, f, s, j, hk, hj, hne, rfl, hok, h⟩ := onT_ok h
    obtain ⟨hsq, h⟩ := vsome_iff.1 h
    rw [Bool.and_eq_true] at hsq
    obtain ⟨b, len, cap, l⟩ := s
    refine Spec.imp (tab_effD (Q := fun r s' => r = .i (lnE q o a m' n (TS.L ⟨b, len, cap, l⟩)) ∧ okT s' (lnLd q f o a m' n (TS.L ⟨b, len, cap, l⟩))) rfl rfl (vf_ok ed1_ok mixed (loop27 ⟨b, len, cap, l⟩ m m' o a q f (n + f)) (learnD_row m m' o a q f n b len cap l hok hsq.1 hsq.2)) (fun r M1 h => h) hk hj hne) ?_
    rintro r M' ⟨s', ⟨rfl, hs⟩, rfl⟩
    have := h s' hs
    rw [putT_eq] at this
    exact this
  · exact h.elim
end Go.Proofs.YtedcileokcbohaaDoor
namespace Go.Proofs.YtedcileokcbohaaDoor
open Go.RowKit
set_option linter.unusedVariables false
set_option linter.unusedSimpArgs false
set_option maxRecDepth 100000

def ED2 (AA : BitVec 32 → Bool) (AM : Tx → Bool) (AI : BitVec 16 → Tx → Tx → Bool) : Env := ⟨G, ((T0.add 20 (cA AA)).add 18 (cM AM)).add 38 (cArp AI), ((noC.add 48 cTidy).add 49 cFindD).add 27 cLearnD⟩
theorem ed2_ok : EnvOk Tryd.prog (ED2 aloneA aloneM (arpOk isM)) := ⟨PT.add_ok (PT.add_ok (PT.add_ok t0_ok raloneAddr_ok) ralone_ok) mayArp_ok, CT.add_ok (CT.add_ok (CT.add_ok (noC_ok _ _) tidy_ok) findD_ok) learnD_ok⟩
theorem v25 (AA : BitVec 32 → Bool) (AM : Tx → Bool) (AI : BitVec 16 → Tx → Tx → Bool) (mac m tt : Tx) (own fa ta : BitVec 32) (op : BitVec 16) (q : Int) (f n : BitVec 64) (b : Bool) (len cap : Nat) (l : List Nr) (K : SV → Mm → Prop) : (vf Tryd.prog (ED2 AA AM AI) noL 25 [.ptr 1 0, .agg [.w16 op, .s m, .w32 fa, .s tt, .w32 ta], .w64 n] (M0T (pT mac own q f) ⟨b, len, cap, l⟩) K) = (bif !AI op m tt then K (SV.tup [SV.agg [SV.w16 0, SV.s [], SV.w32 0, SV.s [], SV.w32 0], SV.b false, SV.i 2]) [{ rw := false, c := Cont.a8 HD }, { rw := true, c := Cont.row (pT mac own q f ++ [SV.ns b 2 3 len cap]) }, { rw := true, c := Cont.nrec b 57 NF l }, { rw := true, c := Cont.row [SV.w16 op, SV.s m, SV.w32 fa, SV.s tt, SV.w32 ta] }, { rw := true, c := Cont.row [SV.w16 0, SV.s [], SV.w32 0, SV.s [], SV.w32 0] }] else bif bif false then true else (BitVec.ofInt 64 4611686018427387904).ule n then K (SV.tup [SV.agg [SV.w16 0, SV.s [], SV.w32 0, SV.s [], SV.w32 0], SV.b false, SV.i 2]) [{ rw := false, c := Cont.a8 HD }, { rw := true, c := Cont.row (pT mac own q f ++ [SV.ns b 2 3 len cap]) }, { rw := true, c := Cont.nrec b 57 NF l }, { rw := true, c := Cont.row [SV.w16 op, SV.s m, SV.w32 fa, SV.s tt, SV.w32 ta] }, { rw := true, c := Cont.row [SV.w16 0, SV.s [], SV.w32 0, SV.s [], SV.w32 0] }] else bif bif false then true else !AM m then K (SV.tup [SV.agg [SV.w16 0, SV.s [], SV.w32 0, SV.s [], SV.w32 0], SV.b false, SV.i 2]) [{ rw := false, c := Cont.a8 HD }, { rw := true, c := Cont.row (pT mac own q f ++ [SV.ns b 2 3 len cap]) }, { rw := true, c := Cont.nrec b 57 NF l }, { rw := true, c := Cont.row [SV.w16 op, SV.s m, SV.w32 fa, SV.s tt, SV.w32 ta] }, { rw := true, c := Cont.row [SV.w16 0, SV.s [], SV.w32 0, SV.s [], SV.w32 0] }] else bif bif false then true else !AA fa then K (SV.tup [SV.agg [SV.w16 0, SV.s [], SV.w32 0, SV.s [], SV.w32 0], SV.b false, SV.i 2]) [{ rw := false, c := Cont.a8 HD }, { rw := true, c := Cont.row (pT mac own q f ++ [SV.ns b 2 3 len cap]) }, { rw := true, c := Cont.nrec b 57 NF l }, { rw := true, c := Cont.row [SV.w16 op, SV.s m, SV.w32 fa, SV.s tt, SV.w32 ta] }, { rw := true, c := Cont.row [SV.w16 0, SV.s [], SV.w32 0, SV.s [], SV.w32 0] }] else bif bif false then true else fa == own then K (SV.tup [SV.agg [SV.w16 0, SV.s [], SV.w32 0, SV.s [], SV.w32 0], SV.b false, SV.i 2]) [{ rw := false, c := Cont.a8 HD }, { rw := true, c := Cont.row (pT mac own q f ++ [SV.ns b 2 3 len cap]) }, { rw := true, c := Cont.nrec b 57 NF l }, { rw := true, c := Cont.row [SV.w16 op, SV.s m, SV.w32 fa, SV.s tt, SV.w32 ta] }, { rw := true, c := Cont.row [SV.w16 0, SV.s [], SV.w32 0, SV.s [], SV.w32 0] }] else b = b ∧ bif (mkT b len cap l).ok then ∀ (s' : TS), okT s' (kept n (mkT b len cap l).L) → bif ta == own then s'.b = s'.b ∧ bif (mkT s'.b s'.len s'.cap s'.l).ok then bif sortB (mkT s'.b s'.len s'.cap s'.l).L && okQ q then ∀ (s'_1 : TS), okT s'_1 (lnLd q f own fa m n (mkT s'.b s'.len s'.cap s'.l).L) → bif ta != own then K (SV.tup [SV.agg [SV.w16 0, SV.s [], SV.w32 0, SV.s [], SV.w32 0], SV.b false, SV.i 0]) [{ rw := false, c := Cont.a8 HD }, { rw := true, c := Cont.row [SV.s mac, SV.w32 own, SV.i q, SV.w64 f, SV.ns s'_1.b (0 + 1 + 1 + 1 + 1 + 1 + 1) 3 s'_1.len s'_1.cap] }, { rw := true, c := Cont.gone }, { rw := true, c := Cont.row [SV.w16 op, SV.s m, SV.w32 fa, SV.s tt, SV.w32 ta] }, { rw := true, c := Cont.row [SV.w16 0, SV.s [], SV.w32 0, SV.s [], SV.w32 0] }, { rw := true, c := Cont.gone }, { rw := true, c := Cont.nrec s'_1.b 57 NF s'_1.l }] else bif bif false then true else op != BitVec.ofInt 16 1 then K (SV.tup [SV.agg [SV.w16 0, SV.s [], SV.w32 0, SV.s [], SV.w32 0], SV.b false, SV.i 0]) [{ rw := false, c := Cont.a8 HD }, { rw := true, c := Cont.row [SV.s mac, SV.w32 own, SV.i q, SV.w64 f, SV.ns s'_1.b (0 + 1 + 1 + 1 + 1 + 1 + 1) 3 s'_1.len s'_1.cap] }, { rw := true, c := Cont.gone }, { rw := true, c := Cont.row [SV.w16 op, SV.s m, SV.w32 fa, SV.s tt, SV.w32 ta] }, { rw := true, c := Cont.row [SV.w16 0, SV.s [], SV.w32 0, SV.s [], SV.w32 0] }, { rw := true, c := Cont.gone }, { rw := true, c := Cont.nrec s'_1.b 57 NF s'_1.l }] else K (SV.tup [SV.agg [SV.w16 (BitVec.ofInt 16 2), SV.s mac, SV.w32 own, SV.s m, SV.w32 fa], SV.b true, SV.i 0]) [{ rw := false, c := Cont.a8 HD }, { rw := true, c := Cont.row [SV.s mac, SV.w32 own, SV.i q, SV.w64 f, SV.ns s'_1.b (0 + 1 + 1 + 1 + 1 + 1 + 1) 3 s'_1.len s'_1.cap] }, { rw := true, c := Cont.gone }, { rw := true, c := Cont.row [SV.w16 op, SV.s m, SV.w32 fa, SV.s tt, SV.w32 ta] }, { rw := true, c := Cont.row [SV.w16 (BitVec.ofInt 16 2), SV.s mac, SV.w32 own, SV.s m, SV.w32 fa] }, { rw := true, c := Cont.gone }, { rw := true, c := Cont.nrec s'_1.b 57 NF s'_1.l }] else False else False else s'.b = s'.b ∧ bif (mkT s'.b s'.len s'.cap s'.l).ok then bif sortB (mkT s'.b s'.len s'.cap s'.l).L then bif bif false then true else ile 0 (fnI fa (mkT s'.b s'.len s'.cap s'.l).L) then (mkT s'.b s'.len s'.cap s'.l).b = (mkT s'.b s'.len s'.cap s'.l).b ∧ bif (mkT (mkT s'.b s'.len s'.cap s'.l).b (mkT s'.b s'.len s'.cap s'.l).len (mkT s'.b s'.len s'.cap s'.l).cap (mkT s'.b s'.len s'.cap s'.l).l).ok then bif sortB (mkT (mkT s'.b s'.len s'.cap s'.l).b (mkT s'.b s'.len s'.cap s'.l).len (mkT s'.b s'.len s'.cap s'.l).cap (mkT s'.b s'.len s'.cap s'.l).l).L && okQ q then ∀ (s'_1 : TS), okT s'_1 (lnLd q f own fa m n (mkT (mkT s'.b s'.len s'.cap s'.l).b (mkT s'.b s'.len s'.cap s'.l).len (mkT s'.b s'.len s'.cap s'.l).cap (mkT s'.b s'.len s'.cap s'.l).l).L) → bif ta != own then K (SV.tup [SV.agg [SV.w16 0, SV.s [], SV.w32 0, SV.s [], SV.w32 0], SV.b false, SV.i 0]) [{ rw := false, c := Cont.a8 HD }, { rw := true, c := Cont.row [SV.s mac, SV.w32 own, SV.i q, SV.w64 f, SV.ns s'_1.b (0 + 1 + 1 + 1 + 1 + 1 + 1 + 1) 3 s'_1.len s'_1.cap] }, { rw := true, c := Cont.gone }, { rw := true, c := Cont.row [SV.w16 op, SV.s m, SV.w32 fa, SV.s tt, SV.w32 ta] }, { rw := true, c := Cont.row [SV.w16 0, SV.s [], SV.w32 0, SV.s [], SV.w32 0] }, { rw := true, c := Cont.gone }, { rw := true, c := Cont.gone }, { rw := true, c := Cont.nrec s'_1.b 57 NF s'_1.l }] else bif bif false then true else op != BitVec.ofInt 16 1 then K (SV.tup [SV.agg [SV.w16 0, SV.s [], SV.w32 0, SV.s [], SV.w32 0], SV.b false, SV.i 0]) [{ rw := false, c := Cont.a8 HD }, { rw := true, c := Cont.row [SV.s mac, SV.w32 own, SV.i q, SV.w64 f, SV.ns s'_1.b (0 + 1 + 1 + 1 + 1 + 1 + 1 + 1) 3 s'_1.len s'_1.cap] }, { rw := true, c := Cont.gone }, { rw := true, c := Cont.row [SV.w16 op, SV.s m, SV.w32 fa, SV.s tt, SV.w32 ta] }, { rw := true, c := Cont.row [SV.w16 0, SV.s [], SV.w32 0, SV.s [], SV.w32 0] }, { rw := true, c := Cont.gone }, { rw := true, c := Cont.gone }, { rw := true, c := Cont.nrec s'_1.b 57 NF s'_1.l }] else K (SV.tup [SV.agg [SV.w16 (BitVec.ofInt 16 2), SV.s mac, SV.w32 own, SV.s m, SV.w32 fa], SV.b true, SV.i 0]) [{ rw := false, c := Cont.a8 HD }, { rw := true, c := Cont.row [SV.s mac, SV.w32 own, SV.i q, SV.w64 f, SV.ns s'_1.b (0 + 1 + 1 + 1 + 1 + 1 + 1 + 1) 3 s'_1.len s'_1.cap] }, { rw := true, c := Cont.gone }, { rw := true, c := Cont.row [SV.w16 op, SV.s m, SV.w32 fa, SV.s tt, SV.w32 ta] }, { rw := true, c := Cont.row [SV.w16 (BitVec.ofInt 16 2), SV.s mac, SV.w32 own, SV.s m, SV.w32 fa] }, { rw := true, c := Cont.gone }, { rw := true, c := Cont.gone }, { rw := true, c := Cont.nrec s'_1.b 57 NF s'_1.l }] else False else False else bif ta != own then K (SV.tup [SV.agg [SV.w16 0, SV.s [], SV.w32 0, SV.s [], SV.w32 0], SV.b false, SV.i 0]) [{ rw := false, c := Cont.a8 HD }, { rw := true, c := Cont.row [SV.s mac, SV.w32 own, SV.i q, SV.w64 f, SV.ns (mkT s'.b s'.len s'.cap s'.l).b (0 + 1 + 1 + 1 + 1 + 1 + 1) 3 (mkT s'.b s'.len s'.cap s'.l).len (mkT s'.b s'.len s'.cap s'.l).cap] }, { rw := true, c := Cont.gone }, { rw := true, c := Cont.row [SV.w16 op, SV.s m, SV.w32 fa, SV.s tt, SV.w32 ta] }, { rw := true, c := Cont.row [SV.w16 0, SV.s [], SV.w32 0, SV.s [], SV.w32 0] }, { rw := true, c := Cont.gone }, { rw := true, c := Cont.nrec (mkT s'.b s'.len s'.cap s'.l).b 57 NF (mkT s'.b s'.len s'.cap s'.l).l }] else bif bif false then true else op != BitVec.ofInt 16 1 then K (SV.tup [SV.agg [SV.w16 0, SV.s [], SV.w32 0, SV.s [], SV.w32 0], SV.b false, SV.i 0]) [{ rw := false, c := Cont.a8 HD }, { rw := true, c := Cont.row [SV.s mac, SV.w32 own, SV.i q, SV.w64 f, SV.ns (mkT s'.b s'.len s'.cap s'.l).b (0 + 1 + 1 + 1 + 1 + 1 + 1) 3 (mkT s'.b s'.len s'.cap s'.l).len (mkT s'.b s'.len s'.cap s'.l).cap] }, { rw := true, c := Cont.gone }, { rw := true, c := Cont.row [SV.w16 op, SV.s m, SV.w32 fa, SV.s tt, SV.w32 ta] }, { rw := true, c := Cont.row [SV.w16 0, SV.s [], SV.w32 0, SV.s [], SV.w32 0] }, { rw := true, c := Cont.gone }, { rw := true, c := Cont.nrec (mkT s'.b s'.len s'.cap s'.l).b 57 NF (mkT s'.b s'.len s'.cap s'.l).l }] else K (SV.tup [SV.agg [SV.w16 (BitVec.ofInt 16 2), SV.s mac, SV.w32 own, SV.s m, SV.w32 fa], SV.b true, SV.i 0]) [{ rw := false, c := Cont.a8 HD }, { rw := true, c := Cont.row [SV.s mac, SV.w32 own, SV.i q, SV.w64 f, SV.ns (mkT s'.b s'.len s'.cap s'.l).b (0 + 1 + 1 + 1 + 1 + 1 + 1) 3 (mkT s'.b s'.len s'.cap s'.l).len (mkT s'.b s'.len s'.cap s'.l).cap] }, { rw := true, c := Cont.gone }, { rw := true, c := Cont.row [SV.w16 op, SV.s m, SV.w32 fa, SV.s tt, SV.w32 ta] }, { rw := true, c := Cont.row [SV.w16 (BitVec.ofInt 16 2), SV.s mac, SV.w32 own, SV.s m, SV.w32 fa] }, { rw := true, c := Cont.gone }, { rw := true, c := Cont.nrec (mkT s'.b s'.len s'.cap s'.l).b 57 NF (mkT s'.b s'.len s'.cap s'.l).l }] else False else False else False) := by kernel_rfl
theorem v29 (AA : BitVec 32 → Bool) (AM : Tx → Bool) (AI : BitVec 16 → Tx → Tx → Bool) (mac : Tx) (own a : BitVec 32) (q : Int) (f n : BitVec 64) (b : Bool) (len cap : Nat) (l : List Nr) (K : SV → Mm → Prop) : (vf Tryd.prog (ED2 AA AM AI) noL 29 [.ptr 1 0, .w32 a, .w64 n] (M0T (pT mac own q f) ⟨b, len, cap, l⟩) K) = (bif (BitVec.ofInt 64 4611686018427387904).ule n then K (SV.tup [SV.s (bts { data := #[] }), SV.i 2]) (M0T (pT mac own q f) { b := b, len := len, cap := cap, l := l }) else b = b ∧ bif (mkT b len cap l).ok then ∀ (s' : TS), okT s' (kept n (mkT b len cap l).L) → s'.b = s'.b ∧ bif (mkT s'.b s'.len s'.cap s'.l).ok then bif sortB (mkT s'.b s'.len s'.cap s'.l).L then bif ilt (fnI a (mkT s'.b s'.len s'.cap s'.l).L) 0 then K (SV.tup [SV.s (bts { data := #[] }), SV.i 5]) [e0, { rw := true, c := Cont.row [SV.s mac, SV.w32 own, SV.i q, SV.w64 f, SV.ns (mkT s'.b s'.len s'.cap s'.l).b (0 + 1 + 1 + 1 + 1) 3 (mkT s'.b s'.len s'.cap s'.l).len (mkT s'.b s'.len s'.cap s'.l).cap] }, goneE, goneE, recT' (mkT s'.b s'.len s'.cap s'.l)] else bif !(mkT s'.b s'.len s'.cap s'.l).b && inR (fnI a (mkT s'.b s'.len s'.cap s'.l).L) (mkT s'.b s'.len s'.cap s'.l).len then bif !(mkT s'.b s'.len s'.cap s'.l).b && rok 0 (fnI a (mkT s'.b s'.len s'.cap s'.l).L).toNat 3 NF [] (mkT s'.b s'.len s'.cap s'.l).l.length then K (SV.tup [SV.s ((mkT s'.b s'.len s'.cap s'.l).l.getD (fnI a (mkT s'.b s'.len s'.cap s'.l).L).toNat (rz NF)).snd.fst, SV.i 0]) [e0, { rw := true, c := Cont.row [SV.s mac, SV.w32 own, SV.i q, SV.w64 f, SV.ns (mkT s'.b s'.len s'.cap s'.l).b (0 + 1 + 1 + 1 + 1) 3 (mkT s'.b s'.len s'.cap s'.l).len (mkT s'.b s'.len s'.cap s'.l).cap] }, goneE, goneE, recT' (mkT s'.b s'.len s'.cap s'.l)] else False else False else False else False else False) := by kernel_rfl
theorem v31 (AA : BitVec 32 → Bool) (AM : Tx → Bool) (AI : BitVec 16 → Tx → Tx → Bool) (mac : Tx) (own : BitVec 32) (q : Int) (f n : BitVec 64) (b : Bool) (len cap : Nat) (l : List Nr) (K : SV → Mm → Prop) : (vf Tryd.prog (ED2 AA AM AI) noL 31 [.ptr 1 0, .w64 n] (M0T (pT mac own q f) ⟨b, len, cap, l⟩) K) = (bif n.ult (BitVec.ofInt 64 4611686018427387904) then b = b ∧ bif (mkT b len cap l).ok then ∀ (s' : TS), okT s' (kept n (mkT b len cap l).L) → K (SV.ns s'.b (List.length (M0T (pT mac own q f) { b := b, len := len, cap := cap, l := l })) 3 s'.len s'.cap) [e0, { rw := true, c := Cont.row [SV.s mac, SV.w32 own, SV.i q, SV.w64 f, SV.ns s'.b (List.length (M0T (pT mac own q f) { b := b, len := len, cap := cap, l := l })) 3 s'.len s'.cap] }, goneE, recT' s'] else False else K (SV.ns b 2 3 len cap) (M0T (pT mac own q f) { b := b, len := len, cap := cap, l := l })) := by kernel_rfl
theorem v23 (AA : BitVec 32 → Bool) (AM : Tx → Bool) (AI : BitVec 16 → Tx → Tx → Bool) (mac : Tx) (own : BitVec 32) (q : Int) (f : BitVec 64) (K : SV → Mm → Prop) : (vf Tryd.prog (ED2 AA AM AI) noL 23 [.s mac, .w32 own, .i q, .w64 f] G K) = (bif !AM mac then K (SV.v (Value.pointer none)) G else bif bif false then true else !AA own then K (SV.v (Value.pointer none)) G else bif bif false then true else ilt q 1 then K (SV.v (Value.pointer none)) G else bif bif false then true else ilt 64 q then K (SV.v (Value.pointer none)) G else bif bif false then true else f.ult (BitVec.ofInt 64 1) then K (SV.v (Value.pointer none)) G else bif bif false then true else (BitVec.ofInt 64 4294967296).ult f then K (SV.v (Value.pointer none)) G else K (SV.ptr 1 0) [{ rw := false, c := Cont.a8 HD }, { rw := true, c := Cont.row [SV.s mac, SV.w32 own, SV.i q, SV.w64 f, SV.v (Value.slice none 0 0)] }]) := by kernel_rfl
end Go.Proofs.YtedcileokcbohaaDoor
