/-
  link: the document's Take, Lookup, Near, New, as contracts. No statement is proved here.
-/
import Derived.Test.YtedcileokcbohaaDoorPlG
namespace Go.Proofs.YtedcileokcbohaaDoor
open Go.RowKit
set_option linter.unusedVariables false
set_option linter.unusedSimpArgs false
set_option maxRecDepth 100000

theorem fnI_neg {a : BitVec 32} {L : List Nr} (h : isL a L = false) : fnI a L = -1 := by unfold fnI; rw [h]; rfl
theorem fnI_pos {a : BitVec 32} {L : List Nr} (h : isL a L = true) : fnI a L = ((cntL a L : Nat) : Int) := by unfold fnI; rw [h]; rfl
-- Lookup
def lkLd (n : BitVec 64) (L : List Nr) : List Nr := pasL n L
def cLookD : List SV → Mm → (SV → Mm → Prop) → Prop
  | [.ptr k off, .w32 a, .w64 n], M, K => onT M k off fun m o q f s j => vsome (sortB s.L) (∀ s', okT s' (pasL n s.L) → putT M k j m o q f s' (K (.tup [.s (lkT a n s.L), .i (lkE a n s.L)])))
  | _, _, _ => False
theorem lookD_ok : COk Tryd.prog G 29 cLookD := by
  intro args M K h
  unfold cLookD at h
  split at h
  · rename_i k off a n
    obtain ⟨m, o, q, f, s, j, hk, hj, hne, rfl, hok, h⟩ := onT_ok h
    obtain ⟨hs, h⟩ := vsome_iff.1 h
    obtain ⟨b, len, cap, l⟩ := s
    refine Spec.imp (tab_eff (Q := fun r s' => r = .tup [.s (lkT a n (TS.L ⟨b, len, cap, l⟩)), .i (lkE a n (TS.L ⟨b, len, cap, l⟩))] ∧ okT s' (pasL n (TS.L ⟨b, len, cap, l⟩))) rfl rfl (vf_ok ed2_ok mixed (noL_ok _ _ _ _) (of_eq (v29 aloneA aloneM (arpOk isM) m o a q f n b len cap l (outT (pT m o q f) (fun r s' => r = .tup [.s (lkT a n (TS.L ⟨b, len, cap, l⟩)), .i (lkE a n (TS.L ⟨b, len, cap, l⟩))] ∧ okT s' (pasL n (TS.L ⟨b, len, cap, l⟩))))) ?_)) (fun r M1 h => h) hk hj hne) ?_
    · unfold pasL lkT lkE lkB
      rcases bTF (MC.ule n) with hc | hc
      · refine bifT hc ⟨⟨b, len, cap, l⟩, 2, rfl, ⟨?_, hok, ?_⟩, Nat.le_refl _, rfl, rfl, ⟨_, rfl⟩, rfl⟩
        · rw [hc]; rfl
        · rw [hc]; rfl
      · refine bifF hc ⟨rfl, bif_of hok fun s1 hs1 => ?_⟩
        rw [hc]
        replace hs1 : okT s1 (kept n (TS.L ⟨b, len, cap, l⟩)) := hs1
        obtain ⟨k1, k2⟩ := hs1
        have hso : sortB s1.L = true := by rw [k2]; exact sort_kept n hs
        rw [← k2]
        clear k2
        obtain ⟨b1, len1, cap1, l1⟩ := s1
        obtain ⟨o1, o2, o3, o4⟩ := TS.ok_iff.1 k1
        dsimp only at o1 o2 o3 o4
        refine ⟨rfl, bif_of k1 (bif_of hso ?_)⟩
        dsimp only [mkT]
        rcases bTF (isL a (TS.L ⟨b1, len1, cap1, l1⟩)) with hi | hi
        · have hlt := is_lt hso hi
          obtain ⟨n1, n2, n3⟩ := nb_of k1 hlt
          have b5 : (rok 0 (cntL a (TS.L ⟨b1, len1, cap1, l1⟩)) 3 NF [] l1.length && true) = true := rok0 n3
          rw [Bool.and_true] at b5
          rw [fnI_pos hi, Int.toNat_natCast]
          refine bifF (ilt_no (by omega)) (bif_of (and_t n1 (inRn n2 (by omega))) (bif_of (and_t n1 b5) ⟨⟨b1, len1, cap1, l1⟩, 4, rfl, ⟨?_, k1, rfl⟩, by decide, rfl, rfl, ⟨_, rfl⟩, rfl⟩))
          rw [hi]
          have e : (TS.L ⟨b1, len1, cap1, l1⟩).getD (cntL a (TS.L ⟨b1, len1, cap1, l1⟩)) (rz NF) = l1.getD (cntL a (TS.L ⟨b1, len1, cap1, l1⟩)) (rz NF) := getD_take _ _ _ _ n2
          show _ = SV.tup [.s ((TS.L ⟨b1, len1, cap1, l1⟩).getD (cntL a (TS.L ⟨b1, len1, cap1, l1⟩)) (rz NF)).2.1, .i 0]
          rw [e]
        · rw [fnI_neg hi]
          refine bifT rfl ⟨⟨b1, len1, cap1, l1⟩, 4, rfl, ⟨?_, k1, rfl⟩, by decide, rfl, rfl, ⟨_, rfl⟩, rfl⟩
          rw [hi]; rfl
    · rintro r M' ⟨s', ⟨rfl, hs'⟩, rfl⟩
      have := h s' hs'
      rw [putT_eq] at this
      exact this
  · exact h.elim
-- Near
def cNearD : List SV → Mm → (SV → Mm → Prop) → Prop
  | [.ptr k off, .w64 n], M, K => onT M k off fun m o q f s j => ∀ s', okT s' (pasL n s.L) → putT M k j m o q f s' (K (.ns s'.b M.length 3 s'.len s'.cap))
  | _, _, _ => False
theorem nearD_ok : COk Tryd.prog G 31 cNearD := by
  intro args M K h
  unfold cNearD at h
  split at h
  · rename_i k off n
    obtain ⟨m, o, q, f, s, j, hk, hj, hne, rfl, hok, h⟩ := onT_ok h
    obtain ⟨b, len, cap, l⟩ := s
    let Q : RS → TS → Mm → Prop := fun a s' ext => okT s' (pasL n (TS.L ⟨b, len, cap, l⟩)) ∧ a = ⟨s'.b, 0, s'.len, s'.cap⟩ ∧ ext = []
    refine Spec.imp (effR (Q := Q) rfl rfl (mvR rfl (vf_ok ed2_ok mixed (noL_ok _ _ _ _) (of_eq (v31 aloneA aloneM (arpOk isM) m o q f n b len cap l (fun r M1 => ∃ (s' : TS) (t : Nat), okT s' (pasL n (TS.L ⟨b, len, cap, l⟩)) ∧ r = .ns s'.b t 3 s'.len s'.cap ∧ ((t = 3 ∧ M1 = [e0, rowT (pT m o q f) s' 3, goneE, recT' s']) ∨ (t = 2 ∧ M1 = [e0, rowT (pT m o q f) s' 2, recT' s'])))) ?_)) ?_) hk hj hne) ?_
    · unfold pasL
      rcases bTF (MC.ule n) with hc | hc
      · have hu : n.ult MC = false := by
          unfold BitVec.ult BitVec.ule at *
          have := of_decide_eq_true hc
          exact decide_eq_false (by omega)
        refine bifF hu ?_
        rw [hc]
        exact ⟨⟨b, len, cap, l⟩, 2, ⟨hok, rfl⟩, rfl, .inr ⟨rfl, rfl⟩⟩
      · have hu : n.ult MC = true := by
          unfold BitVec.ult BitVec.ule at *
          have := of_decide_eq_false hc
          exact decide_eq_true (by omega)
        refine bifT hu ⟨rfl, bif_of hok fun s1 hs1 => ?_⟩
        rw [hc]
        exact ⟨s1, 3, hs1, rfl, .inl ⟨rfl, rfl⟩⟩
    · rintro r M1 ⟨s', t, h1, rfl, (⟨rfl, rfl⟩ | ⟨rfl, rfl⟩)⟩
      · exact ⟨⟨s'.b, 0, s'.len, s'.cap⟩, s', [], 3, [], ⟨h1, rfl, rfl⟩, Nat.le_refl _, fun e he => (by cases he), rfl, rfl, by decide, by decide, fun u hu => (by cases hu), rfl, rfl, ⟨_, rfl⟩, rfl, fun i e he => (by cases he)⟩
      · exact ⟨⟨s'.b, 0, s'.len, s'.cap⟩, s', [], 2, [], ⟨h1, rfl, rfl⟩, Nat.le_refl _, fun e he => (by cases he), rfl, rfl, by decide, by decide, fun u hu => (by cases hu), rfl, rfl, ⟨_, rfl⟩, rfl, fun i e he => (by cases he)⟩
    · rintro r M' ⟨a, s', ext, ⟨h1, rfl, rfl⟩, rfl, rfl⟩
      have := h s' h1
      rw [putT_eq] at this
      exact this
  · exact h.elim
end Go.Proofs.YtedcileokcbohaaDoor
namespace Go.Proofs.YtedcileokcbohaaDoor
open Go.RowKit
set_option linter.unusedVariables false
set_option linter.unusedSimpArgs false
set_option maxRecDepth 100000


theorem kept2 (n : BitVec 64) (L : List Nr) : kept n (kept n L) = kept n L := by
  unfold kept
  rw [List.filter_filter]
  congr 1
  funext r
  cases del n r <;> rfl
-- New
theorem s23 (mac : Tx) (own : BitVec 32) (q : Int) (f : BitVec 64) : Spec Tryd.prog G 23 [.s mac, .w32 own, .i q, .w64 f] G (fun r M => (newB mac own q f = true ∧ r = .ptr 1 0 ∧ M = [e0, nilT (pT mac own q f)]) ∨ (newB mac own q f = false ∧ r = .v (.pointer none) ∧ M = G)) := by
  refine vf_ok ed2_ok mixed (noL_ok _ _ _ _) (of_eq (v23 aloneA aloneM (arpOk isM) mac own q f _) ?_)
  unfold newB
  cases h1 : aloneM mac
  · exact .inr ⟨rfl, rfl, rfl⟩
  · cases h2 : aloneA own
    · exact .inr ⟨rfl, rfl, rfl⟩
    · show bif bif false then true else ilt q 1 then _ else _
      cases h3 : ilt q 1
      · show bif bif false then true else ilt 64 q then _ else _
        cases h4 : ilt 64 q
        · show bif bif false then true else f.ult (BitVec.ofInt 64 1) then _ else _
          rw [okQ_split h3 h4]
          cases h5 : f.ult (BitVec.ofInt 64 1)
          · show bif bif false then true else (BitVec.ofInt 64 4294967296).ult f then _ else _
            cases h6 : (BitVec.ofInt 64 4294967296).ult f
            · exact .inl ⟨rfl, rfl, rfl⟩
            · exact .inr ⟨rfl, rfl, rfl⟩
          · exact .inr ⟨rfl, rfl, rfl⟩
        · exact .inr ⟨by rw [okQ_no2 h4]; rfl, rfl, rfl⟩
      · exact .inr ⟨by rw [okQ_no1 h3]; rfl, rfl, rfl⟩
def cNewD : List SV → Mm → (SV → Mm → Prop) → Prop
  | [.s mac, .w32 own, .i q, .w64 f], M, K => bif newB mac own q f then
      (snocK M ⟨true, .row [.s mac, .w32 own, .i q, .w64 f, .ns true (M.length + 1) 3 0 0]⟩ fun M1 => snocK M1 (recT' s00) fun M2 => K (.ptr M.length 0) M2)
    else K (.v (.pointer none)) M
  | _, _, _ => False
theorem newD_ok : COk Tryd.prog G 23 cNewD := by
  intro args M K h
  unfold cNewD at h
  split at h
  · rename_i mac own q f
    rw [snocK_eq, snocK_eq] at h
    intro β w hR hw
    have h1 : Spec Tryd.prog G 23 [.s mac, .w32 own, .i q, .w64 f] M (fun r M' => (newB mac own q f = true ∧ r = .ptr M.length 0 ∧ M' = M ++ [nilT (pT mac own q f)]) ∨ (newB mac own q f = false ∧ r = .v (.pointer none) ∧ M' = M)) := by
      intro β w hR hw
      refine eff_of (R := []) (args0 := [.s mac, .w32 own, .i q, .w64 f]) (K := fun r M' => (newB mac own q f = true ∧ r = .ptr M.length 0 ∧ M' = M ++ [nilT (pT mac own q f)]) ∨ (newB mac own q f = false ∧ r = .v (.pointer none) ∧ M' = M)) [] (s23 mac own q f) rfl rfl List.nodup_nil trivial ?_ β w hR hw
      rintro r1 M1 (⟨hb, rfl, rfl⟩ | ⟨hb, rfl, rfl⟩)
      · exact .inl ⟨hb, rfl, rfl⟩
      · exact .inr ⟨hb, rfl, List.append_nil M⟩
    refine Spec.re h1 ?_ β w hR hw
    rintro r M1 (⟨hb, rfl, rfl⟩ | ⟨hb, rfl, rfl⟩)
    · rw [hb] at h
      have hlen : (M ++ [(⟨true, .row [.s mac, .w32 own, .i q, .w64 f, .ns true (M.length + 1) 3 0 0]⟩ : Ent)] ++ [recT' s00]).length = M.length + 2 := by simp
      have cs : ∀ (i : Nat) (e : Ent), (M ++ [(⟨true, .row [.s mac, .w32 own, .i q, .w64 f, .ns true (M.length + 1) 3 0 0]⟩ : Ent)] ++ [recT' s00])[i]? = some e → (i < M.length ∧ M[i]? = some e) ∨ (i = M.length ∧ e = rowT (pT mac own q f) s00 (M.length + 1)) ∨ (i = M.length + 1 ∧ e = recT' s00) := fun i e he => by
        rw [List.append_assoc] at he
        rcases Nat.lt_or_ge i M.length with q1 | q1
        · rw [List.getElem?_append_left q1] at he; exact .inl ⟨q1, he⟩
        · rw [List.getElem?_append_right q1] at he
          obtain ⟨n, rfl⟩ := Nat.exists_eq_add_of_le q1
          rw [Nat.add_sub_cancel_left] at he
          match n, he with
          | 0, he => cases he; exact .inr (.inl ⟨rfl, rfl⟩)
          | 1, he => cases he; exact .inr (.inr ⟨rfl, rfl⟩)
          | n + 2, he => cases he
      have g1 : (M ++ [nilT (pT mac own q f)])[M.length]? = some (nilT (pT mac own q f)) := by rw [List.getElem?_append_right (Nat.le_refl _), Nat.sub_self]; rfl
      let σ : Nat → Nat := fun i => if i = M.length + 1 then M.length else i
      have s1 : ∀ i, i < M.length + 1 → σ i = i := fun i hi => if_neg (by omega)
      have s2 : σ (M.length + 1) = M.length := if_pos rfl
      refine ⟨.ptr M.length 0, _, σ, ⟨fun i hi => s1 i (by omega), by rw [hlen]; omega, fun i e he hh => ?_, fun i j x y hx hy hij hr hxh hyh => ?_, fun i e he => ?_, fun i e he hr => ?_, fun i e hi he => ?_, fun i e hi he => ?_, fun β => ?_, ?_⟩, h⟩
      · rcases cs i e he with ⟨q1, q2⟩ | ⟨rfl, rfl⟩ | ⟨rfl, rfl⟩
        · rw [s1 i (by omega), List.getElem?_append_left q1]
          exact ⟨e, q2, hh, rfl, fun β => cells_agree (n := M.length) (fun i hi => by simp only [s1 i (Nat.lt_succ_of_lt hi)]) _ (hR.wf i e q2), rfl⟩
        · rw [s1 _ (by omega)]
          exact ⟨_, g1, rfl, rfl, fun β => rfl, rfl⟩
        · cases hh
      · rcases cs i x hx with ⟨q1, q2⟩ | ⟨rfl, rfl⟩ | ⟨rfl, rfl⟩
        · rcases cs j y hy with ⟨q3, q4⟩ | ⟨rfl, rfl⟩ | ⟨rfl, rfl⟩
          · rw [s1 i (by omega), s1 j (by omega)]; exact hij
          · rw [s1 i (by omega), s1 _ (by omega)]; exact hij
          · cases hyh
        · rcases cs j y hy with ⟨q3, q4⟩ | ⟨rfl, rfl⟩ | ⟨rfl, rfl⟩
          · rw [s1 _ (by omega), s1 j (by omega)]; exact hij
          · exact absurd rfl hij
          · cases hyh
        · cases hxh
      · rcases cs i e he with ⟨q1, q2⟩ | ⟨rfl, rfl⟩ | ⟨rfl, rfl⟩
        · exact cwf_mono (by rw [hlen]; omega) _ (hR.wf i e q2)
        · rw [hlen]
          show SV.wf.wfs _ [_, _, _, _, .ns true (M.length + 1) 3 0 0] = true
          simp [SV.wf.wfs, SV.wf, Nat.blt_eq]
        · rfl
      · rcases cs i e he with ⟨q1, q2⟩ | ⟨rfl, rfl⟩ | ⟨rfl, rfl⟩
        · rw [s1 i (by omega), List.getElem?_append_left q1]; exact ⟨e, q2, hr⟩
        · rw [s1 _ (by omega)]; exact ⟨_, g1, rfl⟩
        · rw [s2]; exact ⟨_, g1, rfl⟩
      · rw [List.getElem?_append_left hi] at he
        exact ⟨e.c, by rw [List.append_assoc, List.getElem?_append_left hi]; exact he, fun _ => rfl⟩
      · rcases cs i e he with ⟨q1, q2⟩ | ⟨rfl, rfl⟩ | ⟨rfl, rfl⟩
        · omega
        · rfl
        · rfl
      · show val β (.ptr M.length 0) = val _ (.ptr M.length 0)
        simp only [val, vals, s1 _ (Nat.lt_succ_self M.length)]
      · rw [hlen]
        show SV.wf _ (.ptr M.length 0) = true
        simp [SV.wf.wfs, SV.wf, Nat.blt_eq]
    · rw [hb] at h
      exact ⟨_, _, fun i => i, ⟨fun _ _ => rfl, Nat.le_refl _, fun i e he hh => ⟨e, he, hh, rfl, fun _ => rfl, rfl⟩, fun i j x y _ _ hij _ _ _ => hij, hR.wf, fun i e he hr => ⟨e, he, hr⟩, fun i e hi he => ⟨e.c, he, fun _ => rfl⟩, fun i e hi he => absurd (lt_of_get he) (by omega), fun _ => rfl, rfl⟩, h⟩
  · exact h.elim
-- Take
def tkLd (q : Int) (f : BitVec 64) (own : BitVec 32) (op : BitVec 16) (m : Tx) (fa : BitVec 32) (tt : Tx) (ta : BitVec 32) (n : BitVec 64) (L : List Nr) : List Nr := bif tkOk own op m fa tt n then tkL q f own m fa ta n (kept n L) else L
def cTakeD : List SV → Mm → (SV → Mm → Prop) → Prop
  | [.ptr k off, .agg [.w16 op, .s m', .w32 fa, .s tt, .w32 ta], .w64 n], M, K => onT M k off fun m o q f s j => vsome (sortB s.L && okQ q) (∀ s', okT s' (tkLd q f o op m' fa tt ta n s.L) → putT M k j m o q f s' (K (.tup [tkA m o m' fa (tkAns o op m' fa tt ta n), .b (tkAns o op m' fa tt ta n), .i (tkE o op m' fa tt n)])))
  | _, _, _ => False
theorem takeD_ok : COk Tryd.prog G 25 cTakeD := by
  intro args M K h
  unfold cTakeD at h
  split at h
  · rename_i k off op m' fa tt ta n
    obtain ⟨m, o, q, f, s, j, hk, hj, hne, rfl, hok, h⟩ := onT_ok h
    obtain ⟨hsq, h⟩ := vsome_iff.1 h
    rw [Bool.and_eq_true] at hsq
    obtain ⟨hso, hq⟩ := hsq
    obtain ⟨b, len, cap, l⟩ := s
    let Q : SV → TS → Prop := fun r s' => r = .tup [tkA m o m' fa (tkAns o op m' fa tt ta n), .b (tkAns o op m' fa tt ta n), .i (tkE o op m' fa tt n)] ∧ okT s' (tkLd q f o op m' fa tt ta n (TS.L ⟨b, len, cap, l⟩))
    refine Spec.imp (tab_eff (Q := Q) rfl rfl (vf_ok ed2_ok mixed (noL_ok _ _ _ _) (of_eq (v25 aloneA aloneM (arpOk isM) m m' tt o fa ta op q f n b len cap l (outT (pT m o q f) Q)) ?_)) (fun r M1 h => h) hk hj hne) ?_
    · have no : tkOk o op m' fa tt n = false → outT (pT m o q f) Q (.tup [.agg [.w16 0, .s [], .w32 0, .s [], .w32 0], .b false, .i 2]) [e0, rowT (pT m o q f) ⟨b, len, cap, l⟩ 2, recT' ⟨b, len, cap, l⟩, ⟨true, .row [.w16 op, .s m', .w32 fa, .s tt, .w32 ta]⟩, ⟨true, .row [.w16 0, .s [], .w32 0, .s [], .w32 0]⟩] := fun ht => by
        refine ⟨⟨b, len, cap, l⟩, 2, rfl, ⟨?_, hok, ?_⟩, by decide, rfl, rfl, ⟨_, rfl⟩, rfl⟩
        · unfold tkE tkAns; rw [ht]; rfl
        · unfold tkLd; rw [ht]; rfl
      have hB : tkOk o op m' fa tt n = (!(MC.ule n) && (arpOk isM op m' tt && (aloneA fa && (aloneM m' && fa != o)))) := rfl
      rcases bTF (arpOk isM op m' tt) with a1 | a1
      rotate_left
      · exact bifT (by rw [a1]; rfl) (no (by rw [hB, a1]; cases MC.ule n <;> rfl))
      refine bifF (by rw [a1]; rfl) ?_
      rcases bTF (MC.ule n) with a2 | a2
      · exact bifT a2 (no (by rw [hB, a2]; rfl))
      refine bifF a2 ?_
      rcases bTF (aloneM m') with a3 | a3
      rotate_left
      · exact bifT (by rw [a3]; rfl) (no (by rw [hB, a1, a2, a3]; cases aloneA fa <;> rfl))
      refine bifF (by rw [a3]; rfl) ?_
      rcases bTF (aloneA fa) with a4 | a4
      rotate_left
      · exact bifT (by rw [a4]; rfl) (no (by rw [hB, a1, a2, a4]; rfl))
      refine bifF (by rw [a4]; rfl) ?_
      rcases bTF (fa == o) with a5 | a5
      · exact bifT a5 (no (by rw [hB, a1, a2, a3, a4]; unfold bne; rw [a5]; rfl))
      refine bifF a5 ⟨rfl, bif_of hok fun s1 hs1 => ?_⟩
      replace hs1 : okT s1 (kept n (TS.L ⟨b, len, cap, l⟩)) := hs1
      have ne5 : (fa != o) = true := by unfold bne; rw [a5]; rfl
      have ht : tkOk o op m' fa tt n = true := by rw [hB, a1, a2, a3, a4, ne5]; rfl
      have hln : lnOk o fa m' n = true := by
        show (!(MC.ule n) && (aloneA fa && (aloneM m' && fa != o))) = true
        rw [a2, a3, a4, ne5]; rfl
      have hE : tkE o op m' fa tt n = 0 := by unfold tkE; rw [ht]; rfl
      have hA : tkAns o op m' fa tt ta n = (ta == o && op == BitVec.ofInt 16 1) := by unfold tkAns; rw [ht, Bool.true_and]
      have hLp : tkLd q f o op m' fa tt ta n (TS.L ⟨b, len, cap, l⟩) = tkL q f o m' fa ta n (kept n (TS.L ⟨b, len, cap, l⟩)) := by unfold tkLd; rw [ht]; rfl
      have hs1L : sortB s1.L = true := by rw [hs1.2]; exact sort_kept n hso
      have hk2 : lnLd q f o fa m' n s1.L = keepL q f fa m' n s1.L := by
        unfold lnLd
        rw [hln, hs1.2, kept2]; rfl
      have bneT : ∀ {w : Nat} (x y : BitVec w), (x == y) = true → (x != y) = false := fun x y h => by unfold bne; rw [h]; rfl
      have bneF : ∀ {w : Nat} (x y : BitVec w), (x == y) = false → (x != y) = true := fun x y h => by unfold bne; rw [h]; rfl
      -- what is answered at the end
      have end1 : ∀ (s2 : TS) (t : Nat) (M1 : Mm) (x : SV), 2 ≤ t → M1[0]? = some e0 → M1[1]? = some (rowT (pT m o q f) s2 t) → (∃ c, M1[2]? = some ⟨true, c⟩) → M1[t]? = some (recT' s2) → okT s2 (tkL q f o m' fa ta n (kept n (TS.L ⟨b, len, cap, l⟩))) → x = .tup [tkA m o m' fa (ta == o && op == BitVec.ofInt 16 1), .b (ta == o && op == BitVec.ofInt 16 1), .i 0] → outT (pT m o q f) Q x M1 := fun s2 t M1 x g1 g2 g3 g4 g5 g6 g7 => by
        subst g7
        exact ⟨s2, t, rfl, ⟨by rw [hA, hE], by rw [hLp]; exact g6⟩, g1, g2, g3, g4, g5⟩
      rcases bTF (ta == o) with a6 | a6
      · refine bifT a6 ⟨rfl, bif_of hs1.1 (bif_of (and_t hs1L hq) fun s2 hs2 => bifF (bneT _ _ a6) ?_)⟩
        replace hs2 : okT s2 (lnLd q f o fa m' n s1.L) := hs2
        have hs3 : okT s2 (tkL q f o m' fa ta n (kept n (TS.L ⟨b, len, cap, l⟩))) := by
          rw [hk2, hs1.2] at hs2
          unfold tkL
          rw [a6]; exact hs2
        rcases bTF (op == BitVec.ofInt 16 1) with a7 | a7
        · exact bifF (bneT _ _ a7) (end1 s2 6 _ _ (by decide) rfl rfl ⟨_, rfl⟩ rfl hs3 (by rw [a6, a7]; rfl))
        · exact bifT (bneF _ _ a7) (end1 s2 6 _ _ (by decide) rfl rfl ⟨_, rfl⟩ rfl hs3 (by rw [a6, a7]; rfl))
      · refine bifF a6 ⟨rfl, bif_of hs1.1 (bif_of hs1L ?_)⟩
        rcases bTF (isL fa s1.L) with a8 | a8
        · refine bifT (by show ile 0 (fnI fa s1.L) = true; rw [fnI_pos a8]; exact ile_of (by omega)) ⟨rfl, bif_of hs1.1 (bif_of (and_t hs1L hq) fun s2 hs2 => bifT (bneF _ _ a6) ?_)⟩
          replace hs2 : okT s2 (lnLd q f o fa m' n s1.L) := hs2
          have hs3 : okT s2 (tkL q f o m' fa ta n (kept n (TS.L ⟨b, len, cap, l⟩))) := by
            rw [hk2] at hs2
            unfold tkL
            rw [a6, ← hs1.2, a8]; exact hs2
          exact end1 s2 7 _ _ (by decide) rfl rfl ⟨_, rfl⟩ rfl hs3 (by rw [a6]; rfl)
        · refine bifF (by show ile 0 (fnI fa s1.L) = false; rw [fnI_neg a8]; rfl) (bifT (bneF _ _ a6) ?_)
          exact end1 s1 6 _ _ (by decide) rfl rfl ⟨_, rfl⟩ rfl (by unfold tkL; rw [a6, ← hs1.2, a8]; exact ⟨hs1.1, rfl⟩) (by rw [a6]; rfl)
    · rintro r M' ⟨s', ⟨rfl, hs⟩, rfl⟩
      have := h s' hs
      rw [putT_eq] at this
      exact this
  · exact h.elim
end Go.Proofs.YtedcileokcbohaaDoor
