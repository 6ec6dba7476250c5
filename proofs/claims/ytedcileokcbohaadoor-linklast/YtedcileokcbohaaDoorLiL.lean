/-
  link: a table's calls. No statement is proved here.
-/
import Derived.Test.YtedcileokcbohaaDoorLiM
namespace Go.Proofs.YtedcileokcbohaaDoor
open Go.RowKit
set_option linter.unusedVariables false
set_option linter.unusedSimpArgs false
set_option maxRecDepth 100000

def TL (AI : BitVec 16 → Tx → Tx → Bool) (O : BitVec 32 → BitVec 32 → Tx → Bool) : PT := ((((T0.add 42 cNone).add 37 (cArp AI)).add 44 (cOth O)).add 47 cSay).add 40 cCl
def CL : CT := (((noC.add 43 cPass).add 45 cFind).add 46 cKeep).add 50 cClnN
def EL (AI : BitVec 16 → Tx → Tx → Bool) (O : BitVec 32 → BitVec 32 → Tx → Bool) : Env := ⟨G, TL AI O, CL⟩
theorem el_ok : EnvOk Tryd.prog (EL (arpOk isM) othR) := ⟨PT.add_ok (PT.add_ok (PT.add_ok (PT.add_ok (PT.add_ok t0_ok none_ok) isArp_ok) oth_ok) say_ok) clone_ok, CT.add_ok (CT.add_ok (CT.add_ok (CT.add_ok (noC_ok _ _) pass_ok) find_ok) keep_ok) clnN_ok⟩
theorem all_kept {n : BitVec 64} {L : List Nr} {p : Nr → Prop} (h : ∀ r ∈ L, p r) : ∀ r ∈ kept n L, p r := fun r hr => h r (List.mem_filter.1 hr).1
theorem sort_kept (n : BitVec 64) : ∀ {L : List Nr}, sortB L = true → sortB (kept n L) = true
  | [], _ => rfl
  | r :: l, h => by
    obtain ⟨h1, h2⟩ := sort_cons.1 h
    have ih := sort_kept n h2
    unfold kept at ih ⊢
    cases hd : del n r
    · rw [List.filter_cons_of_pos (by rw [hd]; rfl)]
      exact sort_cons.2 ⟨fun s hs => h1 s (List.mem_filter.1 hs).1, ih⟩
    · rw [List.filter_cons_of_neg (by rw [hd]; decide)]; exact ih
theorem sort_pas (n : BitVec 64) {L : List Nr} (h : sortB L = true) : sortB (pasL n L) = true := by
  unfold pasL
  cases MC.ule n
  · exact sort_kept n h
  · exact h
-- Learn
def lnOk (own a : BitVec 32) (m : Tx) (n : BitVec 64) : Bool := !(MC.ule n) && othR own a m
def lnE (q : Int) (own a : BitVec 32) (m : Tx) (n : BitVec 64) (L : List Nr) : Int := bif lnOk own a m n then keepE q a (kept n L) else 2
def lnL (q : Int) (f : BitVec 64) (own a : BitVec 32) (m : Tx) (n : BitVec 64) (L : List Nr) : List Nr := bif lnOk own a m n then keepL q f a m n (kept n L) else pasL n L
theorem v26 (AI : BitVec 16 → Tx → Tx → Bool) (O : BitVec 32 → BitVec 32 → Tx → Bool) (mac m : Tx) (own a : BitVec 32) (q : Int) (f n : BitVec 64) (s : TS) (K : SV → Mm → Prop) : (vf Tryd.prog (EL AI O) noL 26 [.ptr 1 0, .w32 a, .s m, .w64 n] (M0T (pT mac own q f) s) K) = (bif q == 0 then K (SV.i 1) (M0T (pT mac own q f) s) else s.b = s.b ∧ bif (mkT s.b s.len s.cap s.l).ok then ∀ (s' : TS), okT s' (pasL n (mkT s.b s.len s.cap s.l).L) → bif !!MC.ule n then K (SV.i 2) [e0, { rw := true, c := Cont.row [SV.s mac, SV.w32 own, SV.i q, SV.w64 f, SV.ns s'.b (List.length (M0T (pT mac own q f) s)) 3 s'.len s'.cap] }, goneE, recT' s'] else bif bif false then true else !O own a m then K (SV.i 2) [e0, { rw := true, c := Cont.row [SV.s mac, SV.w32 own, SV.i q, SV.w64 f, SV.ns s'.b (List.length (M0T (pT mac own q f) s)) 3 s'.len s'.cap] }, goneE, recT' s'] else s'.b = s'.b ∧ bif (mkT s'.b s'.len s'.cap s'.l).ok then bif sortB (mkT s'.b s'.len s'.cap s'.l).L && ((List.length m).ble 4294967296 && ile q 64) then ∀ (s'_1 : TS), okT s'_1 (keepL q f a m n (mkT s'.b s'.len s'.cap s'.l).L) → K (SV.i (keepE q a (mkT s'.b s'.len s'.cap s'.l).L)) [e0, { rw := true, c := Cont.row [SV.s mac, SV.w32 own, SV.i q, SV.w64 f, SV.ns s'_1.b (0 + 1 + 1 + 1 + 1) 3 s'_1.len s'_1.cap] }, goneE, goneE, recT' s'_1] else False else False else False) := by kernel_rfl
theorem v26z (AI : BitVec 16 → Tx → Tx → Bool) (O : BitVec 32 → BitVec 32 → Tx → Bool) (m : Tx) (a : BitVec 32) (n : BitVec 64) (K : SV → Mm → Prop) : (vf Tryd.prog (EL AI O) noL 26 [.v (.pointer none), .w32 a, .s m, .w64 n] G K) = (K (SV.i 1) G) := by kernel_rfl
def okQ (q : Int) : Bool := ile 1 q && ile q 64
theorem okQ_ne {q : Int} (h : okQ q = true) : (q == 0) = false := by
  unfold okQ at h
  rw [Bool.and_eq_true, ile_eq] at h
  have := of_decide_eq_true h.1
  rw [beq_eq_false_iff_ne]; omega
theorem okQ_le {q : Int} (h : okQ q = true) : ile q 64 = true := by
  unfold okQ at h
  rw [Bool.and_eq_true] at h
  exact h.2
def cLearn : List SV → Mm → (SV → Mm → Prop) → Prop
  | [.ptr k off, .w32 a, .s m', .w64 n], M, K => onT M k off fun m o q f s j => vsome (sortB s.L && (Nat.ble m'.length 4294967296 && okQ q)) (∀ s', okT s' (lnL q f o a m' n s.L) → putT M k j m o q f s' (K (.i (lnE q o a m' n s.L))))
  | [.v (.pointer none), .w32 _, .s _, .w64 _], M, K => K (.i 1) M
  | _, _, _ => False
/-- What is left to show of a call that changes a table. -/
def outT (p : List SV) (Q : SV → TS → Prop) (r : SV) (M1 : Mm) : Prop := ∃ s' t, r.wf 0 = true ∧ Q r s' ∧ 2 ≤ t ∧ M1[0]? = some e0 ∧ M1[1]? = some (rowT p s' t) ∧ (∃ c, M1[2]? = some ⟨true, c⟩) ∧ M1[t]? = some (recT' s')
theorem learn_ok : COk Tryd.prog G 26 cLearn := by
  intro args M K h
  unfold cLearn at h
  split at h
  · rename_i k off a m' n
    obtain ⟨m, o, q, f, s, j, hk, hj, hne, rfl, hok, h⟩ := onT_ok h
    obtain ⟨hso, h⟩ := vsome_iff.1 h
    simp only [Bool.and_eq_true] at hso
    obtain ⟨hso, hml, hq⟩ := hso
    refine Spec.imp (tab_eff (Q := fun r s' => r = .i (lnE q o a m' n s.L) ∧ okT s' (lnL q f o a m' n s.L)) rfl rfl (vf_ok el_ok mixed (noL_ok _ _ _ _) (of_eq (v26 (arpOk isM) othR m m' o a q f n s (outT (pT m o q f) fun r s' => r = .i (lnE q o a m' n s.L) ∧ okT s' (lnL q f o a m' n s.L))) ?_)) (fun r M1 h => h) hk hj hne) ?_
    · rw [okQ_ne hq]
      refine ⟨rfl, bif_of hok fun s1 hs1 => ?_⟩
      replace hs1 : okT s1 (pasL n s.L) := hs1
      have hp := sort_pas n hso
      unfold lnE lnL lnOk
      cases hc : MC.ule n
      · have e : pasL n s.L = kept n s.L := by unfold pasL; rw [hc]; rfl
        rw [e] at hs1 hp
        show bif bif false then true else !othR o a m' then _ else _
        cases ho : othR o a m'
        · exact ⟨s1, 3, rfl, ⟨rfl, by rw [e]; exact hs1⟩, by decide, rfl, rfl, ⟨_, rfl⟩, rfl⟩
        · refine ⟨rfl, bif_of hs1.1 (bif_of (and_t (show sortB s1.L = true by rw [hs1.2]; exact hp) (and_t hml (okQ_le hq))) fun s2 hs2 => ?_)⟩
          replace hs2 : okT s2 (keepL q f a m' n s1.L) := hs2
          rw [hs1.2] at hs2
          refine ⟨s2, 4, rfl, ⟨?_, hs2⟩, by decide, rfl, rfl, ⟨_, rfl⟩, rfl⟩
          show SV.i (keepE q a s1.L) = _
          rw [hs1.2]; rfl
      · exact ⟨s1, 3, rfl, ⟨rfl, hs1⟩, by decide, rfl, rfl, ⟨_, rfl⟩, rfl⟩
    · rintro r M' ⟨s', ⟨rfl, hs⟩, rfl⟩
      have := h s' hs
      rw [putT_eq] at this
      exact this
  · rename_i a m' n
    refine eff_of (R := []) (args0 := [.v (.pointer none), .w32 a, .s m', .w64 n]) (K0 := fun r M => r = .i 1 ∧ M = G) [] (vf_ok (M := G) el_ok mixed (noL_ok _ _ _ _) (of_eq (v26z _ _ m' a n _) ⟨rfl, rfl⟩)) rfl rfl List.nodup_nil trivial ?_
    rintro r1 M1 ⟨rfl, rfl⟩
    rw [show back G [] M (sig G.length []) G = M from List.append_nil M]
    exact h
  · exact h.elim
-- Lookup
def lkB (a : BitVec 32) (n : BitVec 64) (L : List Nr) : Bool := !(MC.ule n) && isL a (kept n L)
def lkT (a : BitVec 32) (n : BitVec 64) (L : List Nr) : Tx := bif lkB a n L then ((kept n L).getD (cntL a (kept n L)) (rz NF)).2.1 else []
def lkE (a : BitVec 32) (n : BitVec 64) (L : List Nr) : Int := bif MC.ule n then 2 else bif isL a (kept n L) then 0 else 5
theorem v28 (AI : BitVec 16 → Tx → Tx → Bool) (O : BitVec 32 → BitVec 32 → Tx → Bool) (mac : Tx) (own a : BitVec 32) (q : Int) (f n : BitVec 64) (s : TS) (K : SV → Mm → Prop) : (vf Tryd.prog (EL AI O) noL 28 [.ptr 1 0, .w32 a, .w64 n] (M0T (pT mac own q f) s) K) = (bif q == 0 then K (SV.tup [SV.s (bts { data := #[] }), SV.i 1]) (M0T (pT mac own q f) s) else s.b = s.b ∧ bif (mkT s.b s.len s.cap s.l).ok then ∀ (s' : TS), okT s' (pasL n (mkT s.b s.len s.cap s.l).L) → bif !!MC.ule n then K (SV.tup [SV.s (bts { data := #[] }), SV.i 2]) [e0, { rw := true, c := Cont.row [SV.s mac, SV.w32 own, SV.i q, SV.w64 f, SV.ns s'.b (List.length (M0T (pT mac own q f) s)) 3 s'.len s'.cap] }, goneE, recT' s'] else s'.b = s'.b ∧ bif (mkT s'.b s'.len s'.cap s'.l).ok then bif sortB (mkT s'.b s'.len s'.cap s'.l).L then bif !isL a (mkT s'.b s'.len s'.cap s'.l).L then K (SV.tup [SV.s (bts { data := #[] }), SV.i 5]) [e0, { rw := true, c := Cont.row [SV.s mac, SV.w32 own, SV.i q, SV.w64 f, SV.ns (mkT s'.b s'.len s'.cap s'.l).b (0 + 1 + 1 + 1 + 1) 3 (mkT s'.b s'.len s'.cap s'.l).len (mkT s'.b s'.len s'.cap s'.l).cap] }, goneE, goneE, recT' (mkT s'.b s'.len s'.cap s'.l)] else bif !(mkT s'.b s'.len s'.cap s'.l).b && inR (↑(cntL a (mkT s'.b s'.len s'.cap s'.l).L) : Int) (mkT s'.b s'.len s'.cap s'.l).len then bif !(mkT s'.b s'.len s'.cap s'.l).b && rok 0 (cntL a (mkT s'.b s'.len s'.cap s'.l).L) 3 NF [] (mkT s'.b s'.len s'.cap s'.l).l.length then K (SV.tup [SV.s ((mkT s'.b s'.len s'.cap s'.l).l.getD (cntL a (mkT s'.b s'.len s'.cap s'.l).L) (rz NF)).snd.fst, SV.i 0]) [e0, { rw := true, c := Cont.row [SV.s mac, SV.w32 own, SV.i q, SV.w64 f, SV.ns (mkT s'.b s'.len s'.cap s'.l).b (0 + 1 + 1 + 1 + 1) 3 (mkT s'.b s'.len s'.cap s'.l).len (mkT s'.b s'.len s'.cap s'.l).cap] }, goneE, goneE, recT' (mkT s'.b s'.len s'.cap s'.l)] else False else False else False else False else False) := by kernel_rfl
theorem v28z (AI : BitVec 16 → Tx → Tx → Bool) (O : BitVec 32 → BitVec 32 → Tx → Bool) (a : BitVec 32) (n : BitVec 64) (K : SV → Mm → Prop) : (vf Tryd.prog (EL AI O) noL 28 [.v (.pointer none), .w32 a, .w64 n] G K) = (K (SV.tup [SV.s (bts { data := #[] }), SV.i 1]) G) := by kernel_rfl
def cLook : List SV → Mm → (SV → Mm → Prop) → Prop
  | [.ptr k off, .w32 a, .w64 n], M, K => onT M k off fun m o q f s j => vsome (sortB s.L && okQ q) (∀ s', okT s' (pasL n s.L) → putT M k j m o q f s' (K (.tup [.s (lkT a n s.L), .i (lkE a n s.L)])))
  | [.v (.pointer none), .w32 _, .w64 _], M, K => K (.tup [.s [], .i 1]) M
  | _, _, _ => False
theorem is_lt {a : BitVec 32} {L : List Nr} (hs : sortB L = true) (h : isL a L = true) : cntL a L < L.length := by
  rw [is_cnt a L hs] at h
  cases hb : Nat.blt (cntL a L) L.length
  · rw [hb] at h; cases h
  · exact blt_lt hb
theorem nb_of {s : TS} (hok : s.ok = true) {i : Nat} (hi : i < s.L.length) : (!s.b) = true ∧ i < s.len ∧ i < s.l.length := by
  have hL := TS.L_len hok
  obtain ⟨o1, o2, o3, o4⟩ := TS.ok_iff.1 hok
  refine ⟨?_, by omega, by omega⟩
  cases hb : s.b
  · rfl
  · rw [hb] at o1
    have : s.len = 0 := Nat.eq_of_beq_eq_true o1
    omega
theorem look_ok : COk Tryd.prog G 28 cLook := by
  intro args M K h
  unfold cLook at h
  split at h
  · rename_i k off a n
    obtain ⟨m, o, q, f, s, j, hk, hj, hne, rfl, hok, h⟩ := onT_ok h
    obtain ⟨hso, h⟩ := vsome_iff.1 h
    simp only [Bool.and_eq_true] at hso
    obtain ⟨hso, hq⟩ := hso
    refine Spec.imp (tab_eff (Q := fun r s' => r = .tup [.s (lkT a n s.L), .i (lkE a n s.L)] ∧ okT s' (pasL n s.L)) rfl rfl (vf_ok el_ok mixed (noL_ok _ _ _ _) (of_eq (v28 (arpOk isM) othR m o a q f n s (outT (pT m o q f) fun r s' => r = .tup [.s (lkT a n s.L), .i (lkE a n s.L)] ∧ okT s' (pasL n s.L))) ?_)) (fun r M1 h => h) hk hj hne) ?_
    · rw [okQ_ne hq]
      refine ⟨rfl, bif_of hok fun s1 hs1 => ?_⟩
      replace hs1 : okT s1 (pasL n s.L) := hs1
      have hp := sort_pas n hso
      cases hc : MC.ule n
      · have e : pasL n s.L = kept n s.L := by unfold pasL; rw [hc]; rfl
        have hs1' := hs1
        rw [e] at hs1' hp
        have hs1L : sortB s1.L = true := by rw [hs1'.2]; exact hp
        refine ⟨rfl, bif_of hs1.1 (bif_of hs1L ?_)⟩
        show bif !isL a s1.L then _ else _
        rw [hs1'.2]
        cases hi : isL a (kept n s.L)
        · refine ⟨s1, 4, rfl, ⟨?_, hs1⟩, by decide, rfl, rfl, ⟨_, rfl⟩, rfl⟩
          unfold lkT lkE lkB
          rw [hc, hi]; rfl
        · have hlt := is_lt hp hi
          have hlt' : cntL a (kept n s.L) < s1.L.length := by rw [hs1'.2]; exact hlt
          obtain ⟨b1, b2, b3⟩ := nb_of hs1.1 hlt'
          have b4 : s1.len ≤ 4294967296 := Nat.le_trans (TS.ok_iff.1 hs1.1).2.2.2 (by decide)
          have b5 : (rok 0 (cntL a (kept n s.L)) 3 NF [] s1.l.length) = true := by
            have := rok0 b3
            rw [Bool.and_true] at this; exact this
          have e2 : s1.l.getD (cntL a (kept n s.L)) (rz NF) = (kept n s.L).getD (cntL a (kept n s.L)) (rz NF) := by
            rw [← hs1'.2]; exact (getD_take _ _ _ _ (by rw [hs1'.2]; exact b2)).symm
          refine bif_of (show (!s1.b && inR (cntL a s1.L : Int) s1.len) = true by rw [hs1'.2]; exact and_t b1 (inRn b2 b4)) (bif_of (show (!s1.b && rok 0 (cntL a s1.L) 3 NF [] s1.l.length) = true by rw [hs1'.2]; exact and_t b1 b5) ?_)
          refine ⟨s1, 4, rfl, ⟨?_, hs1⟩, by decide, rfl, rfl, ⟨_, rfl⟩, rfl⟩
          show SV.tup [.s (s1.l.getD (cntL a s1.L) (rz NF)).2.1, .i 0] = _
          rw [hs1'.2, e2]
          unfold lkT lkE lkB
          rw [hc, hi]; rfl
      · refine ⟨s1, 3, rfl, ⟨?_, hs1⟩, by decide, rfl, rfl, ⟨_, rfl⟩, rfl⟩
        unfold lkT lkE lkB
        rw [hc]; rfl
    · rintro r M' ⟨s', ⟨rfl, hs⟩, rfl⟩
      have := h s' hs
      rw [putT_eq] at this
      exact this
  · rename_i a n
    refine eff_of (R := []) (args0 := [.v (.pointer none), .w32 a, .w64 n]) (K0 := fun r M => r = .tup [.s [], .i 1] ∧ M = G) [] (vf_ok (M := G) el_ok mixed (noL_ok _ _ _ _) (of_eq (v28z _ _ a n _) ⟨rfl, rfl⟩)) rfl rfl List.nodup_nil trivial ?_
    rintro r1 M1 ⟨rfl, rfl⟩
    rw [show back G [] M (sig G.length []) G = M from List.append_nil M]
    exact h
  · exact h.elim
end Go.Proofs.YtedcileokcbohaaDoor
