/-
  link: a table's calls. No statement is proved here.
-/
import Derived.Test.YtedcileokcbohaaDoorLiM
namespace Go.Proofs.YtedcileokcbohaaDoor
open Go.RowKit
set_option linter.unusedVariables false
set_option linter.unusedSimpArgs false
set_option maxRecDepth 100000

def TL (AI : BitVec 16 → Tx → Tx → Bool) (O : BitVec 32 → BitVec 32 → Tx → Bool) : PT := ((((T0.add 42 cNone).add 37 (cArp AI)).add 44 (cOth O)).add 47 cSay).add 40 cCl
def CL : CT := (((noC.add 43 cPass).add 45 cFind).add 46 cKeep).add 50 cClnN
def EL (AI : BitVec 16 → Tx → Tx → Bool) (O : BitVec 32 → BitVec 32 → Tx → Bool) : Env := ⟨G, TL AI O, CL⟩
theorem el_ok : EnvOk Tryd.prog (EL (arpOk isM) othR) := ⟨PT.add_ok (PT.add_ok (PT.add_ok (PT.add_ok (PT.add_ok t0_ok none_ok) isArp_ok) oth_ok) say_ok) clone_ok, CT.add_ok (CT.add_ok (CT.add_ok (CT.add_ok (noC_ok _ _) pass_ok) find_ok) keep_ok) clnN_ok⟩
theorem all_kept {n : BitVec 64} {L : List Nr} {p : Nr → Prop} (h : ∀ r ∈ L, p r) : ∀ r ∈ kept n L, p r := fun r hr => h r (List.mem_filter.1 hr).1
theorem sort_kept (n : BitVec 64) : ∀ {L : List Nr}, sortB L = true → sortB (kept n L) = true
  | [], _ => rfl
  | r :: l, h => by
    obtain ⟨h1, h2⟩ := sort_cons.1 h
    have ih := sort_kept n h2
    unfold kept at ih ⊢
    cases hd : del n r
    · rw [List.filter_cons_of_pos (by rw [hd]; rfl)]
      exact sort_cons.2 ⟨fun s hs => h1 s (List.mem_filter.1 hs).1, ih⟩
    · rw [List.filter_cons_of_neg (by rw [hd]; decide)]; exact ih
theorem sort_pas (n : BitVec 64) {L : List Nr} (h : sortB L = true) : sortB (pasL n L) = true := by
  unfold pasL
  cases MC.ule n
  · exact sort_kept n h
  · exact h
-- Learn
def lnOk (own a : BitVec 32) (m : Tx) (n : BitVec 64) : Bool := !(MC.ule n) && othR own a m
def lnE (q : Int) (own a : BitVec 32) (m : Tx) (n : BitVec 64) (L : List Nr) : Int := bif lnOk own a m n then keepE q a (kept n L) else 2
def lnL (q : Int) (f : BitVec 64) (own a : BitVec 32) (m : Tx) (n : BitVec 64) (L : List Nr) : List Nr := bif lnOk own a m n then keepL q f a m n (kept n L) else pasL n L
theorem v26 (AI : BitVec 16 → Tx → Tx → Bool) (O : BitVec 32 → BitVec 32 → Tx → Bool) (mac m : Tx) (own a : BitVec 32) (q : Int) (f n : BitVec 64) (s : TS) (K : SV → Mm → Prop) : (vf Tryd.prog (EL AI O) noL 26 [.ptr 1 0, .w32 a, .s m, .w64 n] (M0T (pT mac own q f) s) K) = (bif q == 0 then K (SV.i 1) (M0T (pT mac own q f) s) else s.b = s.b ∧ bif (mkT s.b s.len s.cap s.l).ok then ∀ (s' : TS), okT s' (pasL n (mkT s.b s.len s.cap s.l).L) → bif !!MC.ule n then K (SV.i 2) [e0, { rw := true, c := Cont.row [SV.s mac, SV.w32 own, SV.i q, SV.w64 f, SV.ns s'.b (List.length (M0T (pT mac own q f) s)) 3 s'.len s'.cap] }, goneE, recT' s'] else bif bif false then true else !O own a m then K (SV.i 2) [e0, { rw := true, c := Cont.row [SV.s mac, SV.w32 own, SV.i q, SV.w64 f, SV.ns s'.b (List.length (M0T (pT mac own q f) s)) 3 s'.len s'.cap] }, goneE, recT' s'] else s'.b = s'.b ∧ bif (mkT s'.b s'.len s'.cap s'.l).ok then bif sortB (mkT s'.b s'.len s'.cap s'.l).L && ((List.length m).ble 4294967296 && ile q 64) then ∀ (s'_1 : TS), okT s'_1 (keepL q f a m n (mkT s'.b s'.len s'.cap s'.l).L) → K (SV.i (keepE q a (mkT s'.b s'.len s'.cap s'.l).L)) [e0, { rw := true, c := Cont.row [SV.s mac, SV.w32 own, SV.i q, SV.w64 f, SV.ns s'_1.b (0 + 1 + 1 + 1 + 1) 3 s'_1.len s'_1.cap] }, goneE, goneE, recT' s'_1] else False else False else False) := by kernel_rfl
theorem v26z (AI : BitVec 16 → Tx → Tx → Bool) (O : BitVec 32 → BitVec 32 → Tx → Bool) (m : Tx) (a : BitVec 32) (n : BitVec 64) (K : SV → Mm → Prop) : (vf Tryd.prog (EL AI O) noL 26 [.v (.pointer none), .w32 a, .s m, .w64 n] G K) = (K (SV.i 1) G) := by kernel_rfl
def okQ (q : Int) : Bool := ile 1 q && ile q 64
theorem okQ_ne {q : Int} (h : okQ q = true) : (q == 0) = false := by
  unfold okQ at h
  rw [Bool.and_eq_true, ile_eq] at h
  have := of_decide_eq_true h.1
  rw [beq_eq_false_iff_ne]; omega
theorem okQ_le {q : Int} (h : okQ q = true) : ile q 64 = true := by
  unfold okQ at h
  rw [Bool.and_eq_true] at h
  exact h.2
def cLearn : List SV → Mm → (SV → Mm → Prop) → Prop
  | [.ptr k off, .w32 a, .s m', .w64 n], M, K => onT M k off fun m o q f s j => vsome (sortB s.L && (Nat.ble m'.length 4294967296 && okQ q)) (∀ s', okT s' (lnL q f o a m' n s.L) → putT M k j m o q f s' (K (.i (lnE q o a m' n s.L))))
  | [.v (.pointer none), .w32 _, .s _, .w64 _], M, K => K (.i 1) M
  | _, _, _ => False
/-- What is left to show of a call that changes a table. -/
def outT (p : List SV) (Q : SV → TS → Prop) (r : SV) (M1 : Mm) : Prop := ∃ s' t, r.wf 0 = true ∧ Q r s' ∧ 2 ≤ t ∧ M1[0]? = some e0 ∧ M1[1]? = some (rowT p s' t) ∧ (∃ c, M1[2]? = some ⟨true, c⟩) ∧ M1[t]? = some (recT' s')
theorem learn_ok : COk Tryd.prog G 26 cLearn := by
  intro args M K h
  unfold cLearn at h
  split at h
  · rename_i k off a m' n
    obtain ⟨m, o, q, f, s, j, hk, hj, hne, rfl, hok, h⟩ := onT_ok h
    obtain ⟨hso, h⟩ := vsome_iff.1 h
    simp only [Bool.and_eq_true] at hso
    obtain ⟨hso, hml, hq⟩ := hso
    refine Spec.imp (tab_eff (Q := fun r s' => r = .i (lnE q o a m' n s.L) ∧ okT s' (lnL q f o a m' n s.L)) rfl rfl (vf_ok el_ok mixed (noL_ok _ _ _ _) (of_eq (v26 (arpOk isM) othR m m' o a q f n s (outT (pT m o q f) fun r s' => r = .i (lnE q o a m' n s.L) ∧ okT s' (lnL q f o a m' n s.L))) ?_)) (fun r M1 h => h) hk hj hne) ?_
    · rw [okQ_ne hq]
      refine ⟨rfl, bif_of hok fun s1 hs1 => ?_⟩
      replace hs1 : okT s1 (pasL n s.L) := hs1
      have hp := sort_pas n hso
      unfold lnE lnL lnOk
      cases hc : MC.ule n
      · have e : pasL n s.L = kept n s.L := by unfold pasL; rw [hc]; rfl
        rw [e] at hs1 hp
        show bif bif false then true else !othR o a m' then _ else _
        cases ho : othR o a m'
        · exact ⟨s1, 3, rfl, ⟨rfl, by rw [e]; exact hs1⟩, by decide, rfl, rfl, ⟨_, rfl⟩, rfl⟩
        · refine ⟨rfl, bif_of hs1.1 (bif_of (and_t (show sortB s1.L = true by rw [hs1.2]; exact hp) (and_t hml (okQ_le hq))) fun s2 hs2 => ?_)⟩
          replace hs2 : okT s2 (keepL q f a m' n s1.L) := hs2
          rw [hs1.2] at hs2
          refine ⟨s2, 4, rfl, ⟨?_, hs2⟩, by decide, rfl, rfl, ⟨_, rfl⟩, rfl⟩
          show SV.i (keepE q a s1.L) = _
          rw [hs1.2]; rfl
      · exact ⟨s1, 3, rfl, ⟨rfl, hs1⟩, by decide, rfl, rfl, ⟨_, rfl⟩, rfl⟩
    · rintro r M' ⟨s', ⟨rfl, hs⟩, rfl⟩
      have := h s' hs
      rw [putT_eq] at this
      exact this
  · rename_i a m' n
    refine eff_of (R := []) (args0 := [.v (.pointer none), .w32 a, .s m', .w64 n]) (K0 := fun r M => r = .i 1 ∧ M = G) [] (vf_ok (M := G) el_ok mixed (noL_ok _ _ _ _) (of_eq (v26z _ _ m' a n _) ⟨rfl, rfl⟩)) rfl rfl List.nodup_nil trivial ?_
    rintro r1 M1 ⟨rfl, rfl⟩
    rw [show back G [] M (sig G.length []) G = M from List.append_nil M]
    exact h
  · exact h.elim
-- Lookup
def lkB (a : BitVec 32) (n : BitVec 64) (L : List Nr) : Bool := !(MC.ule n) && isL a (kept n L)
def lkT (a : BitVec 32) (n : BitVec 64) (L : List Nr) : Tx := bif lkB a n L then ((kept n L).getD (cntL a (kept n L)) (rz NF)).2.1 else []
def lkE (a : BitVec 32) (n : BitVec 64) (L : List Nr) : Int := bif MC.ule n then 2 else bif isL a (kept n L) then 0 else 5
theorem v28 (AI : BitVec 16 → Tx → Tx → Bool) (O : BitVec 32 → BitVec 32 → Tx → Bool) (mac : Tx) (own a : BitVec 32) (q : Int) (f n : BitVec 64) (s : TS) (K : SV → Mm → Prop) : (vf Tryd.prog (EL AI O) noL 28 [.ptr 1 0, .w32 a, .w64 n] (M0T (pT mac own q f) s) K) = (bif q == 0 then K (SV.tup [SV.s (bts { data := #[] }), SV.i 1]) (M0T (pT mac own q f) s) else s.b = s.b ∧ bif (mkT s.b s.len s.cap s.l).ok then ∀ (s' : TS), okT s' (pasL n (mkT s.b s.len s.cap s.l).L) → bif !!MC.ule n then K (SV.tup [SV.s (bts { data := #[] }), SV.i 2]) [e0, { rw := true, c := Cont.row [SV.s mac, SV.w32 own, SV.i q, SV.w64 f, SV.ns s'.b (List.length (M0T (pT mac own q f) s)) 3 s'.len s'.cap] }, goneE, recT' s'] else s'.b = s'.b ∧ bif (mkT s'.b s'.len s'.cap s'.l).ok then bif sortB (mkT s'.b s'.len s'.cap s'.l).L then bif !isL a (mkT s'.b s'.len s'.cap s'.l).L then K (SV.tup [SV.s (bts { data := #[] }), SV.i 5]) [e0, { rw := true, c := Cont.row [SV.s mac, SV.w32 own, SV.i q, SV.w64 f, SV.ns (mkT s'.b s'.len s'.cap s'.l).b (0 + 1 + 1 + 1 + 1) 3 (mkT s'.b s'.len s'.cap s'.l).len (mkT s'.b s'.len s'.cap s'.l).cap] }, goneE, goneE, recT' (mkT s'.b s'.len s'.cap s'.l)] else bif !(mkT s'.b s'.len s'.cap s'.l).b && inR (↑(cntL a (mkT s'.b s'.len s'.cap s'.l).L) : Int) (mkT s'.b s'.len s'.cap s'.l).len then bif !(mkT s'.b s'.len s'.cap s'.l).b && rok 0 (cntL a (mkT s'.b s'.len s'.cap s'.l).L) 3 NF [] (mkT s'.b s'.len s'.cap s'.l).l.length then K (SV.tup [SV.s ((mkT s'.b s'.len s'.cap s'.l).l.getD (cntL a (mkT s'.b s'.len s'.cap s'.l).L) (rz NF)).snd.fst, SV.i 0]) [e0, { rw := true, c := Cont.row [SV.s mac, SV.w32 own, SV.i q, SV.w64 f, SV.ns (mkT s'.b s'.len s'.cap s'.l).b (0 + 1 + 1 + 1 + 1) 3 (mkT s'.b s'.len s'.cap s'.l).len (mkT s'.b s'.len s'.cap s'.l).cap] }, goneE, goneE, recT' (mkT s'.b s'.len s'.cap s'.l)] else False else False else False else False else False) := by kernel_rfl
theorem v28z (AI : BitVec 16 → Tx → Tx → Bool) (O : BitVec 32 → BitVec 32 → Tx → Bool) (a : BitVec 32) (n : BitVec 64) (K : SV → Mm → Prop) : (vf Tryd.prog (EL AI O) noL 28 [.v (.pointer none), .w32 a, .w64 n] G K) = (K (SV.tup [SV.s (bts { data := #[] }), SV.i 1]) G) := by kernel_rfl
def cLook : List SV → Mm → (SV → Mm → Prop) → Prop
  | [.ptr k off, .w32 a, .w64 n], M, K => onT M k off fun m o q f s j => vsome (sortB s.L && okQ q) (∀ s', okT s' (pasL n s.L) → putT M k j m o q f s' (K (.tup [.s (lkT a n s.L), .i (lkE a n s.L)])))
  | [.v (.pointer none), .w32 _, .w64 _], M, K => K (.tup [.s [], .i 1]) M
  | _, _, _ => False
theorem is_lt {a : BitVec 32} {L : List Nr} (hs : sortB L = true) (h : isL a L = true) : cntL a L < L.length := by
  rw [is_cnt a L hs] at h
  cases hb : Nat.blt (cntL a L) L.length
  · rw [hb] at h; cases h
  · exact blt_lt hb
theorem nb_of {s : TS} (hok : s.ok = true) {i : Nat} (hi : i < s.L.length) : (!s.b) = true ∧ i < s.len ∧ i < s.l.length := by
  have hL := TS.L_len hok
  obtain ⟨o1, o2, o3, o4⟩ := TS.ok_iff.1 hok
  refine ⟨?_, by omega, by omega⟩
  cases hb : s.b
  · rfl
  · rw [hb] at o1
    have : s.len = 0 := Nat.eq_of_beq_eq_true o1
    omega
theorem look_ok : COk Tryd.prog G 28 cLook := by
  intro args M K h
  unfold cLook at h
  split at h
  · rename_i k off a n
    obtain ⟨m, o, q, f, s, j, hk, hj, hne, rfl, hok, h⟩ := onT_ok h
    obtain ⟨hso, h⟩ := vsome_iff.1 h
    simp only [Bool.and_eq_true] at hso
    obtain ⟨hso, hq⟩ := hso
    refine Spec.imp (tab_eff (Q := fun r s' => r = .tup [.s (lkT a n s.L), .i (lkE a n s.L)] ∧ okT s' (pasL n s.L)) rfl rfl (vf_ok el_ok mixed (noL_ok _ _ _ _) (of_eq (v28 (arpOk isM) othR m o a q f n s (outT (pT m o q f) fun r s' => r = .tup [.s (lkT a n s.L), .i (lkE a n s.L)] ∧ okT s' (pasL n s.L))) ?_)) (fun r M1 h => h) hk hj hne) ?_
    · rw [okQ_ne hq]
      refine ⟨rfl, bif_of hok fun s1 hs1 => ?_⟩
      replace hs1 : okT s1 (pasL n s.L) := hs1
      have hp := sort_pas n hso
      cases hc : MC.ule n
      · have e : pasL n s.L = kept n s.L := by unfold pasL; rw [hc]; rfl
        have hs1' := hs1
        rw [e] at hs1' hp
        have hs1L : sortB s1.L = true := by rw [hs1'.2]; exact hp
        refine ⟨rfl, bif_of hs1.1 (bif_of hs1L ?_)⟩
        show bif !isL a s1.L then _ else _
        rw [hs1'.2]
        cases hi : isL a (kept n s.L)
        · refine ⟨s1, 4, rfl, ⟨?_, hs1⟩, by decide, rfl, rfl, ⟨_, rfl⟩, rfl⟩
          unfold lkT lkE lkB
          rw [hc, hi]; rfl
        · have hlt := is_lt hp hi
          have hlt' : cntL a (kept n s.L) < s1.L.length := by rw [hs1'.2]; exact hlt
          obtain ⟨b1, b2, b3⟩ := nb_of hs1.1 hlt'
          have b4 : s1.len ≤ 4294967296 := Nat.le_trans (TS.ok_iff.1 hs1.1).2.2.2 (by decide)
          have b5 : (rok 0 (cntL a (kept n s.L)) 3 NF [] s1.l.length) = true := by
            have := rok0 b3
            rw [Bool.and_true] at this; exact this
          have e2 : s1.l.getD (cntL a (kept n s.L)) (rz NF) = (kept n s.L).getD (cntL a (kept n s.L)) (rz NF) := by
            rw [← hs1'.2]; exact (getD_take _ _ _ _ (by rw [hs1'.2]; exact b2)).symm
          refine bif_of (show (!s1.b && inR (cntL a s1.L : Int) s1.len) = true by rw [hs1'.2]; exact and_t b1 (inRn b2 b4)) (bif_of (show (!s1.b && rok 0 (cntL a s1.L) 3 NF [] s1.l.length) = true by rw [hs1'.2]; exact and_t b1 b5) ?_)
          refine ⟨s1, 4, rfl, ⟨?_, hs1⟩, by decide, rfl, rfl, ⟨_, rfl⟩, rfl⟩
          show SV.tup [.s (s1.l.getD (cntL a s1.L) (rz NF)).2.1, .i 0] = _
          rw [hs1'.2, e2]
          unfold lkT lkE lkB
          rw [hc, hi]; rfl
      · refine ⟨s1, 3, rfl, ⟨?_, hs1⟩, by decide, rfl, rfl, ⟨_, rfl⟩, rfl⟩
        unfold lkT lkE lkB
        rw [hc]; rfl
    · rintro r M' ⟨s', ⟨rfl, hs⟩, rfl⟩
      have := h s' hs
      rw [putT_eq] at this
      exact this
  · rename_i a n
    refine eff_of (R := []) (args0 := [.v (.pointer none), .w32 a, .w64 n]) (K0 := fun r M => r = .tup [.s [], .i 1] ∧ M = G) [] (vf_ok (M := G) el_ok mixed (noL_ok _ _ _ _) (of_eq (v28z _ _ a n _) ⟨rfl, rfl⟩)) rfl rfl List.nodup_nil trivial ?_
    rintro r1 M1 ⟨rfl, rfl⟩
    rw [show back G [] M (sig G.length []) G = M from List.append_nil M]
    exact h
  · exact h.elim
end Go.Proofs.YtedcileokcbohaaDoor
namespace Go.Proofs.YtedcileokcbohaaDoor
open Go.RowKit
set_option linter.unusedVariables false
set_option linter.unusedSimpArgs false
set_option maxRecDepth 100000

-- Near
theorem v30 (AI : BitVec 16 → Tx → Tx → Bool) (O : BitVec 32 → BitVec 32 → Tx → Bool) (mac : Tx) (own : BitVec 32) (q : Int) (f n : BitVec 64) (s : TS) (K : SV → Mm → Prop) : (vf Tryd.prog (EL AI O) noL 30 [.ptr 1 0, .w64 n] (M0T (pT mac own q f) s) K) = (bif q == 0 then K (SV.v (Value.slice none 0 0)) (M0T (pT mac own q f) s) else s.b = s.b ∧ bif (mkT s.b s.len s.cap s.l).ok then ∀ (s' : TS), okT s' (pasL n (mkT s.b s.len s.cap s.l).L) → s'.b = s'.b ∧ bif (!s'.b || s'.len.beq 0) && (s'.len.ble s'.l.length && s'.len.ble 1000) then ∀ (cap' : Nat) (l' : List Nr), List.take s'.len l' = List.take s'.len s'.l → l'.length = cap' → K (SV.ns s'.b (0 + 1 + 1 + 1 + 1) 3 s'.len cap') [e0, { rw := true, c := Cont.row [SV.s mac, SV.w32 own, SV.i q, SV.w64 f, SV.ns s'.b (List.length (M0T (pT mac own q f) s)) 3 s'.len s'.cap] }, goneE, recT' s', nrE s'.b l'] else False else False) := by kernel_rfl
theorem v30z (AI : BitVec 16 → Tx → Tx → Bool) (O : BitVec 32 → BitVec 32 → Tx → Bool) (n : BitVec 64) (K : SV → Mm → Prop) : (vf Tryd.prog (EL AI O) noL 30 [.v (.pointer none), .w64 n] G K) = (K (SV.v (Value.slice none 0 0)) G) := by kernel_rfl
def cNear : List SV → Mm → (SV → Mm → Prop) → Prop
  | [.ptr k off, .w64 n], M, K => onT M k off fun m o q f s j => vsome (okQ q) (∀ s' s'', okT s' (pasL n s.L) → okT s'' (pasL n s.L) → putT M k j m o q f s' fun M2 => snocK M2 (recT' s'') fun M3 => K (.ns s''.b (M.length + 1) 3 s''.len s''.cap) M3)
  | [.v (.pointer none), .w64 _], M, K => K (.v (.slice none 0 0)) M
  | _, _, _ => False
theorem near_ok : COk Tryd.prog G 30 cNear := by
  intro args M K h
  unfold cNear at h
  split at h
  · rename_i k off n
    obtain ⟨m, o, q, f, s, j, hk, hj, hne, rfl, hok, h⟩ := onT_ok h
    obtain ⟨hq, h⟩ := vsome_iff.1 h
    let Q : RS → TS → Mm → Prop := fun a s' ext => ∃ s'', okT s' (pasL n s.L) ∧ okT s'' (pasL n s.L) ∧ a = ⟨s''.b, 1, s''.len, s''.cap⟩ ∧ ext = [recT' s'']
    refine Spec.imp (effR (Q := Q) rfl rfl (mvR rfl (vf_ok el_ok mixed (noL_ok _ _ _ _) (of_eq (v30 (arpOk isM) othR m o q f n s (fun r M1 => ∃ s' s'' : TS, okT s' (pasL n s.L) ∧ okT s'' (pasL n s.L) ∧ r = .ns s''.b 4 3 s''.len s''.cap ∧ M1 = [e0, rowT (pT m o q f) s' 3, goneE, recT' s', recT' s''])) ?_)) ?_) hk hj hne) ?_
    · rw [okQ_ne hq]
      refine ⟨rfl, bif_of hok fun s1 hs1 => ?_⟩
      replace hs1 : okT s1 (pasL n s.L) := hs1
      have hL := TS.L_len hs1.1
      obtain ⟨o1, o2, o3, o4⟩ := TS.ok_iff.1 hs1.1
      refine ⟨rfl, bif_of (and_t o1 (and_t (ble_of (by rw [o2]; exact o3)) (ble_of (Nat.le_trans o4 (by decide))))) fun cap' l' p1 p2 => ?_⟩
      have hle : s1.len ≤ l'.length := by
        have := congrArg List.length p1
        rw [List.length_take, List.length_take] at this
        omega
      refine ⟨s1, ⟨s1.b, s1.len, cap', l'⟩, hs1, ⟨TS.ok_iff.2 ⟨o1, p2, by show s1.len ≤ cap'; omega, o4⟩, ?_⟩, rfl, rfl⟩
      rw [← hs1.2]; exact p1
    · rintro r M1 ⟨s', s'', h1, h2, rfl, rfl⟩
      refine ⟨⟨s''.b, 1, s''.len, s''.cap⟩, s', [recT' s''], 3, [4], ⟨s'', h1, h2, rfl, rfl⟩, Nat.le_refl _, fun e he => ?_, rfl, rfl, by decide, by decide, fun u hu => ?_, rfl, rfl, ⟨_, rfl⟩, rfl, fun i e he => ?_⟩
      · rw [List.mem_singleton] at he; subst he; exact ⟨rfl, rfl⟩
      · rw [List.mem_singleton] at hu; subst hu; decide
      · match i, he with
        | 0, he => cases he; rfl
        | i + 1, he => cases he
    · rintro r M' ⟨a, s', ext, ⟨s'', h1, h2, rfl, rfl⟩, rfl, rfl⟩
      have := h s' s'' h1 h2
      rw [putT_eq, snocK_eq, List.append_assoc] at this
      exact this
  · rename_i n
    refine eff_of (R := []) (args0 := [.v (.pointer none), .w64 n]) (K0 := fun r M => r = .v (.slice none 0 0) ∧ M = G) [] (vf_ok (M := G) el_ok mixed (noL_ok _ _ _ _) (of_eq (v30z _ _ n _) ⟨rfl, rfl⟩)) rfl rfl List.nodup_nil trivial ?_
    rintro r1 M1 ⟨rfl, rfl⟩
    rw [show back G [] M (sig G.length []) G = M from List.append_nil M]
    exact h
  · exact h.elim
-- Ask
theorem v32 (AI : BitVec 16 → Tx → Tx → Bool) (O : BitVec 32 → BitVec 32 → Tx → Bool) (mac : Tx) (own a : BitVec 32) (q : Int) (f : BitVec 64) (K : SV → Prop) : (vf Tryd.prog (EL AI O) noL 32 [.ptr 1 0, .w32 a] (m42 mac own q f) (fun r _ => K r)) = (bif q == 0 then K (SV.agg [SV.w16 0, SV.s [], SV.w32 0, SV.s [], SV.w32 0]) else K (SV.agg [SV.w16 (BitVec.ofInt 16 1), SV.s mac, SV.w32 own, SV.s (bts { data := #[0, 0, 0, 0, 0, 0] }), SV.w32 a])) := by kernel_rfl
theorem v32z (AI : BitVec 16 → Tx → Tx → Bool) (O : BitVec 32 → BitVec 32 → Tx → Bool) (a : BitVec 32) (K : SV → Prop) : (vf Tryd.prog (EL AI O) noL 32 [.v (.pointer none), .w32 a] G (fun r _ => K r)) = (K (SV.agg [SV.w16 0, SV.s [], SV.w32 0, SV.s [], SV.w32 0])) := by kernel_rfl
def zArp : SV := .agg [.w16 0, .s [], .w32 0, .s [], .w32 0]
def cAsk : List SV → List Cont → Option (Bool × SV)
  | [.ptr _ off, .w32 a], [.row (.s mac :: .w32 own :: .i q :: .w64 _ :: _), _] => some (Nat.beq off 0 && okQ q, .agg [.w16 (BitVec.ofInt 16 1), .s mac, .w32 own, .s Z6, .w32 a])
  | [.v (.pointer none), .w32 _], _ => some (true, .agg [.w16 0, .s [], .w32 0, .s [], .w32 0])
  | _, _ => none
theorem ask_ok : POk Tryd.prog G 32 cAsk := by
  intro args acs r hh β M w hR hw ha
  unfold cAsk at hh
  split at hh
  · rename_i k off a mac own q f more _
    simp only [Option.some.injEq, Prod.mk.injEq, Bool.and_eq_true] at hh
    obtain ⟨⟨h0, hq⟩, rfl⟩ := hh
    obtain rfl := Nat.eq_of_beq_eq_true h0
    simp only [List.map_cons, List.map_nil, List.cons.injEq, and_true] at ha
    refine pureP (l := pT mac own q f) (m := more) (args0 := [.ptr 1 0, .w32 a]) (vf_ok el_ok mixed (noL_ok _ _ _ _) (of_eq (v32 _ _ mac own a q f _) ?_)) rfl rfl rfl rfl hR (tgt_ptr ha.1.symm rfl)
    rw [okQ_ne hq]; rfl
  · simp only [Option.some.injEq, Prod.mk.injEq, true_and] at hh
    subst hh
    exact pokE rfl el_ok (noL_ok _ _ _ _) (v32z _ _ _ _) rfl rfl rfl hR
  · cases hh
-- New
def newB (mac : Tx) (own : BitVec 32) (q : Int) (f : BitVec 64) : Bool := aloneM mac && (aloneA own && (okQ q && (!(f.ult (BitVec.ofInt 64 1)) && !((BitVec.ofInt 64 4294967296).ult f))))
def ENw (AA : BitVec 32 → Bool) (AM : Tx → Bool) : Env := ⟨G, (T0.add 19 (cA AA)).add 17 (cM AM) |>.add 40 cCl, noC⟩
theorem enw_ok : EnvOk Tryd.prog (ENw aloneA aloneM) := ⟨PT.add_ok (PT.add_ok (PT.add_ok t0_ok aloneAddr_ok) alone_ok) clone_ok, noC_ok _ _⟩
theorem v22 (AA : BitVec 32 → Bool) (AM : Tx → Bool) (mac : Tx) (own : BitVec 32) (q : Int) (f : BitVec 64) (K : SV → Mm → Prop) : (vf Tryd.prog (ENw AA AM) noL 22 [.s mac, .w32 own, .i q, .w64 f] G K) = (bif !AM mac then K (SV.tup [SV.v (Value.pointer none), SV.i 2]) G else bif bif false then true else !AA own then K (SV.tup [SV.v (Value.pointer none), SV.i 2]) G else bif bif false then true else ilt q 1 then K (SV.tup [SV.v (Value.pointer none), SV.i 2]) G else bif bif false then true else ilt 64 q then K (SV.tup [SV.v (Value.pointer none), SV.i 2]) G else bif bif false then true else f.ult (BitVec.ofInt 64 1) then K (SV.tup [SV.v (Value.pointer none), SV.i 2]) G else bif bif false then true else (BitVec.ofInt 64 4294967296).ult f then K (SV.tup [SV.v (Value.pointer none), SV.i 2]) G else bif (List.length mac).ble 4294967296 then K (SV.tup [SV.ptr 1 0, SV.i 0]) [{ rw := false, c := Cont.a8 HD }, { rw := true, c := Cont.row [SV.s mac, SV.w32 own, SV.i q, SV.w64 f, SV.v (Value.slice none 0 0)] }] else False) := by kernel_rfl
def s00 : TS := ⟨true, 0, 0, []⟩
theorem alone_len {l : Tx} (h : aloneM l = true) : l.length = 6 := by
  unfold aloneM at h
  cases hm : isM l
  · rw [hm] at h; cases h
  · have := eq_of_beq hm
    omega
theorem okQ_split {q : Int} (h1 : ilt q 1 = false) (h2 : ilt 64 q = false) : okQ q = true := by
  rw [ilt_eq] at h1 h2
  have h1 := of_decide_eq_false h1
  have h2 := of_decide_eq_false h2
  unfold okQ
  exact and_t (ile_of (by omega)) (ile_of (by omega))
theorem okQ_no1 {q : Int} (h1 : ilt q 1 = true) : okQ q = false := by
  rw [ilt_eq] at h1
  have h1 := of_decide_eq_true h1
  unfold okQ
  rw [ile_no (by omega)]; rfl
theorem okQ_no2 {q : Int} (h1 : ilt 64 q = true) : okQ q = false := by
  rw [ilt_eq] at h1
  have h1 := of_decide_eq_true h1
  unfold okQ
  rw [ile_no (a := q) (by omega), Bool.and_false]
/-- What New answers, and what it makes. -/
def newM (M : Mm) (mac : Tx) (own : BitVec 32) (q : Int) (f : BitVec 64) : Mm := M ++ [rowT (pT mac own q f) s00 (M.length + 1), recT' s00]
theorem s22 (mac : Tx) (own : BitVec 32) (q : Int) (f : BitVec 64) : Spec Tryd.prog G 22 [.s mac, .w32 own, .i q, .w64 f] G (fun r M => (newB mac own q f = true ∧ r = .tup [.ptr 1 0, .i 0] ∧ M = [e0, nilT (pT mac own q f)]) ∨ (newB mac own q f = false ∧ r = .tup [.v (.pointer none), .i 2] ∧ M = G)) := by
  refine vf_ok enw_ok mixed (noL_ok _ _ _ _) (of_eq (v22 aloneA aloneM mac own q f _) ?_)
  unfold newB
  cases h1 : aloneM mac
  · exact .inr ⟨rfl, rfl, rfl⟩
  · cases h2 : aloneA own
    · exact .inr ⟨rfl, rfl, rfl⟩
    · show bif bif false then true else ilt q 1 then _ else _
      cases h3 : ilt q 1
      · show bif bif false then true else ilt 64 q then _ else _
        cases h4 : ilt 64 q
        · show bif bif false then true else f.ult (BitVec.ofInt 64 1) then _ else _
          rw [okQ_split h3 h4]
          cases h5 : f.ult (BitVec.ofInt 64 1)
          · show bif bif false then true else (BitVec.ofInt 64 4294967296).ult f then _ else _
            cases h6 : (BitVec.ofInt 64 4294967296).ult f
            · refine bif_of (ble_of (by rw [alone_len h1]; decide)) (.inl ⟨rfl, rfl, rfl⟩)
            · exact .inr ⟨rfl, rfl, rfl⟩
          · exact .inr ⟨rfl, rfl, rfl⟩
        · exact .inr ⟨by rw [okQ_no2 h4]; rfl, rfl, rfl⟩
      · exact .inr ⟨by rw [okQ_no1 h3]; rfl, rfl, rfl⟩
def cNew : List SV → Mm → (SV → Mm → Prop) → Prop
  | [.s mac, .w32 own, .i q, .w64 f], M, K => bif newB mac own q f then
      (snocK M ⟨true, .row [.s mac, .w32 own, .i q, .w64 f, .ns true (M.length + 1) 3 0 0]⟩ fun M1 => snocK M1 (recT' s00) fun M2 => K (.tup [.ptr M.length 0, .i 0]) M2)
    else K (.tup [.v (.pointer none), .i 2]) M
  | _, _, _ => False
theorem new_ok : COk Tryd.prog G 22 cNew := by
  intro args M K h
  unfold cNew at h
  split at h
  · rename_i mac own q f
    rw [snocK_eq, snocK_eq] at h
    intro β w hR hw
    have h1 : Spec Tryd.prog G 22 [.s mac, .w32 own, .i q, .w64 f] M (fun r M' => (newB mac own q f = true ∧ r = .tup [.ptr M.length 0, .i 0] ∧ M' = M ++ [nilT (pT mac own q f)]) ∨ (newB mac own q f = false ∧ r = .tup [.v (.pointer none), .i 2] ∧ M' = M)) := by
      intro β w hR hw
      refine eff_of (R := []) (args0 := [.s mac, .w32 own, .i q, .w64 f]) (K := fun r M' => (newB mac own q f = true ∧ r = .tup [.ptr M.length 0, .i 0] ∧ M' = M ++ [nilT (pT mac own q f)]) ∨ (newB mac own q f = false ∧ r = .tup [.v (.pointer none), .i 2] ∧ M' = M)) [] (s22 mac own q f) rfl rfl List.nodup_nil trivial ?_ β w hR hw
      rintro r1 M1 (⟨hb, rfl, rfl⟩ | ⟨hb, rfl, rfl⟩)
      · exact .inl ⟨hb, rfl, rfl⟩
      · exact .inr ⟨hb, rfl, List.append_nil M⟩
    refine Spec.re h1 ?_ β w hR hw
    rintro r M1 (⟨hb, rfl, rfl⟩ | ⟨hb, rfl, rfl⟩)
    · rw [hb] at h
      have hlen : (M ++ [(⟨true, .row [.s mac, .w32 own, .i q, .w64 f, .ns true (M.length + 1) 3 0 0]⟩ : Ent)] ++ [recT' s00]).length = M.length + 2 := by simp
      have cs : ∀ (i : Nat) (e : Ent), (M ++ [(⟨true, .row [.s mac, .w32 own, .i q, .w64 f, .ns true (M.length + 1) 3 0 0]⟩ : Ent)] ++ [recT' s00])[i]? = some e → (i < M.length ∧ M[i]? = some e) ∨ (i = M.length ∧ e = rowT (pT mac own q f) s00 (M.length + 1)) ∨ (i = M.length + 1 ∧ e = recT' s00) := fun i e he => by
        rw [List.append_assoc] at he
        rcases Nat.lt_or_ge i M.length with q1 | q1
        · rw [List.getElem?_append_left q1] at he; exact .inl ⟨q1, he⟩
        · rw [List.getElem?_append_right q1] at he
          obtain ⟨n, rfl⟩ := Nat.exists_eq_add_of_le q1
          rw [Nat.add_sub_cancel_left] at he
          match n, he with
          | 0, he => cases he; exact .inr (.inl ⟨rfl, rfl⟩)
          | 1, he => cases he; exact .inr (.inr ⟨rfl, rfl⟩)
          | n + 2, he => cases he
      have g1 : (M ++ [nilT (pT mac own q f)])[M.length]? = some (nilT (pT mac own q f)) := by rw [List.getElem?_append_right (Nat.le_refl _), Nat.sub_self]; rfl
      let σ : Nat → Nat := fun i => if i = M.length + 1 then M.length else i
      have s1 : ∀ i, i < M.length + 1 → σ i = i := fun i hi => if_neg (by omega)
      have s2 : σ (M.length + 1) = M.length := if_pos rfl
      refine ⟨.tup [.ptr M.length 0, .i 0], _, σ, ⟨fun i hi => s1 i (by omega), by rw [hlen]; omega, fun i e he hh => ?_, fun i j x y hx hy hij hr hxh hyh => ?_, fun i e he => ?_, fun i e he hr => ?_, fun i e hi he => ?_, fun i e hi he => ?_, fun β => ?_, ?_⟩, h⟩
      · rcases cs i e he with ⟨q1, q2⟩ | ⟨rfl, rfl⟩ | ⟨rfl, rfl⟩
        · rw [s1 i (by omega), List.getElem?_append_left q1]
          exact ⟨e, q2, hh, rfl, fun β => cells_agree (n := M.length) (fun i hi => by simp only [s1 i (Nat.lt_succ_of_lt hi)]) _ (hR.wf i e q2), rfl⟩
        · rw [s1 _ (by omega)]
          exact ⟨_, g1, rfl, rfl, fun β => rfl, rfl⟩
        · cases hh
      · rcases cs i x hx with ⟨q1, q2⟩ | ⟨rfl, rfl⟩ | ⟨rfl, rfl⟩
        · rcases cs j y hy with ⟨q3, q4⟩ | ⟨rfl, rfl⟩ | ⟨rfl, rfl⟩
          · rw [s1 i (by omega), s1 j (by omega)]; exact hij
          · rw [s1 i (by omega), s1 _ (by omega)]; exact hij
          · cases hyh
        · rcases cs j y hy with ⟨q3, q4⟩ | ⟨rfl, rfl⟩ | ⟨rfl, rfl⟩
          · rw [s1 _ (by omega), s1 j (by omega)]; exact hij
          · exact absurd rfl hij
          · cases hyh
        · cases hxh
      · rcases cs i e he with ⟨q1, q2⟩ | ⟨rfl, rfl⟩ | ⟨rfl, rfl⟩
        · exact cwf_mono (by rw [hlen]; omega) _ (hR.wf i e q2)
        · rw [hlen]
          show SV.wf.wfs _ [_, _, _, _, .ns true (M.length + 1) 3 0 0] = true
          simp [SV.wf.wfs, SV.wf, Nat.blt_eq]
        · rfl
      · rcases cs i e he with ⟨q1, q2⟩ | ⟨rfl, rfl⟩ | ⟨rfl, rfl⟩
        · rw [s1 i (by omega), List.getElem?_append_left q1]; exact ⟨e, q2, hr⟩
        · rw [s1 _ (by omega)]; exact ⟨_, g1, rfl⟩
        · rw [s2]; exact ⟨_, g1, rfl⟩
      · rw [List.getElem?_append_left hi] at he
        exact ⟨e.c, by rw [List.append_assoc, List.getElem?_append_left hi]; exact he, fun _ => rfl⟩
      · rcases cs i e he with ⟨q1, q2⟩ | ⟨rfl, rfl⟩ | ⟨rfl, rfl⟩
        · omega
        · rfl
        · rfl
      · show val β (.tup [.ptr M.length 0, .i 0]) = val _ (.tup [.ptr M.length 0, .i 0])
        simp only [val, vals, s1 _ (Nat.lt_succ_self M.length)]
      · rw [hlen]
        show SV.wf.wfs _ [.ptr M.length 0, .i 0] = true
        simp [SV.wf.wfs, SV.wf, Nat.blt_eq]
    · rw [hb] at h
      exact ⟨_, _, fun i => i, ⟨fun _ _ => rfl, Nat.le_refl _, fun i e he hh => ⟨e, he, hh, rfl, fun _ => rfl, rfl⟩, fun i j x y _ _ hij _ _ _ => hij, hR.wf, fun i e he hr => ⟨e, he, hr⟩, fun i e hi he => ⟨e.c, he, fun _ => rfl⟩, fun i e hi he => absurd (lt_of_get he) (by omega), fun _ => rfl, rfl⟩, h⟩
  · exact h.elim
end Go.Proofs.YtedcileokcbohaaDoor
