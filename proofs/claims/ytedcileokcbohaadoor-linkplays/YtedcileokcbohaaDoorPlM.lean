/-
  link: each step of a script of the law LinkPlays keeps the two tables alike. No statement is proved here.
-/
import Derived.Test.YtedcileokcbohaaDoorPlL
namespace Go.Proofs.YtedcileokcbohaaDoor
open Go.RowKit
set_option linter.unusedVariables false
set_option linter.unusedSimpArgs false
set_option maxRecDepth 100000

structure H5 (l : List Sr) (len : Nat) (q : Int) : Prop where
  hlen : len ≤ 200
  hl : len ≤ l.length
  hw : ∀ i, i < len → stW (l.getD i (rz SF)) ≤ 8192
  hq : okQ q = true
structure P5 (len : Nat) (st : S5) : Prop where
  i : st.i ≤ len
  ok : st.s.ok = true
  ok' : st.s'.ok = true
  eq : st.s.L = st.s'.L
  so : sortB st.s.L = true
def X5 (s s' s2 : TS) : Prop := s'.ok = true ∧ s2.ok = true ∧ s2.L = s'.L
theorem stA_eq (pre : List Value) (l : List Sr) (i : Nat) : stA pre l i = l.getD i (rz SF) := by unfold stA; rw [Nat.sub_self]; rfl
-- the two tables are alike behind each call, and Near
theorem tk_same (q : Int) (f : BitVec 64) (own : BitVec 32) (op : BitVec 16) (m : Tx) (fa : BitVec 32) (tt : Tx) (ta : BitVec 32) (n : BitVec 64) (L : List Nr) : pasL n (tkLp q f own op m fa tt ta n L) = pasL n (tkLd q f own op m fa tt ta n L) := by
  unfold tkLp tkLd
  cases tkOk own op m fa tt n
  · exact pas_twice n L
  · rfl
theorem ln_same (q : Int) (f : BitVec 64) (own a : BitVec 32) (m : Tx) (n : BitVec 64) (L : List Nr) : pasL n (lnL q f own a m n L) = pasL n (lnLd q f own a m n L) := by
  unfold lnL lnLd
  cases lnOk own a m n
  · exact pas_twice n L
  · rfl
theorem tk_sort {q : Int} {f : BitVec 64} {own : BitVec 32} {op : BitVec 16} {m : Tx} {fa : BitVec 32} {tt : Tx} {ta : BitVec 32} {n : BitVec 64} {L : List Nr} (h : sortB L = true) : sortB (tkLp q f own op m fa tt ta n L) = true := by
  unfold tkLp
  cases tkOk own op m fa tt n
  · exact sort_pas n h
  · have h1 := sort_kept n h
    show sortB (tkL q f own m fa ta n (kept n L)) = true
    unfold tkL
    cases ta == own
    · cases isL fa (kept n L)
      · exact h1
      · exact keep_sort h1
    · exact keep_sort h1
theorem ln_sort {q : Int} {f : BitVec 64} {own a : BitVec 32} {m : Tx} {n : BitVec 64} {L : List Nr} (h : sortB L = true) : sortB (lnL q f own a m n L) = true := by
  unfold lnL
  cases lnOk own a m n
  · exact sort_pas n h
  · exact keep_sort (sort_kept n h)
theorem r5t1_ok (pre : List Value) (l : List Sr) (len cap : Nat) (mac : Tx) (own : BitVec 32) (q : Int) (f : BitVec 64) (i : Nat) (a : S5 → Prop) (uu vv : TS) (hu : uu.ok = true) (hv : vv.ok = true) (hq : okQ q = true) (hi : i < 200) (hL : pasL (stA pre l i).snd.snd.snd.snd.snd.snd.snd.snd.fst uu.L = pasL (stA pre l i).snd.snd.snd.snd.snd.snd.snd.snd.fst vv.L) (ha : ∀ s s', okT s (pasL (stA pre l i).snd.snd.snd.snd.snd.snd.snd.snd.fst uu.L) → okT s' (pasL (stA pre l i).snd.snd.snd.snd.snd.snd.snd.snd.fst uu.L) → a ⟨i + 1, s, s'⟩) : r5t1 pre l len cap mac own q f i X5 a uu vv := by
  unfold r5t1
  refine ⟨rfl, bif_of hu (bif_of hq fun s3 s2 h3 h2 => ⟨⟨⟨rfl, trivial⟩, ⟨rfl, trivial⟩, trivial⟩, ⟨rfl, bif_of hv fun s4 h4 => ?_⟩, trivial⟩)⟩
  rw [← hL] at h4
  have l2 := TS.L_len h2.1
  have l4 := TS.L_len h4.1
  rw [h2.2] at l2
  rw [h4.2] at l4
  refine bif_of (TS.ok_iff.1 h2.1).1 (bif_of (TS.ok_iff.1 h4.1).1 (bifF ?_ ⟨rfl, rfl, rfl, rfl, rfl, rfl, rfl, rfl, rfl, rfl, rfl, ⟨rfl, rfl⟩, ⟨rfl, rfl⟩, ⟨rfl, rfl⟩, ⟨rfl, rfl⟩, ⟨rfl, rfl⟩, ⟨rfl, rfl⟩, ⟨rfl, rfl⟩, ⟨rfl, rfl⟩, ⟨h4.1, h2.1, by rw [h2.2, h4.2]⟩, bif_of hq (bifF ?_ (bif_of (inI_iff.2 (by omega)) ⟨ha s3 s4 h3 h4, rfl, rfl, rfl, rfl, rfl, rfl, ⟨rfl, rfl⟩, ⟨rfl, rfl⟩, ⟨rfl, rfl⟩, ⟨rfl, rfl⟩, ⟨rfl, rfl⟩, ⟨rfl, rfl⟩, trivial⟩))⟩))
  · have : s2.len = s4.len := by omega
    rw [this]
    exact bne_self_eq_false _
  · show (!asB mac own (stA pre l i)) = false
    rw [asB_t]; rfl
theorem r5t2_ok (pre : List Value) (l : List Sr) (len cap : Nat) (mac : Tx) (own : BitVec 32) (q : Int) (f : BitVec 64) (i : Nat) (a : S5 → Prop) (uu vv : TS) (hu : uu.ok = true) (hv : vv.ok = true) (hq : okQ q = true) (hi : i < 200) (hL : pasL (stA pre l i).snd.snd.snd.snd.snd.snd.snd.snd.fst uu.L = pasL (stA pre l i).snd.snd.snd.snd.snd.snd.snd.snd.fst vv.L) (ha : ∀ s s', okT s (pasL (stA pre l i).snd.snd.snd.snd.snd.snd.snd.snd.fst uu.L) → okT s' (pasL (stA pre l i).snd.snd.snd.snd.snd.snd.snd.snd.fst uu.L) → a ⟨i + 1, s, s'⟩) : r5t2 pre l len cap mac own q f i X5 a uu vv := by
  unfold r5t2
  refine ⟨rfl, bif_of hu (bif_of hq fun s3 s2 h3 h2 => ⟨⟨⟨rfl, trivial⟩, ⟨rfl, trivial⟩, trivial⟩, ⟨rfl, bif_of hv fun s4 h4 => ?_⟩, trivial⟩)⟩
  rw [← hL] at h4
  have l2 := TS.L_len h2.1
  have l4 := TS.L_len h4.1
  rw [h2.2] at l2
  rw [h4.2] at l4
  refine bif_of (TS.ok_iff.1 h2.1).1 (bif_of (TS.ok_iff.1 h4.1).1 (bifF ?_ ⟨rfl, rfl, rfl, rfl, rfl, rfl, rfl, rfl, rfl, rfl, rfl, ⟨rfl, rfl⟩, ⟨rfl, rfl⟩, ⟨rfl, rfl⟩, ⟨rfl, rfl⟩, ⟨rfl, rfl⟩, ⟨rfl, rfl⟩, ⟨rfl, rfl⟩, ⟨rfl, rfl⟩, ⟨h4.1, h2.1, by rw [h2.2, h4.2]⟩, bif_of hq (bifF ?_ (bif_of (inI_iff.2 (by omega)) ⟨ha s3 s4 h3 h4, rfl, rfl, rfl, rfl, rfl, rfl, ⟨rfl, rfl⟩, ⟨rfl, rfl⟩, ⟨rfl, rfl⟩, ⟨rfl, rfl⟩, ⟨rfl, rfl⟩, ⟨rfl, rfl⟩, trivial⟩))⟩))
  · have : s2.len = s4.len := by omega
    rw [this]
    exact bne_self_eq_false _
  · show (!asB mac own (stA pre l i)) = false
    rw [asB_t]; rfl
theorem r5t3_ok (pre : List Value) (l : List Sr) (len cap : Nat) (mac : Tx) (own : BitVec 32) (q : Int) (f : BitVec 64) (i : Nat) (a : S5 → Prop) (uu vv : TS) (hu : uu.ok = true) (hv : vv.ok = true) (hq : okQ q = true) (hi : i < 200) (hL : pasL (stA pre l i).snd.snd.snd.snd.snd.snd.snd.snd.fst uu.L = pasL (stA pre l i).snd.snd.snd.snd.snd.snd.snd.snd.fst vv.L) (ha : ∀ s s', okT s (pasL (stA pre l i).snd.snd.snd.snd.snd.snd.snd.snd.fst uu.L) → okT s' (pasL (stA pre l i).snd.snd.snd.snd.snd.snd.snd.snd.fst uu.L) → a ⟨i + 1, s, s'⟩) : r5t3 pre l len cap mac own q f i X5 a uu vv := by
  unfold r5t3
  refine ⟨rfl, bif_of hu (bif_of hq fun s3 s2 h3 h2 => ⟨⟨⟨rfl, trivial⟩, ⟨rfl, trivial⟩, trivial⟩, ⟨rfl, bif_of hv fun s4 h4 => ?_⟩, trivial⟩)⟩
  rw [← hL] at h4
  have l2 := TS.L_len h2.1
  have l4 := TS.L_len h4.1
  rw [h2.2] at l2
  rw [h4.2] at l4
  refine bif_of (TS.ok_iff.1 h2.1).1 (bif_of (TS.ok_iff.1 h4.1).1 (bifF ?_ ⟨rfl, rfl, rfl, rfl, rfl, rfl, rfl, rfl, rfl, rfl, rfl, ⟨rfl, rfl⟩, ⟨rfl, rfl⟩, ⟨rfl, rfl⟩, ⟨rfl, rfl⟩, ⟨rfl, rfl⟩, ⟨rfl, rfl⟩, ⟨rfl, rfl⟩, ⟨rfl, rfl⟩, ⟨h4.1, h2.1, by rw [h2.2, h4.2]⟩, bif_of hq (bifF ?_ (bif_of (inI_iff.2 (by omega)) ⟨ha s3 s4 h3 h4, rfl, rfl, rfl, rfl, rfl, rfl, ⟨rfl, rfl⟩, ⟨rfl, rfl⟩, ⟨rfl, rfl⟩, ⟨rfl, rfl⟩, ⟨rfl, rfl⟩, ⟨rfl, rfl⟩, trivial⟩))⟩))
  · have : s2.len = s4.len := by omega
    rw [this]
    exact bne_self_eq_false _
  · show (!asB mac own (stA pre l i)) = false
    rw [asB_t]; rfl
theorem loop3P (pre : List Value) (l : List Sr) (len cap : Nat) (mac : Tx) (own : BitVec 32) (q : Int) (f : BitVec 64) (i : Nat) : LOk Tryd.prog G (mH pre l) 5 (L5o pre l len cap mac own q f i X5) := by
  refine LT.add_ok (noL_ok _ _ _ _) fun fr M K hh => ?_
  unfold v3P at hh
  split at hh
  · rename_i s j s' j' s2 kn ks _ _ _ _
    obtain ⟨hle, ⟨h1, h2, h3⟩, hK⟩ := vLeR_ok hh
    have l2 := TS.L_len h2
    have l1 := TS.L_len h1
    rw [h3] at l2
    obtain ⟨o1, o2, o3, o4⟩ := TS.ok_iff.1 h2
    obtain ⟨n1, n2, n3, n4⟩ := TS.ok_iff.1 h1
    refine Wp.leR (by show 1 ≤ 2; decide) hle (loop_next e5_ok mixed (noL_ok _ _ _ _) (by show 1 ≤ 2; decide) (by kernel_rfl) (fun k => i3P pre len cap mac own i s' s2 k) (fun _ => mQ pre l mac own q f s s' (stA pre l i) s2) (fun k => k ≤ s2.len) (fun k => s2.len - k) (fun k => k + 1) 0 (Nat.zero_le _) (o := o3P pre len cap mac own i) (M1 := mR pre l mac own q f s s' (stA pre l i)) (fun k hp => of_eq (r3P pre l len cap mac own q f s s' (stA pre l i) i s2 k _) ?_) _ _ K ?_)
    · refine bif_of o1 ?_
      rcases bTF (ilt (k : Int) (s2.len : Int)) with hc | hc
      · have hi : k < s2.len := of_ilt hc
        have b2 := (nb_of h2 (i := k) (by rw [h3]; omega)).1
        have b1 := (nb_of h1 (i := k) (by omega)).1
        have g : s2.l.getD k (rz NF) = s'.l.getD k (rz NF) := by
          rw [← getD_take _ s2.l s2.len k hi, ← getD_take _ s'.l s'.len k (by omega)]
          exact congrArg (fun L => List.getD L k (rz NF)) h3
        refine bifT hc (bif_of (and_t b2 (inRn hi (by omega))) (bif_of (and_t b2 (rok0 (by omega))) (bif_of (and_t b1 (inRn (by omega) (by omega))) (bif_of (and_t b1 (rok0 (by omega))) (bifF ?_ (bif_of (inI_iff.2 (by omega)) ⟨⟨by show k + 1 ≤ s2.len; omega, by show s2.len - (k + 1) < s2.len - k; omega⟩, ?_⟩))))))
        · rw [g, beq_self_eq_true, beq_self_eq_true, beq_self_eq_true]; rfl
        · repeat' (first | exact rfl | exact trivial | apply And.intro)
      · refine bifF hc ?_
        repeat' (first | exact rfl | exact trivial | apply And.intro)
    · have := of_eq (le3P pre l len cap mac own q f s s' (stA pre l i) i s2 0 _) ⟨rfl, rfl, rfl, rfl, rfl, rfl, rfl, rfl, rfl, rfl, ⟨rfl, rfl⟩, ⟨rfl, rfl⟩, ⟨rfl, rfl⟩, ⟨rfl, rfl⟩, ⟨rfl, rfl⟩, ⟨rfl, rfl⟩, ⟨rfl, rfl⟩, ⟨rfl, rfl⟩, hK⟩
      rw [frK_eq] at this
      exact this
  · exact hh.elim
theorem round5 (pre : List Value) (l : List Sr) (len cap : Nat) (mac : Tx) (own : BitVec 32) (q : Int) (f : BitVec 64) (s s' : TS) (i : Nat) (H : H5 l len q) (hp : P5 len ⟨i, s, s'⟩) : frK 204 (i5P pre len cap mac own i) fun fr => vround Tryd.prog E5 (L5o pre l len cap mac own q f i X5) 5 0 fr (mP pre l mac own q f s s') (Kp (mH pre l) 0 204 (sel5 i) (fun st => P5 len st ∧ len - st.i < len - i) (fun st => i5P pre len cap mac own st.i) (fun st => mP pre l mac own q f st.s st.s') True [] (mH pre l)) := by
  refine of_eq (r5 pre l len cap mac own q f s s' i X5 _ _) ?_
  obtain ⟨hi0, hs, hs', hE, hso⟩ := hp
  dsimp only at hi0 hs hs' hE hso
  have hso' : sortB s'.L = true := by rw [← hE]; exact hso
  have hlen := H.hlen
  have hl := H.hl
  rcases bTF (ilt (i : Int) (len : Int)) with hc | hc
  rotate_left
  · exact bifF hc ⟨rfl, trivial, ⟨rfl, rfl⟩, ⟨rfl, rfl⟩, trivial⟩
  have hi : i < len := of_ilt hc
  have hw := H.hw i hi
  rw [← stA_eq pre l i] at hw
  unfold stW at hw
  refine bifT hc (bif_of (inRn hi (by omega)) (bif_of (and_t (rok_s pre (by omega)) rfl) ?_))
  -- what is left to show of the tables
  have fin : ∀ (n : BitVec 64) (L : List Nr), sortB L = true → ∀ s3 s4, okT s3 (pasL n L) → okT s4 (pasL n L) → P5 len ⟨i + 1, s3, s4⟩ ∧ len - (i + 1) < len - i := fun n L h s3 s4 h3 h4 =>
    ⟨⟨hi, h3.1, h4.1, h3.2.trans h4.2.symm, by show sortB s3.L = true; rw [h3.2]; exact sort_pas n h⟩, by omega⟩
  rcases bTF ((stA pre l i).fst == 0) with k0 | k0
  · refine bifT k0 ⟨rfl, bif_of hs (bif_of (and_t hso (and_t (ble_of (by omega)) H.hq)) fun s1 h1 => ⟨rfl, bif_of hs' (bif_of (and_t hso' H.hq) fun s1' h1' => bifF ?_ (bifF ?_ (bifF ?_ ⟨r5t1_ok pre l len cap mac own q f i _ s1 s1' h1.1 h1'.1 H.hq (by omega) ?_ (fin _ _ ?_), trivial⟩)))⟩)⟩
    · show (!_) = false
      simp only [beq_self_eq_true, Bool.and_self, Bool.not_true]
    · show (!_) = false
      simp only [beq_self_eq_true, Bool.not_true]
    · show (_ != _) = false
      exact bne_self_eq_false _
    · rw [h1.2, h1'.2, hE]; exact tk_same ..
    · rw [h1.2]; exact tk_sort hso
  refine bifF k0 ?_
  rcases bTF ((stA pre l i).fst == 1) with k1 | k1
  · refine bifT k1 ⟨⟨rfl, bif_of hs (bif_of (and_t hso (and_t (ble_of (by omega)) H.hq)) fun s1 h1 => ⟨⟨⟨rfl, trivial⟩, ⟨rfl, trivial⟩, ⟨rfl, trivial⟩, ⟨rfl, trivial⟩, ⟨rfl, trivial⟩, ⟨rfl, trivial⟩, trivial⟩, ⟨rfl, bif_of hs' (bif_of (and_t hso' H.hq) fun s1' h1' => bifF ?_ ⟨r5t2_ok pre l len cap mac own q f i _ s1 s1' h1.1 h1'.1 H.hq (by omega) ?_ (fin _ _ ?_), trivial⟩)⟩, trivial⟩)⟩, trivial⟩
    · rw [hE]; exact bne_self_eq_false _
    · rw [h1.2, h1'.2, hE]; exact ln_same ..
    · rw [h1.2]; exact ln_sort hso
  refine bifF k1 ?_
  rcases bTF ((stA pre l i).fst == 2) with k2 | k2
  · refine bifT k2 ⟨rfl, bif_of hs (bif_of (and_t hso H.hq) fun s1 h1 => ⟨rfl, bif_of hs' (bif_of hso' fun s1' h1' => bifF ?_ (bifF ?_ ⟨r5t2_ok pre l len cap mac own q f i _ s1 s1' h1.1 h1'.1 H.hq (by omega) ?_ (fin _ _ ?_), trivial⟩))⟩)⟩
    · rw [hE, beq_self_eq_true]; rfl
    · rw [hE]; exact bne_self_eq_false _
    · rw [h1.2, h1'.2, hE]
    · rw [h1.2]; exact sort_pas _ hso
  · exact bifF k2 ⟨r5t3_ok pre l len cap mac own q f i _ s s' hs hs' H.hq (by omega) (by rw [hE]) (fin _ _ hso), trivial⟩
theorem loop5P (pre : List Value) (l : List Sr) (len cap : Nat) (mac : Tx) (own : BitVec 32) (q : Int) (f : BitVec 64) (H : H5 l len q) : LOk Tryd.prog G (mH pre l) 5 (L5P pre l len cap mac own q f) := by
  refine LT.add_ok (noL_ok _ _ _ _) fun fr M K hh => ?_
  obtain ⟨h0, hK⟩ := vLoop_ok hh
  exact loop_pick e5_ok mixed (by show 1 ≤ 2; decide) (by kernel_rfl) (fun st : S5 => i5P pre len cap mac own st.i) (fun st => mP pre l mac own q f st.s st.s') (P5 len) (fun st => len - st.i) (fun st => sel5 st.i) (fun _ => True) (fun _ => []) (fun _ => mH pre l) ⟨0, s00, s00⟩ ⟨Nat.zero_le _, rfl, rfl, rfl, rfl⟩ (fun st => L5o pre l len cap mac own q f st.i X5) (fun st _ => loop3P pre l len cap mac own q f st.i) (fun st hp => round5 pre l len cap mac own q f st.s st.s' st.i H hp) h0 (fun st hp hq => hK)
end Go.Proofs.YtedcileokcbohaaDoor
