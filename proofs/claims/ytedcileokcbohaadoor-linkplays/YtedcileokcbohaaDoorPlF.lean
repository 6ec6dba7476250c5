/-
  link: the document's Learn. No statement is proved here.
-/
import Derived.Test.YtedcileokcbohaaDoorPlE
namespace Go.Proofs.YtedcileokcbohaaDoor
open Go.RowKit
set_option linter.unusedVariables false
set_option linter.unusedSimpArgs false
set_option maxRecDepth 100000

theorem insL_take (c k : Nat) (x : Nr) (L : List Nr) (hk : c ≤ k) (hL : k < L.length) : insL c x (L.take (k + 1)) = insL c x (L.take k) ++ [L.getD k (rz NF)] := by
  have hl : (L.take k).length = k := by rw [List.length_take]; omega
  unfold insL
  rw [take_succ_getD (rz NF) L k hL, List.take_append_of_le_length (by omega), List.drop_append_of_le_length (by omega)]
  simp only [List.append_assoc]
theorem insL_end (c : Nat) (x : Nr) (L : List Nr) (h : L.length ≤ c) : insL c x L = L ++ [x] := by
  unfold insL
  rw [List.take_of_length_le h, List.drop_eq_nil_of_le h, List.append_nil]
theorem ult_at {a : BitVec 32} {L : List Nr} (hs : sortB L = true) (hn : isL a L = false) {k : Nat} (hk : k < L.length) : a.ult (L.getD k (rz NF)).1 = !(Nat.blt k (cntL a L)) := by
  have h1 := sort_cnt a L hs k hk
  have h2 : (L.getD k (rz NF)).1 ≠ a := fun e => by
    have := (fnd_eq hs hk e).1
    rw [hn] at this; cases this
  have h3 : (L.getD k (rz NF)).1.toNat ≠ a.toNat := fun e => h2 (BitVec.eq_of_toNat_eq e)
  rw [ult_iff] at h1
  cases hb : Nat.blt k (cntL a L)
  · have hb : ¬ k < cntL a L := fun q => by rw [← Nat.blt_eq, hb] at q; cases q
    exact ult_iff.2 (by have : ¬ (L.getD k (rz NF)).1.toNat < a.toNat := fun q => hb (h1.1 q)
                        omega)
  · have hb : k < cntL a L := by rw [Nat.blt_eq] at hb; exact hb
    have := h1.2 hb
    unfold BitVec.ult
    exact decide_eq_false (by omega)
/-- What stands there so far. -/
def xL (c : Nat) (x : Nr) (L : List Nr) (k : Nat) : List Nr := bif Nat.blt c k then insL c x (L.take k) else L.take k
theorem blt_f {a b : Nat} (h : ¬ a < b) : Nat.blt a b = false := by
  cases hb : Nat.blt a b
  · rfl
  · rw [Nat.blt_eq] at hb; exact absurd hb h
theorem blt_t {a b : Nat} (h : a < b) : Nat.blt a b = true := by rw [Nat.blt_eq]; exact h
theorem x_ins {a : BitVec 32} {x : Nr} {L : List Nr} {k : Nat} (hk : k < L.length) (hd : Nat.blt (cntL a L) k = false) (hu : Nat.blt k (cntL a L) = false) : xL (cntL a L) x L (k + 1) = xL (cntL a L) x L k ++ [x] ++ [L.getD k (rz NF)] ∧ Nat.blt (cntL a L) (k + 1) = true := by
  have h1 : ¬ cntL a L < k := fun q => by rw [blt_t q] at hd; cases hd
  have h2 : ¬ k < cntL a L := fun q => by rw [blt_t q] at hu; cases hu
  have hc : cntL a L = k := by omega
  have hl : (L.take k).length = k := by rw [List.length_take]; omega
  refine ⟨?_, blt_t (by omega)⟩
  unfold xL
  rw [hd, blt_t (show cntL a L < k + 1 by omega)]
  show insL (cntL a L) x (L.take (k + 1)) = L.take k ++ [x] ++ [L.getD k (rz NF)]
  rw [insL_take _ _ _ _ (by omega) hk, hc, insL_end _ _ _ (by omega)]
theorem x_app {a : BitVec 32} {x : Nr} {L : List Nr} {k : Nat} (hk : k < L.length) (h : Nat.blt (cntL a L) k = true ∨ Nat.blt k (cntL a L) = true) : xL (cntL a L) x L (k + 1) = xL (cntL a L) x L k ++ [L.getD k (rz NF)] ∧ Nat.blt (cntL a L) (k + 1) = Nat.blt (cntL a L) k := by
  rcases h with h | h
  · have h1 : cntL a L < k := by rw [Nat.blt_eq] at h; exact h
    refine ⟨?_, by rw [h, blt_t (by omega)]⟩
    unfold xL
    rw [h, blt_t (show cntL a L < k + 1 by omega)]
    exact insL_take _ _ _ _ (by omega) hk
  · have h1 : k < cntL a L := by rw [Nat.blt_eq] at h; exact h
    refine ⟨?_, by rw [blt_f (show ¬ cntL a L < k + 1 by omega), blt_f (show ¬ cntL a L < k by omega)]⟩
    unfold xL
    rw [blt_f (show ¬ cntL a L < k + 1 by omega), blt_f (show ¬ cntL a L < k by omega)]
    exact take_succ_getD (rz NF) L k hk
theorem x_len (c : Nat) (x : Nr) (L : List Nr) (k : Nat) : (xL c x L k).length ≤ k + 1 := by
  unfold xL
  have h : (L.take k).length ≤ k := by rw [List.length_take]; omega
  cases Nat.blt c k
  · show (L.take k).length ≤ k + 1; omega
  · show (insL c x (L.take k)).length ≤ k + 1
    rw [insL_len]; omega
theorem round27 (s0 : TS) (mac m : Tx) (own a : BitVec 32) (q : Int) (f u : BitVec 64) (b : Bool) (len cap : Nat) (l : List Nr) (hok : TS.ok ⟨b, len, cap, l⟩ = true) (hs : sortB (l.take len) = true) (hn : isL a (l.take len) = false) (st : S27) (hk : st.k ≤ len) (hd : st.dn = Nat.blt (cntL a (l.take len)) st.k) (ho : okO st.o (xL (cntL a (l.take len)) (a, m, u, ()) (l.take len) st.k)) :
    frK 115 (i27 a st) fun fr => vround Tryd.prog E0 noL 27 0 fr (m27 (pT mac own q f) ⟨b, len, cap, l⟩ (a, m, u, ()) st) (Kp (M0T (pT mac own q f) s0) 0 115 (sel27 st.k) (fun st' => (st'.k ≤ len ∧ st'.dn = Nat.blt (cntL a (l.take len)) st'.k ∧ okO st'.o (xL (cntL a (l.take len)) (a, m, u, ()) (l.take len) st'.k)) ∧ len - st'.k < len - st.k) (i27 a) (m27 (pT mac own q f) ⟨b, len, cap, l⟩ (a, m, u, ())) (st.k = len) (o27 st) (m27 (pT mac own q f) ⟨b, len, cap, l⟩ (a, m, u, ()) st)) := by
  obtain ⟨o1, o2, o3, o4⟩ := TS.ok_iff.1 hok
  dsimp only at o1 o2 o3 o4
  obtain ⟨k, dn, o⟩ := st
  dsimp only at hk hd ho ⊢
  have hL : (l.take len).length = len := by rw [List.length_take]; omega
  have gx := x_len (cntL a (l.take len)) (a, m, u, ()) (l.take len) k
  have go : k < len → (!b && inR ((k : Nat) : Int) len) = true ∧ (!b && rok 0 k 3 NF [] l.length) = true ∧ (!b && (rok 0 k 3 NF [] l.length && true)) = true ∧ inI (((k : Nat) : Int) + 1) = true ∧ (l.take len).getD k (rz NF) = l.getD k (rz NF) := fun hlt => by
    have b1 : (!b) = true := by
      cases b
      · rfl
      · have : len = 0 := Nat.eq_of_beq_eq_true o1
        omega
    have b2 := rok0 (i := k) (m := l.length) (by omega)
    refine ⟨and_t b1 (inRn hlt (by omega)), and_t b1 ?_, and_t b1 b2, inI_iff.2 (by omega), getD_take _ _ _ _ hlt⟩
    rw [Bool.and_true] at b2; exact b2
  cases o with
  | none =>
    have ho : xL (cntL a (l.take len)) (a, m, u, ()) (l.take len) k = [] := ho
    refine of_eq (r27A s0 mac m own a q f u b len cap l k dn _ _) (bif_of o1 ?_)
    rcases bTF (ilt (k : Int) (len : Int)) with hc | hc
    · have hlt : k < len := of_ilt hc
      obtain ⟨b2, b3, b4, b5, b6⟩ := go hlt
      refine bifT hc ?_
      have plain : Nat.blt (cntL a (l.take len)) k = true ∨ Nat.blt k (cntL a (l.take len)) = true → ∀ (cap' : Nat) (rest : List Nr), [(l.getD k (rz NF))].length + rest.length = cap' → ((k + 1 ≤ len ∧ dn = Nat.blt (cntL a (l.take len)) (k + 1) ∧ okO (some ([l.getD k (rz NF)].length, cap', [l.getD k (rz NF)] ++ rest)) (xL (cntL a (l.take len)) (a, m, u, ()) (l.take len) (k + 1))) ∧ len - (k + 1) < len - k) := fun hh cap' rest hcr => by
        obtain ⟨g1, g2⟩ := x_app (x := (a, m, u, ())) (show k < (l.take len).length by omega) hh
        refine ⟨⟨by omega, by rw [g2]; exact hd, ?_⟩, by omega⟩
        rw [g1, ho, b6]
        exact okO_snoc0 hcr
      rcases bTF (!dn) with hdn | hdn
      · refine bifT hdn (bif_of b2 (bif_of b3 ?_))
        have hdk : Nat.blt (cntL a (l.take len)) k = false := by rw [← hd]; cases dn <;> first | rfl | cases hdn
        have hu := ult_at hs hn (show k < (l.take len).length by omega)
        rw [b6] at hu
        rcases bTF (Nat.blt k (cntL a (l.take len))) with hb | hb
        · rw [hb] at hu
          refine bifF (show (bif true then a.ult (l.getD k (rz NF)).fst else false) = false from hu) (bif_of b2 (bif_of b4 fun cap' rest hcr => bif_of b5 ⟨plain (.inr hb) cap' rest hcr, ?_⟩))
          repeat' (first | exact rfl | exact trivial | apply And.intro)
        · rw [hb] at hu
          obtain ⟨g1, g2⟩ := x_ins (x := (a, m, u, ())) (show k < (l.take len).length by omega) hdk hb
          refine bifT (show (bif true then a.ult (l.getD k (rz NF)).fst else false) = true from hu) (fun cap' rest hcr => bif_of b2 (bif_of b4 ?_))
          have q1 : okO (some ([(a, m, u, ())].length, cap', [(a, m, u, ())] ++ rest)) (xL (cntL a (l.take len)) (a, m, u, ()) (l.take len) k ++ [(a, m, u, ())]) := by
            rw [ho]; exact okO_snoc0 hcr
          have qb : Nat.beq ([(a, m, u, ())] ++ rest).length cap' = true := by rw [q1.2.1]; exact Nat.beq_refl _
          refine bif_of (and_t (ble_of q1.2.2.1) (and_t qb rfl)) fun cap2 rest2 hcr2 => bif_of b5 ⟨⟨⟨by show k + 1 ≤ len; omega, g2.symm, ?_⟩, by show len - (k + 1) < len - k; omega⟩, ?_⟩
          · show okO (some _) (xL (cntL a (l.take len)) (a, m, u, ()) (l.take len) (k + 1))
            rw [g1, b6]
            exact okO_snoc q1 hcr2
          · repeat' (first | exact rfl | exact trivial | apply And.intro)
      · refine bifF hdn ?_
        have hdk : Nat.blt (cntL a (l.take len)) k = true := by rw [← hd]; cases dn <;> first | rfl | cases hdn
        refine bif_of b2 (bif_of b4 fun cap' rest hcr => bif_of b5 ⟨plain (.inl hdk) cap' rest hcr, ?_⟩)
        repeat' (first | exact rfl | exact trivial | apply And.intro)
    · have hge : k = len := by have := of_nilt hc; omega
      refine bifF hc ⟨rfl, hge, ?_⟩
      repeat' (first | exact rfl | exact trivial | apply And.intro)
  | some o =>
    obtain ⟨sn, sc, sl⟩ := o
    obtain ⟨h1, h2, h3, h4⟩ : sl.take sn = xL (cntL a (l.take len)) (a, m, u, ()) (l.take len) k ∧ sl.length = sc ∧ sn ≤ sc ∧ (xL (cntL a (l.take len)) (a, m, u, ()) (l.take len) k).length = sn := ho
    refine of_eq (r27S s0 mac m own a q f u b len cap l k dn sn sc sl _ _) (bif_of o1 ?_)
    rcases bTF (ilt (k : Int) (len : Int)) with hc | hc
    · have hlt : k < len := of_ilt hc
      obtain ⟨b2, b3, b4, b5, b6⟩ := go hlt
      refine bifT hc ?_
      have sm : ∀ x : Nr, (Nat.ble sn sc && (Nat.beq sl.length sc && (Nat.ble (sn + [x].length) 33554432 && true))) = true := fun x => and_t (ble_of h3) (and_t (by rw [h2]; exact Nat.beq_refl _) (and_t (ble_of (by show sn + 1 ≤ _; omega)) rfl))
      have plain : Nat.blt (cntL a (l.take len)) k = true ∨ Nat.blt k (cntL a (l.take len)) = true → ∀ (cap' : Nat) (rest : List Nr), sn + [(l.getD k (rz NF))].length + rest.length = cap' → ((k + 1 ≤ len ∧ dn = Nat.blt (cntL a (l.take len)) (k + 1) ∧ okO (some (sn + [l.getD k (rz NF)].length, cap', sl.take sn ++ [l.getD k (rz NF)] ++ rest)) (xL (cntL a (l.take len)) (a, m, u, ()) (l.take len) (k + 1))) ∧ len - (k + 1) < len - k) := fun hh cap' rest hcr => by
        obtain ⟨g1, g2⟩ := x_app (x := (a, m, u, ())) (show k < (l.take len).length by omega) hh
        refine ⟨⟨by omega, by rw [g2]; exact hd, ?_⟩, by omega⟩
        rw [g1, b6]
        exact okO_snoc ⟨h1, h2, h3, h4⟩ hcr
      rcases bTF (!dn) with hdn | hdn
      · refine bifT hdn (bif_of b2 (bif_of b3 ?_))
        have hdk : Nat.blt (cntL a (l.take len)) k = false := by rw [← hd]; cases dn <;> first | rfl | cases hdn
        have hu := ult_at hs hn (show k < (l.take len).length by omega)
        rw [b6] at hu
        rcases bTF (Nat.blt k (cntL a (l.take len))) with hb | hb
        · rw [hb] at hu
          refine bifF (show (bif true then a.ult (l.getD k (rz NF)).fst else false) = false from hu) (bif_of b2 (bif_of b4 (bif_of (sm _) fun cap' rest hcr => bif_of b5 ⟨plain (.inr hb) cap' rest hcr, ?_⟩)))
          repeat' (first | exact rfl | exact trivial | apply And.intro)
        · rw [hb] at hu
          obtain ⟨g1, g2⟩ := x_ins (x := (a, m, u, ())) (show k < (l.take len).length by omega) hdk hb
          refine bifT (show (bif true then a.ult (l.getD k (rz NF)).fst else false) = true from hu) (bif_of (sm _) fun cap' rest hcr => bif_of b2 (bif_of b4 ?_))
          have q1 : okO (some (sn + [(a, m, u, ())].length, cap', sl.take sn ++ [(a, m, u, ())] ++ rest)) (xL (cntL a (l.take len)) (a, m, u, ()) (l.take len) k ++ [(a, m, u, ())]) := okO_snoc ⟨h1, h2, h3, h4⟩ hcr
          have qb : Nat.beq (sl.take sn ++ [(a, m, u, ())] ++ rest).length cap' = true := by rw [q1.2.1]; exact Nat.beq_refl _
          refine bif_of (and_t (ble_of q1.2.2.1) (and_t qb (and_t (ble_of (by show sn + 1 + 1 ≤ _; omega)) rfl))) fun cap2 rest2 hcr2 => bif_of b5 ⟨⟨⟨by show k + 1 ≤ len; omega, g2.symm, ?_⟩, by show len - (k + 1) < len - k; omega⟩, ?_⟩
          · show okO (some _) (xL (cntL a (l.take len)) (a, m, u, ()) (l.take len) (k + 1))
            rw [g1, b6]
            exact okO_snoc q1 hcr2
          · repeat' (first | exact rfl | exact trivial | apply And.intro)
      · refine bifF hdn ?_
        have hdk : Nat.blt (cntL a (l.take len)) k = true := by rw [← hd]; cases dn <;> first | rfl | cases hdn
        refine bif_of b2 (bif_of b4 (bif_of (sm _) fun cap' rest hcr => bif_of b5 ⟨plain (.inl hdk) cap' rest hcr, ?_⟩))
        repeat' (first | exact rfl | exact trivial | apply And.intro)
    · have hge : k = len := by have := of_nilt hc; omega
      refine bifF hc ⟨rfl, hge, ?_⟩
      repeat' (first | exact rfl | exact trivial | apply And.intro)
def X27 (a : BitVec 32) (s : TS) : Prop := s.ok = true ∧ sortB s.L = true ∧ isL a s.L = false
def QA27 (s : TS) : Prop := s.L = []
def QS27 (a : BitVec 32) (x : Nr) (s : TS) (dn : Bool) (sn sc : Nat) (sl : List Nr) : Prop := okO (some (sn, sc, sl)) (bif dn then insL (cntL a s.L) x s.L else s.L) ∧ (dn = false → cntL a s.L = s.L.length)
theorem loop27 (s0 : TS) (mac m : Tx) (own a : BitVec 32) (q : Int) (f u : BitVec 64) : LOk Tryd.prog G (M0T (pT mac own q f) s0) 27 (L27 (pT mac own q f) s0 (a, m, u, ()) (X27 a) QA27 (QS27 a (a, m, u, ()))) := by
  refine LT.add_ok (noL_ok _ _ _ _) fun fr M K hh => ?_
  unfold v27L at hh
  split at hh
  · rename_i s j jx _
    obtain ⟨⟨hok, hs, hn⟩, hh⟩ := hh
    obtain ⟨hle, hA, hS⟩ := vLeR_ok hh
    obtain ⟨b, len, cap, l⟩ := s
    have hL := TS.L_len hok
    have hrefl : Le (M0T (pT mac own q f) s0) (mkF 115 (i27 a ⟨0, false, none⟩)) (m27 (pT mac own q f) ⟨b, len, cap, l⟩ (a, m, u, ()) ⟨0, false, none⟩) (mkF 115 (i27 a ⟨0, false, none⟩)) (m27 (pT mac own q f) ⟨b, len, cap, l⟩ (a, m, u, ()) ⟨0, false, none⟩) := by
      have := of_eq (le27 s0 mac m own a q f u ⟨b, len, cap, l⟩ True) (by repeat' (first | exact rfl | exact trivial | apply And.intro))
      rw [frK_eq] at this
      exact (vLe_ok this).1
    refine Wp.leR (by show 1 ≤ 3; decide) hle (loop_pick e0_ok mixed (by show 1 ≤ 3; decide) (by kernel_rfl) (i27 a) (m27 (pT mac own q f) ⟨b, len, cap, l⟩ (a, m, u, ())) (fun st => st.k ≤ len ∧ st.dn = Nat.blt (cntL a (l.take len)) st.k ∧ okO st.o (xL (cntL a (l.take len)) (a, m, u, ()) (l.take len) st.k)) (fun st => len - st.k) (fun st => sel27 st.k) (fun st => st.k = len) o27 (m27 (pT mac own q f) ⟨b, len, cap, l⟩ (a, m, u, ())) ⟨0, false, none⟩ ⟨Nat.zero_le _, (blt_f (Nat.not_lt_zero _)).symm, ?_⟩ (fun _ => noL) (fun _ _ => noL_ok _ _ _ _) (fun st hp => round27 s0 mac m own a q f u b len cap l hok hs hn st hp.1 hp.2.1 hp.2.2) hrefl (fun st hp hq => ?_))
    · show xL _ _ _ 0 = []
      unfold xL
      rw [blt_f (Nat.not_lt_zero _)]; rfl
    · obtain ⟨k, dn, o⟩ := st
      obtain rfl : k = len := hq
      obtain ⟨-, hd, ho⟩ := hp
      dsimp only at hd ho
      have hfull : (l.take k).take k = l.take k := by rw [List.take_take, Nat.min_self]
      have hc := cntL_le a (l.take k)
      have hL : (l.take k).length = k := hL
      cases o with
      | none =>
        have hl0 : l.take k = [] ∧ dn = false := by
          have ho : xL _ _ _ _ = [] := ho
          unfold xL at ho
          rw [← hd, hfull] at ho
          cases dn
          · exact ⟨ho, rfl⟩
          · have := congrArg List.length ho
            rw [show (bif true then insL (cntL a (l.take k)) (a, m, u, ()) (l.take k) else l.take k) = insL (cntL a (l.take k)) (a, m, u, ()) (l.take k) from rfl, insL_len] at this
            cases this
        obtain ⟨h0, rfl⟩ := hl0
        have := hA h0
        rw [frK_eq] at this
        exact this
      | some o =>
        obtain ⟨sn, sc, sl⟩ := o
        have := hS dn sn sc sl ⟨?_, fun e => ?_⟩
        · rw [frK_eq] at this
          exact this
        · show okO (some (sn, sc, sl)) (bif dn then insL (cntL a (l.take k)) (a, m, u, ()) (l.take k) else l.take k)
          unfold xL at ho
          rw [← hd, hfull] at ho
          exact ho
        · rw [e] at hd
          have : ¬ cntL a (l.take k) < k := fun q => by rw [blt_t q] at hd; cases hd
          show cntL a (l.take k) = (l.take k).length
          omega
  · exact hh.elim
end Go.Proofs.YtedcileokcbohaaDoor
