/-
  link: who is near, each in turn: looked up, and who said so last. No statement is proved here.
-/
import Derived.Test.YtedcileokcbohaaDoorLiV
namespace Go.Proofs.YtedcileokcbohaaDoor
open Go.RowKit
set_option linter.unusedVariables false
set_option linter.unusedSimpArgs false
set_option maxRecDepth 100000

theorem bif_not {c : Bool} {X Y : Prop} (h : c = false) (hy : Y) : (bif c then X else Y) := by rw [h]; exact hy
theorem bif_yes {c : Bool} {X Y : Prop} (h : c = true) (hx : X) : (bif c then X else Y) := by rw [h]; exact hx
theorem rok1 {i m : Nat} (h : i < m) : rok 0 i 3 NF [] m = true := rok_iff.2 ⟨rfl, by decide, Nat.le_refl _, rfl, h⟩
theorem lastI_take (S : List Nr) (a : BitVec 32) (m : Tx) (n : Nat) : ∀ b, b ≤ n → lastI S a m b = lastI (S.take n) a m b
  | 0, _ => rfl
  | b + 1, h => by
    unfold lastI
    rw [getD_take _ S n b h, lastI_take S a m n b (by omega)]
theorem loop5w (pre : List Value) (l : List Sr) (len cap : Nat) (lf : BitVec 16) (q : Int) (f : BitVec 64) (now : BitVec 64) (sl : List Nr) (sn sc i : Nat) (s2 : TS) (k : Nat) (h2 : s2.ok = true) (hs : sn ≤ sl.length) (hsn : sn ≤ 33554432) : LOk Tryd.prog G (mH pre l) 6 (L35 pre l len cap lf q f now sl sn sc i s2 k (fun m => lastI sl (s2.l.getD k (rz NF)).1 m sn)) := by
  refine LT.add_ok (noL_ok _ _ _ _) fun fr M K hh => ?_
  unfold v5L at hh
  split at hh
  · rename_i s j m _ _
    obtain ⟨hk, hh⟩ := hh
    obtain ⟨hle, hK⟩ := vLeR_ok hh
    obtain ⟨o1, o2, o3, o4⟩ := TS.ok_iff.1 h2
    have hL := TS.L_len h2
    have hb := (nb_of h2 (i := k) (by omega)).1
    refine Wp.leR (by show 1 ≤ 2; decide) hle (loop_next e6_ok mixed (noL_ok _ _ _ _) (by show 1 ≤ 2; decide) (by kernel_rfl) (fun b => i5 pre len cap lf q now sn sc i s2 k m (lastI sl (s2.l.getD k (rz NF)).1 m b) b) (fun _ => mN pre l q f s sl s2) (fun b => b ≤ sn) (fun b => sn - b) (fun b => b + 1) 0 (Nat.zero_le _) (o := o5 pre len cap lf q now sn sc i s2 k m (lastI sl (s2.l.getD k (rz NF)).1 m sn)) (M1 := mN pre l q f s sl s2) (fun b hp => of_eq (r5 pre l len cap lf q f now s sl sn sc i s2 k m _ _ _ b _) ?_) _ _ K ?_)
    · cases hc : ilt (b : Int) (sn : Int)
      · have := of_nilt hc
        replace hp : b ≤ sn := hp
        obtain rfl : b = sn := by omega
        exact ⟨rfl, rfl, rfl, rfl, rfl, rfl, rfl, rfl, rfl, rfl, rfl, rfl, rfl, ⟨rfl, rfl⟩, ⟨rfl, rfl⟩, ⟨rfl, rfl⟩, ⟨rfl, rfl⟩, ⟨rfl, rfl⟩, ⟨rfl, rfl⟩, trivial⟩
      · have hi := of_ilt hc
        refine bif_of (inRn hi (by omega)) (bif_of (rok1 (by omega)) (bif_of (and_t hb (inRn hk (by omega))) (bif_of (and_t hb (rok1 (by omega))) ?_)))
        have hI : inI ((b : Int) + 1) = true := inI_iff.2 (by omega)
        cases e1 : (sl.getD b (rz NF)).1 == (s2.l.getD k (rz NF)).1
        · refine bif_of hI ⟨⟨by show b + 1 ≤ sn; omega, by show sn - (b + 1) < sn - b; omega⟩, rfl, rfl, rfl, rfl, rfl, rfl, rfl, rfl, rfl, rfl, rfl, congrArg SV.i ?_, rfl, ⟨rfl, rfl⟩, ⟨rfl, rfl⟩, ⟨rfl, rfl⟩, ⟨rfl, rfl⟩, ⟨rfl, rfl⟩, ⟨rfl, rfl⟩, trivial⟩
          show _ = lastI sl (s2.l.getD k (rz NF)).1 m (b + 1)
          conv => rhs; unfold lastI
          rw [e1]; rfl
        · refine bif_of (inRn hi (by omega)) (bif_of (rok1 (by omega)) ?_)
          cases e2 : (sl.getD b (rz NF)).2.1 == m
          · refine bif_not rfl (bif_of hI ⟨⟨by show b + 1 ≤ sn; omega, by show sn - (b + 1) < sn - b; omega⟩, rfl, rfl, rfl, rfl, rfl, rfl, rfl, rfl, rfl, rfl, rfl, congrArg SV.i ?_, rfl, ⟨rfl, rfl⟩, ⟨rfl, rfl⟩, ⟨rfl, rfl⟩, ⟨rfl, rfl⟩, ⟨rfl, rfl⟩, ⟨rfl, rfl⟩, trivial⟩)
            show _ = lastI sl (s2.l.getD k (rz NF)).1 m (b + 1)
            conv => rhs; unfold lastI
            rw [e1, e2]; rfl
          · refine bif_yes rfl (bif_of hI ⟨⟨by show b + 1 ≤ sn; omega, by show sn - (b + 1) < sn - b; omega⟩, rfl, rfl, rfl, rfl, rfl, rfl, rfl, rfl, rfl, rfl, rfl, congrArg SV.i ?_, rfl, ⟨rfl, rfl⟩, ⟨rfl, rfl⟩, ⟨rfl, rfl⟩, ⟨rfl, rfl⟩, ⟨rfl, rfl⟩, ⟨rfl, rfl⟩, trivial⟩)
            show _ = lastI sl (s2.l.getD k (rz NF)).1 m (b + 1)
            conv => rhs; unfold lastI
            rw [e1, e2]; rfl
    · have := of_eq (le5 pre l len cap lf q f now s sl sn sc i s2 k m (-1) 0 _) ⟨rfl, rfl, rfl, rfl, rfl, rfl, rfl, rfl, rfl, rfl, rfl, rfl, rfl, ⟨rfl, rfl⟩, ⟨rfl, rfl⟩, ⟨rfl, rfl⟩, ⟨rfl, rfl⟩, ⟨rfl, rfl⟩, ⟨rfl, rfl⟩, hK⟩
      rw [frK_eq] at this
      exact this
  · exact hh.elim
/-- What holds where those who are near are looked at. -/
def X6 (q : Int) (f : BitVec 64) (now : BitVec 64) (S : List Nr) (s s2 : TS) : Prop := s.ok = true ∧ Iv OWN q f S now s.L ∧ kept now s.L = s.L ∧ okT s2 s.L ∧ now.toNat + f.toNat < 18446744073709551616 ∧ MC.ule now = false ∧ okQ q = true
theorem round3 (pre : List Value) (l : List Sr) (len cap : Nat) (lf : BitVec 16) (q : Int) (f : BitVec 64) (now : BitVec 64) (s : TS) (sl : List Nr) (sn sc i : Nat) (s2 : TS) (k : Nat) (L : List Nr) (hf : f = BitVec.setWidth 64 lf + BitVec.ofInt 64 1) (hs : okT s L) (hI : Iv OWN q f (sl.take sn) now L) (hk : kept now L = L) (h2 : okT s2 L) (hn : now.toNat + f.toNat < 18446744073709551616) (hm : MC.ule now = false) (hq : okQ q = true) (hsl : sn ≤ sl.length) (hsn : sn ≤ 33554432) (hkk : k ≤ s2.len) :
    frK 258 (i3 pre len cap lf q now sn sc i s2 k) fun fr => vround Tryd.prog E6 (L35 pre l len cap lf q f now sl sn sc i s2 k (fun m => lastI sl (s2.l.getD k (rz NF)).1 m sn)) 6 3 fr (mN pre l q f s sl s2) (Kp (mH pre l) 3 258 (sel3 k) (fun st => (okT st.1 L ∧ st.2 ≤ s2.len) ∧ s2.len - st.2 < s2.len - k) (fun st => i3 pre len cap lf q now sn sc i s2 st.2) (fun st => mN pre l q f st.1 sl s2) (k = s2.len) (o3 pre len cap lf q now sn sc i) (mS pre l q f s sl)) := by
  refine of_eq (r3 pre l len cap lf q f now s sl sn sc i s2 k _ _ _) ?_
  obtain ⟨o1, o2, o3, o4⟩ := TS.ok_iff.1 h2.1
  have hL : L.length = s2.len := by rw [← h2.2]; exact TS.L_len h2.1
  refine bif_of o1 ?_
  cases hc : ilt (k : Int) (s2.len : Int)
  · have := of_nilt hc
    exact ⟨rfl, by omega, rfl, rfl, rfl, rfl, rfl, rfl, rfl, rfl, ⟨rfl, rfl⟩, ⟨rfl, rfl⟩, ⟨rfl, rfl⟩, ⟨rfl, rfl⟩, ⟨rfl, rfl⟩, trivial⟩
  · have hi := of_ilt hc
    have hb : (!s2.b) = true := (nb_of h2.1 (i := k) (by rw [h2.2]; omega)).1
    have g : ∀ j, j < s2.len → s2.l.getD j (rz NF) = L.getD j (rz NF) := fun j hj => by
      rw [← h2.2]; exact (getD_take _ s2.l s2.len j hj).symm
    have a1 : (!s2.b && inR (k : Int) s2.len) = true := and_t hb (inRn hi (by omega))
    have a2 : (!s2.b && rok 0 k 3 NF [] s2.l.length) = true := and_t hb (rok1 (by omega))
    obtain ⟨e1, e2⟩ := look_self hI.so hk hm (k := k) (by omega)
    rw [← g k hi] at e1 e2
    have eL : (mkT s.b s.len s.cap s.l).L = L := hs.2
    rw [eL]
    obtain ⟨c, c1, c2, c3⟩ := last_ok hI hk hn (k := k) (by omega)
    rw [← g k hi] at c1
    obtain ⟨p1, p2⟩ := oth_split (hI.row _ (getD_mem (rz NF) (by omega : k < L.length))).1
    rw [← g k hi] at p1 p2
    have lS : (sl.take sn).length = sn := by rw [List.length_take]; omega
    rw [lS] at c1 c2
    rw [getD_take _ sl sn c c2] at c3
    have eF : lastI sl (s2.l.getD k (rz NF)).1 (lkT (s2.l.getD k (rz NF)).1 now L) sn = (c : Nat) := by
      rw [e2, lastI_take sl _ _ sn sn (Nat.le_refl _)]; exact c1
    refine bif_of a1 (bif_of a2 ⟨rfl, bif_of hs.1 (bif_of (and_t hI.so hq) fun s' hs' => ?_)⟩)
    have hp : pasL now L = L := by unfold pasL; rw [hm]; exact hk
    rw [hp] at hs'
    refine bif_not (by rw [e1]; rfl) (bif_of a1 (bif_of a2 (bif_not (by show (!(_ == _)) = false; rw [e2, beq_self_eq_true]; rfl) (bif_not (by show (!aloneM _) = false; rw [e2, p1]; rfl) (bif_of a1 (bif_of a2 (bif_not p2 ?_)))))))
    rw [eF]
    have fin : ∀ {T : Prop}, T → bif ilt ((c : Nat) : Int) 0 then False else bif inR ((c : Nat) : Int) sn then bif rok 0 ((c : Nat) : Int).toNat 3 NF [] sl.length then bif bif false then true else ((sl.getD ((c : Nat) : Int).toNat (rz NF)).2.2.1 + BitVec.setWidth 64 lf + BitVec.ofInt 64 1).ule now then False else bif inI ((k : Int) + 1) then T else False else False else False := fun {T} hT => by
      rw [Int.toNat_natCast]
      refine bif_not (ilt_no (by omega)) (bif_of (inRn c2 (by omega)) (bif_of (rok1 (by omega)) (bif_not ?_ (bif_of (inI_iff.2 (by omega)) hT))))
      show BitVec.ule _ _ = false
      rw [BitVec.add_assoc, ← hf]
      exact c3
    have done : (okT s' L ∧ k + 1 ≤ s2.len) ∧ s2.len - (k + 1) < s2.len - k := ⟨⟨hs', by omega⟩, by omega⟩
    cases hz : ilt 0 (k : Int)
    · exact ⟨rfl, hi, rfl, rfl, rfl, rfl, rfl, rfl, rfl, rfl, rfl, rfl, rfl, rfl, rfl, ⟨rfl, rfl⟩, ⟨rfl, rfl⟩, ⟨rfl, rfl⟩, ⟨rfl, rfl⟩, ⟨rfl, rfl⟩, ⟨rfl, rfl⟩, fin ⟨done, rfl, rfl, rfl, rfl, rfl, rfl, rfl, rfl, rfl, rfl, ⟨rfl, rfl⟩, ⟨rfl, rfl⟩, ⟨rfl, rfl⟩, ⟨rfl, rfl⟩, ⟨rfl, rfl⟩, ⟨rfl, rfl⟩, trivial⟩⟩
    · have h0 : (0 : Int) < (k : Int) := by rw [ilt_eq] at hz; exact of_decide_eq_true hz
      have hk1 : ((k : Int) - 1).toNat = k - 1 := by omega
      refine bif_of (inI_iff.2 (by omega)) (bif_of (and_t hb (inR_iff.2 ⟨by omega, by omega⟩)) (bif_of (and_t hb (rok1 (by omega))) (bif_of a1 (bif_of a2 (bif_not ?_ ?_)))))
      · show BitVec.ule _ _ = false
        rw [hk1, g k hi, g (k - 1) (by omega)]
        have := sort_lt L hI.so (k - 1) k (by omega) (by omega)
        rw [BitVec.ule, decide_eq_false_iff_not]
        omega
      · exact ⟨rfl, hi, rfl, rfl, rfl, rfl, rfl, rfl, rfl, rfl, rfl, rfl, rfl, rfl, rfl, ⟨rfl, rfl⟩, ⟨rfl, rfl⟩, ⟨rfl, rfl⟩, ⟨rfl, rfl⟩, ⟨rfl, rfl⟩, ⟨rfl, rfl⟩, fin ⟨done, rfl, rfl, rfl, rfl, rfl, rfl, rfl, rfl, rfl, rfl, ⟨rfl, rfl⟩, ⟨rfl, rfl⟩, ⟨rfl, rfl⟩, ⟨rfl, rfl⟩, ⟨rfl, rfl⟩, ⟨rfl, rfl⟩, trivial⟩⟩
theorem loop3w (pre : List Value) (l : List Sr) (len cap : Nat) (lf : BitVec 16) (q : Int) (f : BitVec 64) (i : Nat) (hf : f = BitVec.setWidth 64 lf + BitVec.ofInt 64 1) : LOk Tryd.prog G (mH pre l) 6 (L6o pre l len cap lf q f i (X6 q f)) := by
  refine LT.add_ok (noL_ok _ _ _ _) fun fr M K hh => ?_
  unfold v3L at hh
  split at hh
  · rename_i s j s2 kn now ks sn sc sl _ _ _ _
    obtain ⟨hle, ⟨hX, hsl, hsn⟩, hK⟩ := vLeR_ok hh
    obtain ⟨x1, x2, x3, x4, x5, x6, x7⟩ := hX
    have hrefl : Le (mH pre l) (mkF 258 (i3 pre len cap lf q now sn sc i s2 0)) (mN pre l q f s sl s2) (mkF 258 (i3 pre len cap lf q now sn sc i s2 0)) (mN pre l q f s sl s2) := by
      have := of_eq (le3 pre l len cap lf q f now s sl sn sc i s2 0 True) ⟨rfl, rfl, rfl, rfl, rfl, rfl, rfl, rfl, rfl, rfl, ⟨rfl, rfl⟩, ⟨rfl, rfl⟩, ⟨rfl, rfl⟩, ⟨rfl, rfl⟩, ⟨rfl, rfl⟩, ⟨rfl, rfl⟩, trivial⟩
      rw [frK_eq] at this
      exact (vLe_ok this).1
    refine Wp.leR (by show 1 ≤ 2; decide) hle (loop_pick e6_ok mixed (by show 1 ≤ 2; decide) (by kernel_rfl) (fun st : TS × Nat => i3 pre len cap lf q now sn sc i s2 st.2) (fun st => mN pre l q f st.1 sl s2) (fun st => okT st.1 s.L ∧ st.2 ≤ s2.len) (fun st => s2.len - st.2) (fun st => sel3 st.2) (fun st => st.2 = s2.len) (fun _ => o3 pre len cap lf q now sn sc i) (fun st => mS pre l q f st.1 sl) (s, 0) ⟨⟨x1, rfl⟩, Nat.zero_le _⟩ (fun st => L35 pre l len cap lf q f now sl sn sc i s2 st.2 (fun m => lastI sl (s2.l.getD st.2 (rz NF)).1 m sn)) (fun st _ => loop5w pre l len cap lf q f now sl sn sc i s2 st.2 x4.1 hsl hsn) (fun st hp => ?_) hrefl (fun st hp hq => ?_))
    · obtain ⟨s0, k⟩ := st
      exact round3 pre l len cap lf q f now s0 sl sn sc i s2 k s.L hf hp.1 x2 x3 x4 x5 x6 x7 hsl hsn hp.2
    · have := hK st.1 hp.1
      rw [frK_eq] at this
      exact this
  · rename_i s j s2 kn now _ _ _ _
    obtain ⟨hle, hX, hK⟩ := vLeR_ok hh
    obtain ⟨x1, x2, x3, x4, x5, x6, x7⟩ := hX
    have h0 : s.L = [] := by
      cases hL : s.L with
      | nil => rfl
      | cons r L =>
        obtain ⟨-, b, hb, -⟩ := x2.row r (by rw [hL]; exact List.mem_cons_self)
        exact absurd hb (by simp)
    have hl : s2.len = 0 := by
      have h1 := TS.L_len x4.1
      rw [x4.2, h0] at h1
      exact h1.symm
    obtain ⟨o1, -⟩ := TS.ok_iff.1 x4.1
    refine Wp.leR (by show 1 ≤ 2; decide) hle (loop_next e6_ok mixed (noL_ok _ _ _ _) (by show 1 ≤ 2; decide) (by kernel_rfl) (fun _ : Nat => i3z pre len cap lf q now i s2) (fun _ => mZ pre l q f s s2) (fun _ => True) (fun _ => 0) (fun b => b) 0 trivial (o := o3z pre len cap lf q now i) (M1 := mA pre l q f s) (fun b hp => of_eq (r3z pre l len cap lf q f now s i s2 _) ?_) _ _ K ?_)
    · refine bif_of o1 (bif_not (ilt_no (by omega)) ⟨rfl, rfl, rfl, rfl, rfl, rfl, rfl, rfl, rfl, ⟨rfl, rfl⟩, ⟨rfl, rfl⟩, ⟨rfl, rfl⟩, ⟨rfl, rfl⟩, trivial⟩)
    · have := of_eq (le3z pre l len cap lf q f now s i s2 _) ⟨rfl, rfl, rfl, rfl, rfl, rfl, rfl, rfl, rfl, rfl, ⟨rfl, rfl⟩, ⟨rfl, rfl⟩, ⟨rfl, rfl⟩, ⟨rfl, rfl⟩, ⟨rfl, rfl⟩, hK⟩
      rw [frK_eq] at this
      exact this
  · exact hh.elim
end Go.Proofs.YtedcileokcbohaaDoor
