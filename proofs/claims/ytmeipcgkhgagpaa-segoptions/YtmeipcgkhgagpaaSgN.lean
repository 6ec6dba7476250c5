/-
  seg: a segment is read as it was written; a byte that is another one is found out. No statement is proved here.
-/
import Derived.Test.YtmeipcgkhgagpaaSgM
namespace Go.Proofs.Ytmeipcgkhgagpaa
open Go.RowKit
set_option linter.unusedVariables false
set_option linter.unusedSimpArgs false
set_option maxRecDepth 100000

-- the sum, taken two by two
def sL : Tx → Nat
  | [] => 0
  | [a] => a.toNat * 256
  | a :: b :: l => a.toNat * 256 + b.toNat + sL l
theorem sN_shift (a b : BitVec 8) (l : Tx) : ∀ j, sN (a :: b :: l) (j + 2) = a.toNat * 256 + b.toNat + sN l j
  | 0 => by simp [sN]
  | j + 1 => by
    have h := sN_shift a b l j
    have e1 : sN (a :: b :: l) (j + 1 + 2) = sN (a :: b :: l) (j + 2) + ((a :: b :: l).getD (j + 2) 0).toNat * (if (j + 2) % 2 = 0 then 256 else 1) := rfl
    have e2 : sN l (j + 1) = sN l j + (l.getD j 0).toNat * (if j % 2 = 0 then 256 else 1) := rfl
    have e3 : (a :: b :: l).getD (j + 2) 0 = l.getD j 0 := by simp
    have e4 : (j + 2) % 2 = j % 2 := by omega
    rw [e1, e2, h, e3, e4]; omega
theorem sN_eq : ∀ l : Tx, sN l l.length = sL l
  | [] => rfl
  | [a] => by simp [sN, sL]
  | a :: b :: l => by
    show sN (a :: b :: l) (l.length + 2) = _
    rw [sN_shift, sN_eq l]; rfl
theorem sL_app : ∀ (a b : Tx), a.length % 2 = 0 → sL (a ++ b) = sL a + sL b
  | [], b, _ => by simp [sL]
  | [x], b, h => by simp at h
  | x :: y :: l, b, h => by
    have := sL_app l b (by simp at h; omega)
    show x.toNat * 256 + y.toNat + sL (l ++ b) = x.toNat * 256 + y.toNat + sL l + sL b
    omega
theorem sumX_eq (l : Tx) : sumX l = BitVec.ofNat 16 (65535 - resN (sL l)) := by unfold sumX; rw [sN_eq]
theorem sum_mid (a b : Tx) (h : a.length % 2 = 0) : sumX (a ++ [0, 0] ++ b) = sumX (a ++ b) := by
  rw [sumX_eq, sumX_eq, sL_app _ _ (by simp; omega), sL_app _ _ h, sL_app _ _ h]
  rfl
theorem sum_pre (b : Tx) : sumX (0 :: 0 :: b) = sumX b := by rw [sumX_eq, sumX_eq]; congr 2; simp [sL]
theorem sum_pre4 (b : Tx) : sumX (0 :: 0 :: 0 :: 0 :: b) = sumX b := by rw [sum_pre, sum_pre]
theorem t2_val (x : BitVec 16) (l : Tx) : sL (t2 x ++ l) = x.toNat + sL l := by
  show ((x >>> 8).setWidth 8).toNat * 256 + (x.setWidth 8).toNat + sL l = _
  have := x.isLt
  simp only [BitVec.toNat_setWidth, BitVec.toNat_ushiftRight, Nat.shiftRight_eq_div_pow]
  omega
/-- Bytes that bear their own sum have the sum 0. -/
theorem sum_self (a b : Tx) (h : a.length % 2 = 0) : sumX (a ++ (t2 (sumX (a ++ b)) ++ b)) = 0 := by
  rw [sumX_eq (a ++ b), sumX_eq, sL_app _ _ h, t2_val, sL_app _ _ h]
  have h1 := resN_le (sL a + sL b)
  rw [BitVec.toNat_ofNat, Nat.mod_eq_of_lt (by omega)]
  generalize sL a = x at *
  generalize sL b = y at *
  have h2 : resN (x + (65535 - resN (x + y) + y)) = 65535 := by
    unfold resN
    split
    · split at * <;> omega
    · split <;> omega
  rw [h2]; rfl
theorem or8 (a b : Nat) (h : b < 256) : (a * 256) ||| b = a * 256 + b := by
  have := Nat.two_pow_add_eq_or_of_lt (i := 8) (b := b) h a
  rw [Nat.mul_comm a 256]
  exact this.symm
theorem nm_one (x : BitVec 32) (b : BitVec 8) (h : x.toNat < 2 ^ 24) : (x <<< 8 ||| b.setWidth 32).toNat = x.toNat * 256 + b.toNat := by
  have hb := b.isLt
  rw [BitVec.toNat_or, BitVec.toNat_shiftLeft, BitVec.toNat_setWidth, Nat.shiftLeft_eq, Nat.mod_eq_of_lt (by omega), Nat.mod_eq_of_lt (by omega)]
  exact or8 _ _ (by omega)
theorem nm_1 (a : BitVec 8) : (nmN [a] 1).toNat = a.toNat := by
  show ((0 : BitVec 32) <<< 8 ||| a.setWidth 32).toNat = a.toNat
  rw [nm_one 0 a (by decide), show (0 : BitVec 32).toNat = 0 from rfl, Nat.zero_mul, Nat.zero_add]
theorem nm_two (a b : BitVec 8) : (nmX [a, b]).toNat = a.toNat * 256 + b.toNat := by
  have ha := a.isLt
  have h1 := nm_1 a
  show (nmN [a] 1 <<< 8 ||| b.setWidth 32).toNat = _
  rw [nm_one _ _ (by omega), h1]
theorem nm_three (a b c : BitVec 8) : (nmN [a, b, c] 3).toNat = (a.toNat * 256 + b.toNat) * 256 + c.toNat := by
  have ha := a.isLt
  have hb := b.isLt
  have h1 := nm_two a b
  show (nmX [a, b] <<< 8 ||| c.setWidth 32).toNat = _
  rw [nm_one _ _ (by omega), h1]
theorem nm_four (a b c d : BitVec 8) : (nmX [a, b, c, d]).toNat = ((a.toNat * 256 + b.toNat) * 256 + c.toNat) * 256 + d.toNat := by
  have ha := a.isLt
  have hb := b.isLt
  have hc := c.isLt
  have h1 := nm_three a b c
  show (nmN [a, b, c] 3 <<< 8 ||| d.setWidth 32).toNat = _
  rw [nm_one _ _ (by omega), h1]
theorem nm_t2 (x : BitVec 16) : (nmX (t2 x)).toNat = x.toNat := by
  have := x.isLt
  unfold t2
  rw [nm_two]
  simp only [BitVec.toNat_setWidth, BitVec.toNat_ushiftRight, Nat.shiftRight_eq_div_pow]
  omega
theorem nm_t2w (x : BitVec 16) : BitVec.setWidth 16 (nmX (t2 x)) = x := by
  apply BitVec.eq_of_toNat_eq
  rw [BitVec.toNat_setWidth, nm_t2, Nat.mod_eq_of_lt x.isLt]
theorem nm_t4 (x : BitVec 32) : nmX (t4 t2 x) = x := by
  have := x.isLt
  apply BitVec.eq_of_toNat_eq
  show (nmX [_, _, _, _]).toNat = _
  rw [nm_four]
  simp only [BitVec.toNat_setWidth, BitVec.toNat_ushiftRight, Nat.shiftRight_eq_div_pow]
  omega
/-- One byte is another one. -/
theorem sN_set (l : Tx) (i : Nat) (v : BitVec 8) (hi : i < l.length) : ∀ n, sN (l.set i v) n + (if i < n then (l.getD i 0).toNat * (if i % 2 = 0 then 256 else 1) else 0) = sN l n + (if i < n then v.toNat * (if i % 2 = 0 then 256 else 1) else 0)
  | 0 => by simp [sN]
  | n + 1 => by
    have h := sN_set l i v hi n
    have e1 : sN (l.set i v) (n + 1) = sN (l.set i v) n + ((l.set i v).getD n 0).toNat * (if n % 2 = 0 then 256 else 1) := rfl
    have e2 : sN l (n + 1) = sN l n + (l.getD n 0).toNat * (if n % 2 = 0 then 256 else 1) := rfl
    rw [e1, e2]
    by_cases hn : i = n
    · subst hn
      have e3 : (l.set i v).getD i 0 = v := by rw [List.getD_eq_getElem?_getD, List.getElem?_set_self hi]; rfl
      rw [if_neg (Nat.lt_irrefl i), if_neg (Nat.lt_irrefl i)] at h
      rw [e3, if_pos (Nat.lt_succ_self i), if_pos (Nat.lt_succ_self i)]
      omega
    · have e3 : (l.set i v).getD n 0 = l.getD n 0 := by rw [List.getD_eq_getElem?_getD, List.getD_eq_getElem?_getD, List.getElem?_set_ne hn]
      rw [e3]
      by_cases hlt : i < n
      · rw [if_pos hlt, if_pos hlt] at h
        rw [if_pos (show i < n + 1 by omega), if_pos (show i < n + 1 by omega)]
        omega
      · rw [if_neg hlt, if_neg hlt] at h
        rw [if_neg (show ¬ i < n + 1 by omega), if_neg (show ¬ i < n + 1 by omega)]
        omega
theorem sum_zero {l : Tx} (h : sumX l = BitVec.ofInt 16 0) : 0 < sN l l.length ∧ sN l l.length % 65535 = 0 := by
  unfold sumX at h
  have h1 := resN_le (sN l l.length)
  have h2 := congrArg BitVec.toNat h
  have e : (BitVec.ofInt 16 0).toNat = 0 := rfl
  rw [BitVec.toNat_ofNat, e] at h2
  have h3 : resN (sN l l.length) = 65535 := by omega
  unfold resN at h3
  split at h3
  · omega
  · omega
/-- A byte that is another one makes another sum. -/
theorem sum_turned {l : Tx} {i : Nat} {v : BitVec 8} (hi : i < l.length) (hv : v ≠ l.getD i 0) (h : sumX l = BitVec.ofInt 16 0) : sumX (l.set i v) ≠ BitVec.ofInt 16 0 := by
  intro h2
  obtain ⟨a1, a2⟩ := sum_zero h
  obtain ⟨b1, b2⟩ := sum_zero h2
  rw [List.length_set] at b1 b2
  have h3 := sN_set l i v hi l.length
  rw [if_pos hi, if_pos hi] at h3
  have hx := (l.getD i 0).isLt
  have hy := v.isLt
  have hne : v.toNat ≠ (l.getD i 0).toNat := fun q => hv (BitVec.eq_of_toNat_eq q)
  generalize (l.getD i 0).toNat = x at *
  generalize v.toNat = y at *
  generalize sN l l.length = A at *
  generalize sN (l.set i v) l.length = B at *
  split at h3 <;> omega
-- a segment's bytes, read
theorem raw_sum (g : Sg) (s d : BitVec 32) : sgS (byT g s d) s d = BitVec.ofInt 16 0 := by
  have hl : ((byT g s d).length : Int) = ((rawT g).length : Int) := by rw [by_len, raw_len]
  unfold sgS
  rw [hl]
  have e1 : sgS (rawT g) s d = sumX ((psT (BitVec.ofInt 16 (((rawT g).length : Nat) : Int)) s d ++ hdT g.a g.b g.q g.k g.f g.w (optT g.m g.h g.c)) ++ ([0, 0] ++ optT g.m g.h g.c ++ g.l)) := by
    rw [← sum_mid _ _ (by rw [List.length_append, ps_len, hd_len])]
    unfold sgS rawT
    simp only [List.append_assoc]
  unfold byT
  rw [e1]
  have hA : (psT (BitVec.ofInt 16 (((rawT g).length : Nat) : Int)) s d ++ hdT g.a g.b g.q g.k g.f g.w (optT g.m g.h g.c)).length % 2 = 0 := by rw [List.length_append, ps_len, hd_len]
  have := sum_self _ ([0, 0] ++ optT g.m g.h g.c ++ g.l) hA
  simp only [List.append_assoc] at this ⊢
  exact this
theorem hd_byT (g : Sg) (s d : BitVec 32) : hdX (byT g s d) = ⟨g.a, g.b, g.q, g.k, g.f, g.w⟩ := by
  have e1 : (nmX (List.drop 0 (List.take 2 (byT g s d)))).setWidth 16 = g.a := nm_t2w g.a
  have e2 : (nmX (List.drop 2 (List.take 4 (byT g s d)))).setWidth 16 = g.b := nm_t2w g.b
  have e3 : nmX (List.drop 4 (List.take 8 (byT g s d))) = g.q := nm_t4 g.q
  have e4 : nmX (List.drop 8 (List.take 12 (byT g s d))) = g.k := nm_t4 g.k
  have e5 : (byT g s d).getD 13 0 = g.f := rfl
  have e6 : (nmX (List.drop 14 (List.take 16 (byT g s d)))).setWidth 16 = g.w := nm_t2w g.w
  unfold hdX
  rw [e1, e2, e3, e4, e5, e6]
theorem opt_lens (m : BitVec 16) (h : Bool) (c : BitVec 8) : (optT m h c).length = 0 ∨ (optT m h c).length = 4 ∨ (optT m h c).length = 8 := by
  unfold optT
  cases m != BitVec.ofInt 16 0 <;> cases h
  · exact .inl rfl
  · exact .inr (.inl rfl)
  · exact .inr (.inl rfl)
  · exact .inr (.inr rfl)
theorem hsz_byT (g : Sg) (s d : BitVec 32) : hsz (byT g s d) = ((20 + (optT g.m g.h g.c).length : Nat) : Int) := by
  have e : (byT g s d).getD 12 0 = BitVec.ofInt 8 (4 * (20 + (((optT g.m g.h g.c).length : Nat) : Int))) := rfl
  unfold hsz
  rw [e]
  rcases opt_lens g.m g.h g.c with h | h | h <;> rw [h] <;> rfl
theorem opt_byT (g : Sg) (s d : BitVec 32) : optB (byT g s d) = optT g.m g.h g.c := by
  unfold optB
  rw [hsz_byT, Int.toNat_natCast]
  have e : byT g s d = (hdT g.a g.b g.q g.k g.f g.w (optT g.m g.h g.c) ++ t2 (sgS (rawT g) s d) ++ [0, 0]) ++ (optT g.m g.h g.c ++ g.l) := by
    unfold byT
    simp only [List.append_assoc]
  have hl : (hdT g.a g.b g.q g.k g.f g.w (optT g.m g.h g.c) ++ t2 (sgS (rawT g) s d) ++ [0, 0]).length = 20 := rfl
  rw [e, List.drop_take, List.drop_left' hl, Nat.add_sub_cancel_left, List.take_left]
theorem dat_byT (g : Sg) (s d : BitVec 32) : (byT g s d).drop (hsz (byT g s d)).toNat = g.l := by
  rw [hsz_byT, Int.toNat_natCast]
  unfold byT
  rw [← List.append_assoc]
  exact List.drop_left' (by simp only [List.length_append, List.length_cons, List.length_nil, hd_len, t2_len]; omega)
theorem may_of {f : BitVec 8} {m : BitVec 16} {h : Bool} {c : BitVec 8} (hB : mayB f m h c = true) : (BitVec.ofInt 8 14).ult c = false ∧ (h = false → c = 0) ∧ (syn f = false → m = 0 ∧ h = false) := by
  unfold mayB at hB
  cases h1 : (BitVec.ofInt 8 14).ult c
  · rw [h1] at hB
    refine ⟨rfl, fun hh => ?_, fun hf => ?_⟩
    · subst hh
      cases hc : c != BitVec.ofInt 8 0
      · simp only [bne, Bool.not_eq_false'] at hc
        exact eq_of_beq hc
      · rw [hc] at hB; cases hB
    · unfold syn at hf
      simp only [bne, Bool.not_eq_false'] at hf
      rw [hf] at hB
      cases hc : (c != BitVec.ofInt 8 0 && !h)
      · rw [hc] at hB
        cases hm : m != BitVec.ofInt 16 0
        · rw [hm] at hB
          simp only [bne, Bool.not_eq_false'] at hm
          cases h
          · exact ⟨eq_of_beq hm, rfl⟩
          · cases hB
        · rw [hm] at hB; cases hB
      · rw [hc] at hB; cases hB
  · rw [h1] at hB; cases hB
theorem opt_read (m : BitVec 16) (h : Bool) (c : BitVec 8) (hc : (BitVec.ofInt 8 14).ult c = false) (h0 : h = false → c = 0) : opX (optT m h c) 0 false 0 = ⟨true, m, h, c⟩ := by
  unfold optT
  cases hm : m != BitVec.ofInt 16 0
  · simp only [bne, Bool.not_eq_false'] at hm
    obtain rfl := eq_of_beq hm
    cases h
    · rw [h0 rfl]; rfl
    · have e : opX ([] ++ [BitVec.ofInt 8 1, BitVec.ofInt 8 3, BitVec.ofInt 8 3, c]) 0 false 0 = ⟨true, 0, true, bif (BitVec.ofInt 8 14).ult c then BitVec.ofInt 8 14 else c⟩ := by kernel_rfl
      rw [hc] at e
      exact e
  · cases h
    · have e : opX ([BitVec.ofInt 8 2, BitVec.ofInt 8 4] ++ t2 m ++ []) 0 false 0 = ⟨true, (nmX (t2 m)).setWidth 16, false, 0⟩ := by kernel_rfl
      rw [nm_t2w] at e
      rw [h0 rfl]
      exact e
    · have e : opX ([BitVec.ofInt 8 2, BitVec.ofInt 8 4] ++ t2 m ++ [BitVec.ofInt 8 1, BitVec.ofInt 8 3, BitVec.ofInt 8 3, c]) 0 false 0 = ⟨true, (nmX (t2 m)).setWidth 16, true, bif (BitVec.ofInt 8 14).ult c then BitVec.ofInt 8 14 else c⟩ := by kernel_rfl
      rw [nm_t2w, hc] at e
      exact e
/-- A segment is read as it was written. -/
theorem back_e (g : Sg) (s d : BitVec 32) (hB : mayB g.f g.m g.h g.c = true) : deE (byT g s d) s d = 0 := by
  obtain ⟨h1, h2, h3⟩ := may_of hB
  have hl := by_len g s d
  have hz := hsz_byT g s d
  have e1 : ilt (((byT g s d).length : Nat) : Int) 20 = false := ilt_no (by omega)
  have e2 : ilt (hsz (byT g s d)) 20 = false := ilt_no (by omega)
  have e3 : ilt (((byT g s d).length : Nat) : Int) (hsz (byT g s d)) = false := ilt_no (by omega)
  have e4 : (opO (byT g s d)).ok = true := by unfold opO; rw [opt_byT, opt_read _ _ _ h1 h2]
  unfold deE
  rw [e1, e2, e3, raw_sum, e4]; rfl
theorem back_g (g : Sg) (s d : BitVec 32) (hB : mayB g.f g.m g.h g.c = true) : deG (byT g s d) s d = g := by
  obtain ⟨h1, h2, h3⟩ := may_of hB
  have e4 : opO (byT g s d) = ⟨true, g.m, g.h, g.c⟩ := by unfold opO; rw [opt_byT, opt_read _ _ _ h1 h2]
  unfold deG
  rw [back_e g s d hB]
  show sgO (byT g s d) = g
  unfold sgO
  rw [e4, hd_byT, dat_byT]
  obtain ⟨a, b, q, k, f, w, m, h, c, l⟩ := g
  dsimp only at *
  cases hs : syn f
  · obtain ⟨rfl, rfl⟩ := h3 hs
    rw [h2 rfl]; rfl
  · rfl
/-- A byte that is another one is found out. -/
theorem turn_e (g : Sg) (s d : BitVec 32) (i : Nat) (v : BitVec 8) (hi : i < (byT g s d).length) (hv : v ≠ (byT g s d).getD i 0) : deE ((byT g s d).set i v) s d ≠ 0 := by
  have hs : sgS ((byT g s d).set i v) s d ≠ BitVec.ofInt 16 0 := by
    unfold sgS
    rw [List.length_set]
    have e : psT (BitVec.ofInt 16 (((byT g s d).length : Nat) : Int)) s d ++ (byT g s d).set i v = (psT (BitVec.ofInt 16 (((byT g s d).length : Nat) : Int)) s d ++ byT g s d).set (12 + i) v := by
      rw [List.set_append_right _ _ (by rw [ps_len]; omega), ps_len, Nat.add_sub_cancel_left]
    rw [e]
    refine sum_turned (by rw [List.length_append, ps_len]; omega) ?_ (raw_sum g s d)
    rw [List.getD_eq_getElem?_getD, List.getElem?_append_right (by rw [ps_len]; omega), ps_len, Nat.add_sub_cancel_left, ← List.getD_eq_getElem?_getD]
    exact hv
  intro he
  unfold deE at he
  have h4 : (sgS ((byT g s d).set i v) s d != BitVec.ofInt 16 0) = true := bne_iff_ne.2 hs
  rw [h4] at he
  revert he
  cases ilt ((((byT g s d).set i v).length : Nat) : Int) 20 <;> cases ilt (hsz ((byT g s d).set i v)) 20 <;> cases ilt ((((byT g s d).set i v).length : Nat) : Int) (hsz ((byT g s d).set i v)) <;> intro he <;> first | exact absurd (show (7 : Int) = 0 from he) (by decide) | exact absurd (show (8 : Int) = 0 from he) (by decide) | exact absurd (show (180 : Int) = 0 from he) (by decide)
end Go.Proofs.Ytmeipcgkhgagpaa
