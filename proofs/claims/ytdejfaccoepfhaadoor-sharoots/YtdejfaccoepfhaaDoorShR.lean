/-
  sha: what the document's roots are. No statement is proved here.
-/
import Derived.Test.YtdejfaccoepfhaaDoorShQ
namespace Go.Proofs.YtdejfaccoepfhaaDoor
open Go.RowKit
set_option linter.unusedVariables false
set_option linter.unusedSimpArgs false
set_option maxRecDepth 100000

theorem abv_V (a b : List (BitVec 64)) (ha : Dg a) (hb : Dg b) : ∀ n, abvF a b n = true ↔ V b n < V a n
  | 0 => by simp [abvF, V]
  | n + 1 => by
    have ih := abv_V a b ha hb n
    have h1 := V_lt a ha n
    have h2 := V_lt b hb n
    rw [abvF, V, V]
    cases hd : a.getD n 0 != b.getD n 0
    · have e : a.getD n 0 = b.getD n 0 := by simpa using hd
      rw [e, cond_false, ih]
      omega
    · have hne : a.getD n 0 ≠ b.getD n 0 := by simpa using hd
      have hnt : (a.getD n 0).toNat ≠ (b.getD n 0).toNat := fun e => hne (BitVec.eq_of_toNat_eq e)
      rw [cond_true, BitVec.ult, decide_eq_true_eq]
      generalize (a.getD n 0).toNat = x at *
      generalize (b.getD n 0).toNat = y at *
      generalize 2 ^ (24 * n) = P at *
      constructor
      · intro h
        have := Nat.mul_le_mul_right P (show y + 1 ≤ x from h)
        rw [Nat.add_mul, Nat.one_mul] at this
        omega
      · intro h
        rcases Nat.lt_or_ge y x with q | q
        · exact q
        · exfalso
          have := Nat.mul_le_mul_right P (show x + 1 ≤ y by omega)
          rw [Nat.add_mul, Nat.one_mul] at this
          omega
theorem or_bit (x s : Nat) (h : x % 2 ^ (s + 1) = 0) : x ||| 2 ^ s = x + 2 ^ s := by
  obtain ⟨q, rfl⟩ : ∃ q, x = 2 ^ (s + 1) * q := ⟨x / 2 ^ (s + 1), by have := Nat.div_add_mod x (2 ^ (s + 1)); omega⟩
  have hl : 2 ^ s < 2 ^ (s + 1) := Nat.pow_lt_pow_right (by decide) (by omega)
  exact (Nat.two_pow_add_eq_or_of_lt hl q).symm
/-- The digits, of which the bits below k are noughts. -/
structure Free (x : List (BitVec 64)) (k : Nat) : Prop where
  len : x.length = 14
  dg : Dg x
  free : ∀ i, (x.getD i 0).toNat % 2 ^ (min 24 (k - 24 * i)) = 0
theorem mod_pow_mono {x m n : Nat} (h : x % 2 ^ n = 0) (hm : m ≤ n) : x % 2 ^ m = 0 := Nat.mod_eq_zero_of_dvd (Nat.dvd_trans (Nat.pow_dvd_pow 2 hm) (Nat.dvd_of_mod_eq_zero h))
theorem Free.less {x : List (BitVec 64)} {k : Nat} (h : Free x (k + 1)) : Free x k := ⟨h.len, h.dg, fun i => mod_pow_mono (h.free i) (by omega)⟩
theorem bit_ok {x : List (BitVec 64)} {k : Nat} (h : Free x (k + 1)) (hk : k < 336) : Free (bitOf x k) k ∧ V (bitOf x k) 14 = V x 14 + 2 ^ k := by
  have hi : k / 24 < 14 := by omega
  have hf := h.free (k / 24)
  rw [show min 24 (k + 1 - 24 * (k / 24)) = k % 24 + 1 by omega] at hf
  have hd := h.dg (k / 24)
  have h1 : (BitVec.ofInt 64 1 <<< (k % 24)).toNat = 2 ^ (k % 24) := by
    rw [BitVec.toNat_shiftLeft, show (BitVec.ofInt 64 1).toNat = 1 from rfl, Nat.shiftLeft_eq, Nat.one_mul]
    exact Nat.mod_eq_of_lt (Nat.pow_lt_pow_right (by decide) (by omega))
  have hor : (x.getD (k / 24) 0 ||| BitVec.ofInt 64 1 <<< (k % 24)).toNat = (x.getD (k / 24) 0).toNat + 2 ^ (k % 24) := by
    rw [BitVec.toNat_or, h1, or_bit _ _ hf]
  have hlt : (x.getD (k / 24) 0).toNat + 2 ^ (k % 24) < 16777216 := by
    obtain ⟨q, hq⟩ := Nat.dvd_of_mod_eq_zero hf
    have e : (16777216 : Nat) = 2 ^ (k % 24 + 1) * 2 ^ (23 - k % 24) := by rw [← Nat.pow_add, show k % 24 + 1 + (23 - k % 24) = 24 by omega]
    rw [hq, e] at hd
    have hq2 : q < 2 ^ (23 - k % 24) := Nat.lt_of_mul_lt_mul_left hd
    have h3 := Nat.mul_le_mul_left (2 ^ (k % 24 + 1)) (show q + 1 ≤ 2 ^ (23 - k % 24) from hq2)
    rw [← e, Nat.mul_add, Nat.mul_one, ← hq] at h3
    have h4 : 2 ^ (k % 24 + 1) = 2 ^ (k % 24) + 2 ^ (k % 24) := by rw [Nat.pow_succ]; omega
    have h5 : 0 < 2 ^ (k % 24) := Nat.two_pow_pos _
    omega
  have hg : ∀ i, (bitOf x k).getD i 0 = if k / 24 = i ∧ k / 24 < x.length then x.getD (k / 24) 0 ||| BitVec.ofInt 64 1 <<< (k % 24) else x.getD i 0 := fun i => getD_set _ _ _ _
  refine ⟨⟨by rw [bit_len]; exact h.len, fun i => ?_, fun i => ?_⟩, ?_⟩
  · rw [hg i]
    split
    · rw [hor]; exact hlt
    · exact h.dg i
  · rw [hg i]
    split
    · rename_i e
      rw [hor, ← e.1, show min 24 (k - 24 * (k / 24)) = k % 24 by omega]
      have h6 := mod_pow_mono (m := k % 24) hf (by omega)
      rw [Nat.add_mod, h6, Nat.mod_self]; rfl
    · exact mod_pow_mono (h.free i) (by omega)
  · have hset := V_set x (k / 24) (x.getD (k / 24) 0 ||| BitVec.ofInt 64 1 <<< (k % 24)) (by rw [h.len]; exact hi) 14 hi
    rw [hor, Nat.add_mul, ← Nat.pow_add, show k % 24 + 24 * (k / 24) = k by omega] at hset
    show V (x.set _ _) 14 = _
    generalize V (x.set (k / 24) (x.getD (k / 24) 0 ||| BitVec.ofInt 64 1 <<< (k % 24))) 14 = X at *
    generalize V x 14 = Y at *
    generalize (x.getD (k / 24) 0).toNat * 2 ^ (24 * (k / 24)) = Z at *
    omega
theorem p2_le (a b n : Nat) (h : a + b ≤ n) : 2 ^ a * 2 ^ b ≤ 2 ^ n := by rw [← Nat.pow_add]; exact Nat.pow_le_pow_right (by decide) h
theorem p3_le (a b c n : Nat) (h : a + b + c ≤ n) : 2 ^ a * 2 ^ b * 2 ^ c ≤ 2 ^ n := by rw [← Nat.pow_add, ← Nat.pow_add]; exact Nat.pow_le_pow_right (by decide) h
theorem b2g (n : Nat) (h : 144 ≤ n) : 2 ^ 72 * 2 ^ 72 ≤ 2 ^ n := p2_le 72 72 n h
theorem b3g (n : Nat) (h : 216 ≤ n) : 2 ^ 72 * 2 ^ 72 * 2 ^ 72 ≤ 2 ^ n := p3_le 72 72 72 n h
/-- The power that is asked for. -/
def ex (t : Bool) : Nat := bif t then 3 else 2
theorem tms_W (N : Nat) (hN : N = 24 * 14) (a b : List (BitVec 64)) (ha : Dg a) (hb : Dg b) (h : V a 14 * V b 14 < 2 ^ N) : V (tms a b) 14 = V a 14 * V b 14 ∧ Dg (tms a b) := by
  subst hN
  exact tms_V a b ha hb h
theorem pw_V (N : Nat) (hN : N = 24 * 14) {t : Bool} {y : List (BitVec 64)} (hy : Dg y) (hl : V y 14 < 2 ^ 72) : V (pw t y) 14 = V y 14 ^ ex t ∧ Dg (pw t y) := by
  have h2 : V y 14 * V y 14 < 2 ^ 72 * 2 ^ 72 := Nat.mul_lt_mul'' hl hl
  have h3 : V y 14 * V y 14 * V y 14 < 2 ^ 72 * 2 ^ 72 * 2 ^ 72 := Nat.mul_lt_mul'' h2 hl
  obtain ⟨e1, d1⟩ := tms_W N hN y y hy hy (Nat.lt_of_lt_of_le h2 (b2g N (by omega)))
  cases t
  · refine ⟨?_, d1⟩
    show V (tms y y) 14 = V y 14 ^ 2
    rw [e1, Nat.pow_two]
  · obtain ⟨e2, d2⟩ := tms_W N hN (tms y y) y d1 hy (by rw [e1]; exact Nat.lt_of_lt_of_le h3 (b3g N (by omega)))
    refine ⟨?_, d2⟩
    show V (tms (tms y y) y) 14 = V y 14 ^ 3
    rw [e2, e1, Nat.pow_succ, Nat.pow_two]
/-- What stands behind j bits. -/
structure RtOk (t : Bool) (A : Nat) (x : List (BitVec 64)) (k : Nat) : Prop where
  free : Free x k
  le : V x 14 ^ ex t ≤ A
  lt : A < (V x 14 + 2 ^ k) ^ ex t
theorem rt_step {t : Bool} {aim x : List (BitVec 64)} {k : Nat} (ha : Dg aim) (hA : V aim 14 < (2 ^ 71) ^ ex t) (hk : k ≤ 70) (h : RtOk t (V aim 14) x (k + 1)) : RtOk t (V aim 14) (rt1 t aim x k) k := by
  obtain ⟨hf, hv⟩ := bit_ok h.free (by omega)
  have he : ex t ≠ 0 := by cases t <;> decide
  have hx : V x 14 < 2 ^ 71 := by
    rcases Nat.lt_or_ge (V x 14) (2 ^ 71) with q | q
    · exact q
    · have := Nat.pow_le_pow_left q (ex t); have := h.le; omega
  have hk2 : 2 ^ k ≤ 2 ^ 70 := Nat.pow_le_pow_right (by decide) hk
  have hy : V (bitOf x k) 14 < 2 ^ 72 := by
    rw [hv]
    have e1 : (2 : Nat) ^ 72 = 2 ^ 71 + 2 ^ 71 := by decide
    have e2 : (2 : Nat) ^ 70 < 2 ^ 71 := by decide
    omega
  obtain ⟨hp, hd⟩ := pw_V _ rfl (t := t) hf.dg hy
  have hab := abv_V (pw t (bitOf x k)) aim hd ha 14
  unfold rt1
  cases hb : abvF (pw t (bitOf x k)) aim 14
  · have hn : ¬ V aim 14 < V (pw t (bitOf x k)) 14 := fun q => by rw [hab.2 q] at hb; cases hb
    rw [hp] at hn
    refine ⟨hf, by show V (bitOf x k) 14 ^ ex t ≤ _; omega, ?_⟩
    show V aim 14 < (V (bitOf x k) 14 + 2 ^ k) ^ ex t
    rw [hv, Nat.add_assoc, show 2 ^ k + 2 ^ k = 2 ^ (k + 1) by rw [Nat.pow_succ]; omega]
    exact h.lt
  · have hn := hab.1 hb
    rw [hp, hv] at hn
    exact ⟨h.free.less, h.le, hn⟩
theorem rts_ok {t : Bool} {aim : List (BitVec 64)} (ha : Dg aim) (hA : V aim 14 < (2 ^ 71) ^ ex t) : ∀ j, j ≤ 71 → RtOk t (V aim 14) (rts t aim j) (71 - j)
  | 0, _ => by
    refine ⟨⟨rfl, fun k => ?_, fun i => ?_⟩, ?_, ?_⟩
    · show ((List.replicate 14 (0 : BitVec 64)).getD k 0).toNat < _
      rw [List.getD_eq_getElem?_getD, List.getElem?_replicate]; split <;> decide
    · have : ((List.replicate 14 (0 : BitVec 64)).getD i 0).toNat = 0 := by
        rw [List.getD_eq_getElem?_getD, List.getElem?_replicate]; split <;> rfl
      show ((List.replicate 14 (0 : BitVec 64)).getD i 0).toNat % _ = 0
      rw [this]; exact Nat.zero_mod _
    · show V (List.replicate 14 0) 14 ^ ex t ≤ _
      rw [V_zero, Nat.zero_pow (by cases t <;> decide)]; exact Nat.zero_le _
    · show _ < (V (List.replicate 14 0) 14 + 2 ^ 71) ^ ex t
      rw [V_zero, Nat.zero_add]; exact hA
  | j + 1, h => by
    have ih := rts_ok ha hA j (by omega)
    rw [show 71 - j = 71 - (j + 1) + 1 by omega] at ih
    have := rt_step ha hA (by omega) ih
    rw [rts, show 70 - j = 71 - (j + 1) by omega]
    exact this
end Go.Proofs.YtdejfaccoepfhaaDoor
