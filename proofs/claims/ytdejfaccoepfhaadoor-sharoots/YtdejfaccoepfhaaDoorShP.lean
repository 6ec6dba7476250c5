/-
  sha: what the document's products are. No statement is proved here.
-/
import Derived.Test.YtdejfaccoepfhaaDoorShO
namespace Go.Proofs.YtdejfaccoepfhaaDoor
open Go.RowKit
set_option linter.unusedVariables false
set_option linter.unusedSimpArgs false
set_option maxRecDepth 100000

/-- The number of the lowest n digits, each of 24 bits. -/
def V (c : List (BitVec 64)) : Nat → Nat
  | 0 => 0
  | n + 1 => V c n + (c.getD n 0).toNat * 2 ^ (24 * n)
/-- Digits that are in their bounds. -/
def Dg (c : List (BitVec 64)) : Prop := ∀ k, (c.getD k 0).toNat < 16777216
theorem getD_set (c : List (BitVec 64)) (k j : Nat) (v : BitVec 64) : (c.set k v).getD j 0 = if k = j ∧ k < c.length then v else c.getD j 0 := by
  rw [List.getD_eq_getElem?_getD, List.getD_eq_getElem?_getD, List.getElem?_set]
  by_cases h : k = j
  · subst h
    by_cases h2 : k < c.length
    · simp [h2]
    · simp [h2]
  · simp [h]
theorem V_set_ge (c : List (BitVec 64)) (k : Nat) (v : BitVec 64) : ∀ n, n ≤ k → V (c.set k v) n = V c n
  | 0, _ => rfl
  | n + 1, h => by rw [V, V, V_set_ge c k v n (by omega), getD_set, if_neg (by omega)]
theorem V_set (c : List (BitVec 64)) (k : Nat) (v : BitVec 64) (hk : k < c.length) : ∀ n, k < n → V (c.set k v) n + (c.getD k 0).toNat * 2 ^ (24 * k) = V c n + v.toNat * 2 ^ (24 * k)
  | 0, h => absurd h (by omega)
  | n + 1, h => by
    rw [V, V, getD_set]
    by_cases e : k = n
    · subst e
      rw [V_set_ge c k v k (Nat.le_refl _), if_pos ⟨rfl, hk⟩]
      omega
    · rw [if_neg (by omega)]
      have := V_set c k v hk n (by omega)
      omega
theorem V_zero : ∀ n, V (List.replicate 14 0) n = 0
  | 0 => rfl
  | n + 1 => by
    rw [V, V_zero n, List.getD_eq_getElem?_getD, List.getElem?_replicate]
    split <;> simp
theorem V_lt (c : List (BitVec 64)) (h : Dg c) : ∀ n, V c n < 2 ^ (24 * n)
  | 0 => by simp [V]
  | n + 1 => by
    have h1 := V_lt c h n
    have h2 := h n
    rw [V, show 24 * (n + 1) = 24 * n + 24 by omega, Nat.pow_add]
    have h3 : (c.getD n 0).toNat * 2 ^ (24 * n) ≤ 16777215 * 2 ^ (24 * n) := Nat.mul_le_mul_right _ (by omega)
    have h4 : 2 ^ (24 * n) * 2 ^ 24 = 16777216 * 2 ^ (24 * n) := by rw [Nat.mul_comm]
    omega
theorem inn_get (a b c : List (BitVec 64)) (i k : Nat) (hk : k < c.length) : ∀ n, (inn a b i c n).getD k 0 = if i ≤ k ∧ k < i + n then c.getD k 0 + a.getD i 0 * b.getD (k - i) 0 else c.getD k 0
  | 0 => by rw [inn, if_neg (by omega)]
  | n + 1 => by
    rw [inn, getD_set, inn_len, inn_get a b c i k hk n]
    by_cases e : i + n = k
    · subst e
      rw [if_pos ⟨rfl, hk⟩, if_pos (by omega), inn_get a b c i _ hk n, if_neg (by omega), Nat.add_sub_cancel_left]
    · rw [if_neg (by omega)]
      by_cases h : i ≤ k ∧ k < i + n
      · rw [if_pos h, if_pos (by omega)]
      · rw [if_neg h, if_neg (by omega)]
theorem mul_small (x y : BitVec 64) (hx : x.toNat < 16777216) (hy : y.toNat < 16777216) : (x * y).toNat = x.toNat * y.toNat ∧ x.toNat * y.toNat ≤ 281474976710656 := by
  have h : x.toNat * y.toNat ≤ 16777216 * 16777216 := Nat.mul_le_mul (by omega) (by omega)
  rw [BitVec.toNat_mul]
  omega
theorem add_small (x y : BitVec 64) (m : Nat) (hm : m ≤ 13) (hx : x.toNat ≤ m * 281474976710656) (hy : y.toNat ≤ 281474976710656) : (x + y).toNat ≤ (m + 1) * 281474976710656 := by
  rw [BitVec.toNat_add, Nat.add_mul, Nat.one_mul]
  exact Nat.le_trans (Nat.mod_le _ _) (Nat.add_le_add hx hy)
theorem out_le (a b : List (BitVec 64)) (ha : Dg a) (hb : Dg b) (k : Nat) (hk : k < 14) : ∀ n, n ≤ 14 → ((out a b n).getD k 0).toNat ≤ n * 281474976710656
  | 0, _ => by
    rw [out, List.getD_eq_getElem?_getD, List.getElem?_replicate, if_pos hk, Nat.zero_mul]; exact Nat.le_refl _
  | n + 1, h => by
    have ih := out_le a b ha hb k hk n (by omega)
    rw [out, inn_get a b _ n k (by rw [out_len]; exact hk)]
    split
    · obtain ⟨e, h2⟩ := mul_small (a.getD n 0) (b.getD (k - n) 0) (ha n) (hb (k - n))
      exact add_small _ _ n (by omega) ih (by rw [e]; exact h2)
    · exact Nat.le_trans ih (Nat.mul_le_mul_right _ (Nat.le_succ n))
theorem inn_V (a b c : List (BitVec 64)) (i N : Nat) (hc : c.length = N) (ha : Dg a) (hb : Dg b) (hs : ∀ k, k < N → (c.getD k 0).toNat ≤ 4000000000000000) : ∀ n, i + n ≤ N → V (inn a b i c n) N = V c N + (a.getD i 0).toNat * 2 ^ (24 * i) * V b n
  | 0, _ => by rw [inn, V, Nat.mul_zero, Nat.add_zero]
  | n + 1, h => by
    have ih := inn_V a b c i N hc ha hb hs n (by omega)
    have hset := V_set (inn a b i c n) (i + n) ((inn a b i c n).getD (i + n) 0 + a.getD i 0 * b.getD n 0) (by rw [inn_len, hc]; omega) N (by omega)
    obtain ⟨e, h2⟩ := mul_small (a.getD i 0) (b.getD n 0) (ha i) (hb n)
    have hg : (inn a b i c n).getD (i + n) 0 = c.getD (i + n) 0 := by rw [inn_get a b c i _ (by omega), if_neg (by omega)]
    have hsm := hs (i + n) (by omega)
    have hadd : ((inn a b i c n).getD (i + n) 0 + a.getD i 0 * b.getD n 0).toNat = ((inn a b i c n).getD (i + n) 0).toNat + (a.getD i 0).toNat * (b.getD n 0).toNat := by
      rw [BitVec.toNat_add, e, hg]; omega
    rw [hadd, Nat.add_mul] at hset
    have hpow : (a.getD i 0).toNat * (b.getD n 0).toNat * 2 ^ (24 * (i + n)) = (a.getD i 0).toNat * 2 ^ (24 * i) * ((b.getD n 0).toNat * 2 ^ (24 * n)) := by
      rw [Nat.mul_add 24, Nat.pow_add]
      simp only [Nat.mul_assoc, Nat.mul_left_comm, Nat.mul_comm]
    rw [hpow] at hset
    have hv : V b (n + 1) = V b n + (b.getD n 0).toNat * 2 ^ (24 * n) := rfl
    rw [hv, Nat.mul_add]
    show V ((inn a b i c n).set (i + n) ((inn a b i c n).getD (i + n) 0 + a.getD i 0 * b.getD n 0)) N = _
    omega
/-- The sum of the products of which the places lie below N. -/
def W (a b : List (BitVec 64)) (N : Nat) : Nat → Nat
  | 0 => 0
  | i + 1 => W a b N i + (a.getD i 0).toNat * 2 ^ (24 * i) * V b (N - i)
theorem out_V (a b : List (BitVec 64)) (ha : Dg a) (hb : Dg b) : ∀ n, n ≤ 14 → V (out a b n) 14 = W a b 14 n
  | 0, _ => by rw [out, V_zero, W]
  | n + 1, h => by
    have ih := out_V a b ha hb n (by omega)
    have h1 := inn_V a b (out a b n) n 14 (out_len a b n) ha hb (fun k hk => by have := out_le a b ha hb k hk n (by omega); omega) (14 - n) (by omega)
    rw [out, h1, ih]
    rfl
theorem V_split (b : List (BitVec 64)) (m : Nat) : ∀ n, m ≤ n → ∃ q, V b n = V b m + 2 ^ (24 * m) * q
  | n, h => by
    induction n with
    | zero => exact ⟨0, by rw [show m = 0 by omega]; simp⟩
    | succ n ih =>
      rcases Nat.eq_or_lt_of_le h with e | e
      · exact ⟨0, by rw [e]; simp⟩
      · obtain ⟨q, hq⟩ := ih (by omega)
        refine ⟨q + (b.getD n 0).toNat * 2 ^ (24 * (n - m)), ?_⟩
        rw [V, hq, Nat.mul_add, show 24 * n = 24 * m + 24 * (n - m) by omega, Nat.pow_add]
        simp only [Nat.mul_assoc, Nat.mul_left_comm, Nat.mul_comm, Nat.add_assoc]
theorem W_split (a b : List (BitVec 64)) (N : Nat) : ∀ i, i ≤ N → ∃ q, V a i * V b N = W a b N i + 2 ^ (24 * N) * q
  | 0, _ => ⟨0, by simp [V, W]⟩
  | i + 1, h => by
    obtain ⟨q, hq⟩ := W_split a b N i (by omega)
    obtain ⟨r, hr⟩ := V_split b (N - i) N (by omega)
    refine ⟨q + (a.getD i 0).toNat * r, ?_⟩
    have e : 2 ^ (24 * i) * 2 ^ (24 * (N - i)) = 2 ^ (24 * N) := by rw [← Nat.pow_add]; congr 1; omega
    have e2 : (a.getD i 0).toNat * 2 ^ (24 * i) * V b N = (a.getD i 0).toNat * 2 ^ (24 * i) * V b (N - i) + 2 ^ (24 * N) * ((a.getD i 0).toNat * r) := by
      rw [hr, Nat.mul_add, ← e]
      simp only [Nat.mul_assoc, Nat.mul_left_comm, Nat.mul_comm]
    rw [V, Nat.add_mul, hq, e2, W, Nat.mul_add]
    omega
end Go.Proofs.YtdejfaccoepfhaaDoor
