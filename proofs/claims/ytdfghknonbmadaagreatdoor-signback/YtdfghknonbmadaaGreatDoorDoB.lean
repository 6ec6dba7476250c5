/-
  The document's numbers: sums, differences, products, bits, powers, as plain arithmetic on rows of digits. No statement is proved here.
-/
import Derived.Test.YtdfghknonbmadaaGreatDoorDoA
namespace Go.Proofs.YtdfghknonbmadaaGreatDoor
namespace Mt
namespace Dg
set_option linter.unusedVariables false
set_option linter.unusedSimpArgs false
set_option maxRecDepth 1000000
set_option maxHeartbeats 4000000
def byt (s : List (BitVec 8)) (i : Nat) : Nat := (s.getD i 0).toNat
def rd (s : List (BitVec 8)) : Nat → Nat
 | 0 => 0
 | j + 1 => rd s j + byt s j * 256 ^ j
theorem byt_lt (s : List (BitVec 8)) (i : Nat) : byt s i < 256 := (s.getD i 0).isLt
theorem rd_lt (s : List (BitVec 8)) : ∀ i, rd s i < 256 ^ i
 | 0 => (by decide : 0 < 1)
 | i + 1 => by
  have h := rd_lt s i
  have hb := byt_lt s i
  have h2 : byt s i * 256 ^ i ≤ 255 * 256 ^ i := Nat.mul_le_mul_right _ (by omega)
  rw [rd, Nat.pow_succ]
  omega
def vb (v j : Nat) : Nat := v / 256 ^ j % 256
theorem div_split {B D m : Nat} (hm : 0 < m) : (B + D) / m = B / m + D / m + if (B + D) % m < B % m then 1 else 0 := by
 have hb := Nat.div_add_mod B m
 have hd := Nat.div_add_mod D m
 have rb := Nat.mod_lt B hm
 have rd := Nat.mod_lt D hm
 generalize B / m = qb at *
 generalize D / m = qd at *
 generalize B % m = xb at *
 generalize D % m = xd at *
 have e : B + D = (xb + xd) + m * (qb + qd) := by rw [Nat.mul_add]; omega
 rw [e, Nat.add_mul_div_left _ _ hm, Nat.add_mul_mod_self_left]
 by_cases h : xb + xd < m
 ·rw [Nat.div_eq_of_lt h, Nat.mod_eq_of_lt h, if_neg (by omega)]; omega
 ·have h1 : (xb + xd) / m = 1 := by
   have e2 : xb + xd = (xb + xd - m) + m * 1 := by omega
   rw [e2, Nat.add_mul_div_left _ _ hm, Nat.div_eq_of_lt (by omega)]
  have h2 : (xb + xd) % m = xb + xd - m := by rw [Nat.mod_eq_sub_mod (by omega), Nat.mod_eq_of_lt (by omega)]
  rw [h1, h2, if_pos (by omega)]; omega
theorem minus_gen {A B m K : Nat} (hm : 0 < m) (hK : 0 < K) (hAB : B ≤ A) : K * (if A % (m * K) < B % (m * K) then 1 else 0) + A / m % K = B / m % K + (if A % m < B % m then 1 else 0) + (A - B) / m % K := by
 obtain ⟨D, rfl⟩ : ∃ D, A = B + D := ⟨A - B, by omega⟩
 rw [show B + D - B = D by omega]
 have h1 := div_split (B := B) (D := D) hm
 have h2 := div_split (B := B) (D := D) (Nat.mul_pos hm hK)
 have a1 := Nat.div_add_mod ((B + D) / m) K
 have a2 := Nat.div_add_mod (B / m) K
 have a3 := Nat.div_add_mod (D / m) K
 rw [Nat.div_div_eq_div_mul] at a1 a2 a3
 generalize (if (B + D) % (m * K) < B % (m * K) then 1 else 0) = c2 at *
 generalize (if (B + D) % m < B % m then 1 else 0) = c1 at *
 rw [h2, h1] at a1
 have e : K * (B / (m * K) + D / (m * K) + c2) = K * (B / (m * K)) + K * (D / (m * K)) + K * c2 := by rw [Nat.mul_add, Nat.mul_add]
 rw [e] at a1
 rw [h1]
 omega
def bw (A B i : Nat) : Nat := if A % 2 ^ (30 * i) < B % 2 ^ (30 * i) then 1 else 0
theorem bw_le (A B i : Nat) : bw A B i ≤ 1 := by unfold bw; split <;> omega
theorem minus_dt {A B : Nat} (h : B ≤ A) (i : Nat) : 1073741824 * bw A B (i + 1) + dt A i = dt B i + bw A B i + dt (A - B) i := by
 have := minus_gen (A := A) (B := B) (m := 2 ^ (30 * i)) (K := 1073741824) (Nat.two_pow_pos _) (by decide) h
 have e : 2 ^ (30 * i) * 1073741824 = 2 ^ (30 * (i + 1)) := by rw [Nat.mul_add, Nat.pow_add]
 rw [e] at this
 exact this
def ml (A B i : Nat) : List Nat := (List.range 9).map fun j => if j < i then dt (A - B) j else dt A j
theorem ml_zero (A B : Nat) : ml A B 0 = dts A := by simp [ml, dts]
theorem ml_nine (A B : Nat) : ml A B 9 = dts (A - B) := by
 unfold ml dts
 apply List.map_congr_left
 intro j hj
 rw [if_pos (by simpa using hj)]
theorem ml_get (A B i : Nat) (h : i < 9) : (ml A B i).getD i 0 = dt A i := by simp [ml, h]
theorem ml_len (A B i : Nat) : (ml A B i).length = 9 := by simp [ml]
theorem ml_set (A B i : Nat) (h : i < 9) : (ml A B i).set i (dt (A - B) i) = ml A B (i + 1) := by
 apply List.ext_getElem
 ·simp [ml]
 ·intro j h1 h2
  have hj : j < 9 := by simpa [ml] using h2
  rw [List.getElem_set]
  split
  ·rename_i e
   subst e
   simp [ml]
  ·rename_i e
   simp only [ml, List.getElem_map, List.getElem_range]
   by_cases hji : j < i
   ·rw [if_pos hji, if_pos (by omega)]
   ·rw [if_neg hji, if_neg (by omega)]
theorem div_dt (A i : Nat) : A / 2 ^ (30 * i) = 1073741824 * (A / 2 ^ (30 * (i + 1))) + dt A i := by
 have h := Nat.div_add_mod (A / 2 ^ (30 * i)) 1073741824
 rw [Nat.div_div_eq_div_mul, show 2 ^ (30 * i) * 1073741824 = 2 ^ (30 * (i + 1)) from by rw [Nat.mul_add, Nat.pow_add]] at h
 exact h.symm
theorem lt_of_div {A B m : Nat} (h : A / m < B / m) : A < B := by
 apply Classical.byContradiction
 intro hn
 have := Nat.div_le_div_right (c := m) (Nat.le_of_not_lt hn)
 omega
theorem less_dt {A B i : Nat} (h : A / 2 ^ (30 * (i + 1)) = B / 2 ^ (30 * (i + 1))) (hne : dt A i ≠ dt B i) : decide (dt A i < dt B i) = decide (A < B) := by
 have h1 := div_dt A i
 have h2 := div_dt B i
 by_cases hl : dt A i < dt B i
 ·rw [decide_eq_true hl, decide_eq_true (lt_of_div (m := 2 ^ (30 * i)) (by omega))]
 ·have : B < A := lt_of_div (m := 2 ^ (30 * i)) (by omega)
  rw [decide_eq_false hl, decide_eq_false (by omega)]
theorem div_bigk {A n k : Nat} (h : A < 2 ^ n) (hn : n ≤ k) : A / 2 ^ k = 0 := Nat.div_eq_of_lt (Nat.lt_of_lt_of_le h (Nat.pow_le_pow_right (by decide) hn))
theorem getD_mem {t : List Nat} {i : Nat} (h : i < t.length) : t.getD i 0 ∈ t := by
 have e : t.getD i 0 = t[i] := by simp [h]
 rw [e]; exact List.getElem_mem h
def cp9 (u : List Nat) (i : Nat) : List Nat := (List.range 9).map fun j => if j < i then u.getD j 0 else 0
theorem div_R {v : Nat} (h : v < 57896044618658097711785492504343953926634992332820282019728792003956564819968) : v / 2 ^ (30 * 9) = 0 := by
 generalize hk : 30 * 9 = k
 exact div_bigk (n := 255) h (by omega)
theorem div_less {v p : Nat} (hp : 0 < p) (h : p ≤ v) : (v - p) / p < v / p := by
 have := Nat.div_eq_sub_div hp h
 omega
theorem cp9_zero (u : List Nat) : cp9 u 0 = [0, 0, 0, 0, 0, 0, 0, 0, 0] := by simp [cp9]; rfl
theorem cp9_len (u : List Nat) (i : Nat) : (cp9 u i).length = 9 := by simp [cp9]
theorem cp9_step (u : List Nat) (i : Nat) (h : i < 9) : (cp9 u i).set i (u.getD i 0) = cp9 u (i + 1) := by
 apply List.ext_getElem
 ·simp [cp9]
 ·intro j h1 h2
  rw [List.getElem_set]
  split
  ·rename_i e
   subst e
   simp [cp9]
  ·rename_i e
   simp only [cp9, List.getElem_map, List.getElem_range]
   by_cases hji : j < i
   ·rw [if_pos hji, if_pos (by omega)]
   ·rw [if_neg hji, if_neg (by omega)]
theorem cp9_nine (u : List Nat) (v : Nat) (h : ∀ j, j < 9 → u.getD j 0 = dt v j) : cp9 u 9 = dts v := by
 unfold cp9 dts
 apply List.map_congr_left
 intro j hj
 rw [if_pos (by simpa using hj)]; exact h j (by simpa using hj)
theorem vl_dt (A : Nat) : ∀ n, vl ((List.range n).map (dt A)) = A % 2 ^ (30 * n)
 | 0 => by simp [vl, Nat.mod_one]
 | n + 1 => by
  have ih := vl_dt A n
  rw [List.range_succ, List.map_append, vl_append, ih, List.length_map, List.length_range]
  have e1 : 1073741824 ^ n = 2 ^ (30 * n) := by rw [Nat.pow_mul]
  have e2 : vl (List.map (dt A) [n]) = dt A n := by simp [vl]
  rw [e1, e2, show 2 ^ (30 * (n + 1)) = 2 ^ (30 * n) * 1073741824 from by rw [Nat.mul_add, Nat.pow_add], Nat.mod_mul]
  rfl
theorem mod_of_div {A m : Nat} (hm : 0 < m) (h : A / m = 0) : A % m = A := by
 have := Nat.div_add_mod A m
 rw [h, Nat.mul_zero, Nat.zero_add] at this
 exact this
theorem vl_dts {A : Nat} (h : A / 2 ^ (30 * 9) = 0) : vl (dts A) = A := by
 have := vl_dt A 9
 rw [mod_of_div (Nat.two_pow_pos _) h] at this
 exact this
theorem vl_sum : ∀ a b : List Nat, a.length = b.length → vl (List.zipWith (· + ·) a b) = vl a + vl b
 | [], [], _ => by simp [vl]
 | x :: a, y :: b, h => by
  have h1 := vl_sum a b (by simpa using h)
  show x + y + 1073741824 * vl (List.zipWith (· + ·) a b) = x + 1073741824 * vl a + (y + 1073741824 * vl b)
  rw [h1, Nat.mul_add]; omega
 | [], _ :: _, h => by simp at h
 | _ :: _, [], h => by simp at h
def al (A B i : Nat) : List Nat := (List.range 19).map fun j => if j < i then (if j < 9 then dt A j + dt B j else 0) else 0
theorem al_zero (A B : Nat) : al A B 0 = [0, 0, 0, 0, 0, 0, 0, 0, 0, 0, 0, 0, 0, 0, 0, 0, 0, 0, 0] := by simp [al]; rfl
theorem al_len (A B i : Nat) : (al A B i).length = 19 := by simp [al]
theorem al_step (A B i : Nat) (h : i < 9) : (al A B i).set i (dt A i + dt B i) = al A B (i + 1) := by
 apply List.ext_getElem
 ·simp [al]
 ·intro j h1 h2
  rw [List.getElem_set]
  split
  ·rename_i e
   subst e
   simp [al, h]
  ·rename_i e
   simp only [al, List.getElem_map, List.getElem_range]
   by_cases hji : j < i
   ·rw [if_pos hji, if_pos (by omega : j < i + 1)]
   ·rw [if_neg hji, if_neg (by omega)]
theorem al_nine (A B : Nat) : al A B 9 = List.zipWith (· + ·) (dts A) (dts B) ++ List.replicate 10 0 := rfl
theorem al_val {A B : Nat} (hA : A / 2 ^ (30 * 9) = 0) (hB : B / 2 ^ (30 * 9) = 0) : vl (al A B 9) = A + B := by
 rw [al_nine, vl_append, vl_zeros, Nat.mul_zero, Nat.add_zero, vl_sum _ _ (by rw [dts_len, dts_len]), vl_dts hA, vl_dts hB]
theorem ite_le {p q : Prop} [Decidable p] [Decidable q] {x d : Nat} (h : x ≤ d) : (if p then (if q then x else 0) else 0) ≤ d := by
 split
 ·split
  ·exact h
  ·exact Nat.zero_le _
 ·exact Nat.zero_le _
theorem al_one (A B j : Nat) : dt A j + dt B j ≤ 18446742974197923840 := by
 have h1 := dt_lt A j
 have h2 := dt_lt B j
 omega
theorem al_leg (A B i d : Nat) (h : ∀ j, dt A j + dt B j ≤ d) : ∀ x ∈ al A B i, x ≤ d := by
 intro x hx
 obtain ⟨j, _, rfl⟩ := List.mem_map.1 hx
 exact ite_le (h j)
theorem al_le (A B i : Nat) : ∀ x ∈ al A B i, x ≤ 18446742974197923840 := al_leg A B i _ (al_one A B)
theorem bigP : Nt.P / 2 ^ (30 * 9) = 0 := div_R (by rw [Nt.P_val]; decide)
theorem big_of {A : Nat} (h : A ≤ Nt.P) : A / 2 ^ (30 * 9) = 0 := div_R (by have := R_P; omega)
theorem sum_K19 {A B : Nat} (hA : A ≤ Nt.P) (hB : B ≤ Nt.P) : A + B < 3864537523017258344695351890931987344298927329706434998657235251451519142289560424536193766581922577962463616031502177177365078661042987655742908673467080748696980814823424 := by
 have : Nt.P < 57896044618658097711785492504343953926634992332820282019728792003956564819968 := by have := R_P; omega
 omega
theorem vl_set : ∀ (l : List Nat) (j y : Nat), j < l.length → vl (l.set j (l.getD j 0 + y)) = vl l + 1073741824 ^ j * y
 | [], j, y, h => by simp at h
 | x :: l, 0, y, h => by
  show x + y + 1073741824 * vl l = x + 1073741824 * vl l + 1073741824 ^ 0 * y
  rw [Nat.pow_zero, Nat.one_mul]; omega
 | x :: l, j + 1, y, h => by
  have ih := vl_set l j y (by simpa using h)
  show x + 1073741824 * vl (l.set j (l.getD j 0 + y)) = x + 1073741824 * vl l + 1073741824 ^ (j + 1) * y
  rw [ih, Nat.mul_add, Nat.pow_succ', Nat.mul_assoc, Nat.add_assoc]
theorem mod_dt (B k : Nat) : B % 2 ^ (30 * (k + 1)) = B % 2 ^ (30 * k) + 2 ^ (30 * k) * dt B k := by
 rw [show 2 ^ (30 * (k + 1)) = 2 ^ (30 * k) * 1073741824 from by rw [Nat.mul_add, Nat.pow_add], Nat.mod_mul]; rfl
theorem succ_Q (i : Nat) : (i + 1) * 1152921502459363329 = i * 1152921502459363329 + 1152921502459363329 := Nat.succ_mul i _
theorem rep_get (n j : Nat) : (List.replicate n 0).getD j 0 = 0 := by
 simp only [List.getD_eq_getElem?_getD, List.getElem?_replicate]
 split <;> rfl
def MI (A B i k : Nat) (t : List Nat) : Prop := t.length = 19 ∧ vl t = A % 2 ^ (30 * i) * B + dt A i * 2 ^ (30 * i) * (B % 2 ^ (30 * k)) ∧ (∀ j, j < i + k → t.getD j 0 ≤ (i + 1) * 1152921502459363329) ∧ ∀ j, i + k ≤ j → t.getD j 0 ≤ i * 1152921502459363329
theorem prod_le (A B i k : Nat) : dt A i * dt B k ≤ 1152921502459363329 := by
 have h1 := dt_lt A i
 have h2 := dt_lt B k
 exact Nat.mul_le_mul (show dt A i ≤ 1073741823 by omega) (show dt B k ≤ 1073741823 by omega)
theorem getD_set (l : List Nat) (j x n : Nat) (h : j < l.length) : (l.set j x).getD n 0 = if j = n then x else l.getD n 0 := by
 simp only [List.getD_eq_getElem?_getD, List.getElem?_set]
 by_cases e : j = n
 ·subst e; simp [h]
 ·simp [e]
theorem MI.step {A B i k : Nat} {t : List Nat} (h : MI A B i k t) (hi : i < 9) (hk : k < 9) : MI A B i (k + 1) (t.set (i + k) (t.getD (i + k) 0 + dt A i * dt B k)) := by
 obtain ⟨h1, h2, h3, h4⟩ := h
 have hj : i + k < t.length := by omega
 have hp := prod_le A B i k
 refine ⟨by rw [List.length_set]; exact h1, ?_, fun j hj2 => ?_, fun j hj2 => ?_⟩
 ·rw [vl_set t _ _ hj, h2, mod_dt B k, Nat.mul_add, Nat.add_assoc]
  congr 1
  congr 1
  have e : 1073741824 ^ (i + k) = 2 ^ (30 * i) * 2 ^ (30 * k) := by rw [← Nat.pow_add, ← Nat.mul_add, Nat.pow_mul]
  rw [e, Nat.mul_comm (dt A i) (2 ^ (30 * i)), Nat.mul_assoc, Nat.mul_assoc, Nat.mul_left_comm (dt A i)]
 ·rw [getD_set t _ _ _ hj]
  split
  ·have := h4 (i + k) (Nat.le_refl _)
   have e := succ_Q i
   omega
  ·exact h3 j (by omega)
 ·rw [getD_set t _ _ _ hj, if_neg (by omega)]
  exact h4 j (by omega)
theorem MI.row {A B i : Nat} {t : List Nat} (h : MI A B i 9 t) (hB : B / 2 ^ (30 * 9) = 0) : MI A B (i + 1) 0 t := by
 obtain ⟨h1, h2, h3, h4⟩ := h
 have hall : ∀ j, t.getD j 0 ≤ (i + 1) * 1152921502459363329 := fun j => by
  by_cases hj : j < i + 9
  ·exact h3 j hj
  ·have := h4 j (Nat.le_of_not_lt hj)
   rw [succ_Q]; exact Nat.le_trans this (Nat.le_add_right _ _)
 refine ⟨h1, ?_, fun j hj => ?_, fun j hj => hall j⟩
 ·rw [h2, mod_of_div (Nat.two_pow_pos _) hB, mod_dt A i, ← Nat.add_mul, Nat.mul_comm (dt A i), Nat.mul_zero, Nat.pow_zero, Nat.mod_one, Nat.mul_zero, Nat.add_zero]
 ·have := hall j
  rw [succ_Q]; exact Nat.le_trans this (Nat.le_add_right _ _)
theorem MI.start (A B : Nat) : MI A B 0 0 [0, 0, 0, 0, 0, 0, 0, 0, 0, 0, 0, 0, 0, 0, 0, 0, 0, 0, 0] := by
 refine ⟨rfl, ?_, fun j hj => by omega, fun j _ => ?_⟩
 ·rw [show ([0, 0, 0, 0, 0, 0, 0, 0, 0, 0, 0, 0, 0, 0, 0, 0, 0, 0, 0] : List Nat) = List.replicate 19 0 from rfl, vl_zeros]
  simp [Nat.mod_one]
 ·rw [show ([0, 0, 0, 0, 0, 0, 0, 0, 0, 0, 0, 0, 0, 0, 0, 0, 0, 0, 0] : List Nat) = List.replicate 19 0 from rfl]
  have := rep_get 19 j
  rw [this]; exact Nat.zero_le _
theorem MI.last {A B : Nat} {t : List Nat} (h : MI A B 9 0 t) (hA : A / 2 ^ (30 * 9) = 0) : vl t = A * B ∧ ∀ x ∈ t, x ≤ 18446742974197923840 := by
 obtain ⟨h1, h2, h3, h4⟩ := h
 refine ⟨?_, fun x hx => ?_⟩
 ·rw [h2, mod_of_div (Nat.two_pow_pos _) hA, Nat.mul_zero 30, Nat.pow_zero, Nat.mod_one, Nat.mul_zero, Nat.add_zero]
 ·obtain ⟨j, hj, rfl⟩ := List.mem_iff_getElem.1 hx
  have e : t.getD j 0 = t[j] := by simp [hj]
  rw [← e]
  by_cases hj9 : j < 9 + 0
  ·have := h3 j hj9; omega
  ·have := h4 j (by omega); omega
theorem put_bit {k x q r : Nat} (hr : r < k) (hx : x < 2 ^ (k * q) * 2 ^ r) (j : Nat) : (x + 2 ^ (k * q) * 2 ^ r) / 2 ^ (k * j) % 2 ^ k = x / 2 ^ (k * j) % 2 ^ k + if j = q then 2 ^ r else 0 := by
 have h2 : 2 ^ r * 2 ≤ 2 ^ k := by rw [← Nat.pow_succ]; exact Nat.pow_le_pow_right (by decide) hr
 rcases Nat.lt_trichotomy j q with h | h | h
 ·rw [if_neg (by omega)]
  obtain ⟨d, rfl⟩ : ∃ d, q = j + 1 + d := ⟨q - j - 1, by omega⟩
  have hc : 2 ^ (k * (j + 1 + d)) * 2 ^ r = 2 ^ (k * j) * (2 ^ k * (2 ^ (k * d) * 2 ^ r)) := by
   rw [Nat.mul_add, Nat.mul_add, Nat.pow_add, Nat.pow_add, Nat.mul_one, Nat.mul_assoc, Nat.mul_assoc]
  rw [hc, Nat.add_mul_div_left _ _ (Nat.two_pow_pos _), Nat.add_mul_mod_self_left, Nat.add_zero]
 ·subst h
  rw [if_pos rfl, Nat.add_mul_div_left _ _ (Nat.two_pow_pos _)]
  have h1 : x / 2 ^ (k * j) < 2 ^ r := Nat.div_lt_of_lt_mul hx
  rw [Nat.mod_eq_of_lt (by omega), Nat.mod_eq_of_lt (by omega)]
 ·rw [if_neg (by omega)]
  obtain ⟨d, rfl⟩ : ∃ d, j = q + 1 + d := ⟨j - q - 1, by omega⟩
  have h3 : 2 ^ (k * q) * (2 ^ r * 2) ≤ 2 ^ (k * q) * 2 ^ k := Nat.mul_le_mul_left _ h2
  have h4 : 2 ^ (k * q) * 2 ^ k ≤ 2 ^ (k * (q + 1 + d)) := by
   rw [← Nat.pow_add]
   refine Nat.pow_le_pow_right (by decide) ?_
   rw [Nat.mul_add, Nat.mul_add, Nat.mul_one]; omega
  have h5 : 2 ^ (k * q) * (2 ^ r * 2) = 2 ^ (k * q) * 2 ^ r * 2 := by rw [Nat.mul_assoc]
  rw [Nat.div_eq_of_lt (by omega), Nat.div_eq_of_lt (by omega), Nat.add_zero]
theorem dig_bit {k r : Nat} (hr : r < k) (v q : Nat) : v / 2 ^ (k * q) % 2 ^ k / 2 ^ r % 2 = v / 2 ^ (k * q + r) % 2 := by
 obtain ⟨d, rfl⟩ : ∃ d, k = r + 1 + d := ⟨k - r - 1, by omega⟩
 have h : 2 ^ (r + 1 + d) = 2 ^ r * (2 * 2 ^ d) := by rw [Nat.pow_add, Nat.pow_succ, Nat.mul_assoc]
 rw [show ∀ a : Nat, a % 2 ^ (r + 1 + d) = a % (2 ^ r * (2 * 2 ^ d)) from fun a => by rw [h], Nat.mod_mul_right_div_self, Nat.mod_mul_right_mod, Nat.div_div_eq_div_mul, ← Nat.pow_add]
theorem rd_high (s : List (BitVec 8)) (j : Nat) : ∀ d, ∃ c, rd s (j + 1 + d) = rd s j + 256 ^ j * (byt s j + 256 * c)
 | 0 => ⟨0, by rw [Nat.add_zero, rd, Nat.mul_zero, Nat.add_zero, Nat.mul_comm]⟩
 | d + 1 => by
  obtain ⟨c, h⟩ := rd_high s j d
  refine ⟨c + byt s (j + 1 + d) * 256 ^ d, ?_⟩
  rw [show j + 1 + (d + 1) = (j + 1 + d) + 1 from rfl, rd, h, Nat.pow_add, Nat.pow_succ, Nat.mul_add, Nat.mul_add, Nat.mul_add, Nat.mul_add]
  have e : byt s (j + 1 + d) * (256 ^ j * 256 * 256 ^ d) = 256 ^ j * (256 * (byt s (j + 1 + d) * 256 ^ d)) := by
   generalize 256 ^ d = y
   generalize 256 ^ j = z
   generalize byt s (j + 1 + d) = x
   rw [Nat.mul_left_comm 256 x y, Nat.mul_left_comm z x, Nat.mul_assoc]
  rw [e]; omega
theorem rd_byte (s : List (BitVec 8)) (j : Nat) (h : j < 32) : rd s 32 / 256 ^ j % 256 = byt s j := by
 obtain ⟨c, hc⟩ := rd_high s j (31 - j)
 rw [show j + 1 + (31 - j) = 32 by omega] at hc
 rw [hc, Nat.add_mul_div_left _ _ (Nat.pow_pos (by decide)), Nat.div_eq_of_lt (rd_lt s j), Nat.zero_add, Nat.add_mul_mod_self_left, Nat.mod_eq_of_lt (byt_lt s j)]
theorem rd_bit (s : List (BitVec 8)) (i : Nat) (h : i < 256) : byt s (i / 8) / 2 ^ (i % 8) % 2 = rd s 32 / 2 ^ i % 2 := by
 have h1 := dig_bit (k := 8) (r := i % 8) (by omega) (rd s 32) (i / 8)
 rw [Nat.pow_mul] at h1
 have h2 := rd_byte s (i / 8) (by omega)
 rw [show 8 * (i / 8) + i % 8 = i by omega] at h1
 rw [← h1, ← h2]
theorem dt_bit (v i : Nat) : dt v (i / 30) / 2 ^ (i % 30) % 2 = v / 2 ^ i % 2 := by
 have h1 := dig_bit (k := 30) (r := i % 30) (by omega) v (i / 30)
 rw [show 30 * (i / 30) + i % 30 = i by omega] at h1
 exact h1
theorem mod_bit (v i : Nat) : v % 2 ^ (i + 1) = v % 2 ^ i + 2 ^ i * (v / 2 ^ i % 2) := Nat.mod_pow_succ
theorem two_at (i k : Nat) : 2 ^ i = 2 ^ (k * (i / k)) * 2 ^ (i % k) := by
 rw [← Nat.pow_add, Nat.div_add_mod]
theorem dts_low (v i : Nat) (h : v / 2 ^ i % 2 = 0) : dts (v % 2 ^ (i + 1)) = dts (v % 2 ^ i) := by
 rw [mod_bit, h, Nat.mul_zero, Nat.add_zero]
theorem dt_room (v i : Nat) : dt (v % 2 ^ i) (i / 30) < 2 ^ (i % 30) := by
 have h := Nat.mod_lt v (Nat.two_pow_pos i)
 rw [show ∀ a : Nat, (a < 2 ^ i) = (a < 2 ^ (30 * (i / 30)) * 2 ^ (i % 30)) from fun a => by rw [← two_at]] at h
 exact Nat.lt_of_le_of_lt (Nat.mod_le _ _) (Nat.div_lt_of_lt_mul h)
theorem dts_high (v i : Nat) (hi : i < 270) (h : v / 2 ^ i % 2 = 1) : (dts (v % 2 ^ i)).set (i / 30) (dt (v % 2 ^ i) (i / 30) + 2 ^ (i % 30)) = dts (v % 2 ^ (i + 1)) := by
 rw [mod_bit, h, Nat.mul_one]
 have hx := Nat.mod_lt v (Nat.two_pow_pos i)
 generalize v % 2 ^ i = x at *
 rw [two_at i 30] at *
 have hp := put_bit (k := 30) (x := x) (q := i / 30) (r := i % 30) (by omega) hx
 apply List.ext_getElem
 ·simp [dts]
 ·intro j h1 h2
  have hj : j < 9 := by simpa [dts] using h2
  rw [List.getElem_set]
  simp only [dts, List.getElem_map, List.getElem_range]
  have := hp j
  unfold dt
  rw [show (1073741824 : Nat) = 2 ^ 30 from rfl, this]
  split
  ·rename_i e; subst e; rw [if_pos rfl]
  ·rename_i e; rw [if_neg (fun h => e h.symm), Nat.add_zero]
theorem pow_le29 (r : Nat) (hr : r < 30) : 2 ^ r ≤ 536870912 := Nat.pow_le_pow_right (by decide) (show r ≤ 29 by omega)
theorem mod_pow_of {a : Nat} (i : Nat) (h : a < 2 ^ i) : a % 2 ^ i = a := Nat.mod_eq_of_lt h
theorem rd_pow (s : List (BitVec 8)) : rd s 32 < 2 ^ 256 := by have := rd_lt s 32; rwa [show (256 : Nat) ^ 32 = 2 ^ 256 from rfl] at this
theorem rd_all (s : List (BitVec 8)) : rd s 32 % 2 ^ 256 = rd s 32 := mod_pow_of 256 (rd_pow s)
def ol (A i : Nat) : List Nat := (List.range 19).map fun j => if j < i then (if j < 9 then dt A j else 0) else 0
theorem ol_zero (A : Nat) : ol A 0 = [0, 0, 0, 0, 0, 0, 0, 0, 0, 0, 0, 0, 0, 0, 0, 0, 0, 0, 0] := by simp [ol]; rfl
theorem ol_len (A i : Nat) : (ol A i).length = 19 := by simp [ol]
theorem ol_step (A i : Nat) (h : i < 9) : (ol A i).set i (dt A i) = ol A (i + 1) := by
 apply List.ext_getElem
 ·simp [ol]
 ·intro j h1 h2
  rw [List.getElem_set]
  split
  ·rename_i e
   subst e
   simp [ol, h]
  ·rename_i e
   simp only [ol, List.getElem_map, List.getElem_range]
   by_cases hji : j < i
   ·rw [if_pos hji, if_pos (by omega : j < i + 1)]
   ·rw [if_neg hji, if_neg (by omega)]
theorem ol_nine (A : Nat) : ol A 9 = dts A ++ List.replicate 10 0 := rfl
theorem ol_val {A : Nat} (hA : A / 2 ^ (30 * 9) = 0) : vl (ol A 9) = A := by
 rw [ol_nine, vl_append, vl_zeros, Nat.mul_zero, Nat.add_zero, vl_dts hA]
theorem ol_leg (A i d : Nat) (h : ∀ j, dt A j ≤ d) : ∀ x ∈ ol A i, x ≤ d := by
 intro x hx
 obtain ⟨j, _, rfl⟩ := List.mem_map.1 hx
 exact ite_le (h j)
theorem ol_le (A i : Nat) : ∀ x ∈ ol A i, x ≤ 18446742974197923840 := ol_leg A i _ (fun j => by have := dt_lt A j; omega)
theorem rd_lt4 (s : List (BitVec 8)) : rd s 32 < 115792089237316195423570985008687907853269984665640564039457584007913129639936 := rd_lt s 32
theorem div_pow_lt {v i k : Nat} (h : v < 2 ^ i) (hik : i ≤ k) : v / 2 ^ k = 0 := Nat.div_eq_of_lt (Nat.lt_of_lt_of_le h (Nat.pow_le_pow_right (by decide) hik))
theorem big_of4 {A : Nat} (h : A < 115792089237316195423570985008687907853269984665640564039457584007913129639936) : A / 2 ^ (30 * 9) = 0 := by
 generalize hk : 30 * 9 = k
 exact div_pow_lt (i := 256) h (by omega)
theorem small_K19 {A : Nat} (h : A < 115792089237316195423570985008687907853269984665640564039457584007913129639936) : A < 3864537523017258344695351890931987344298927329706434998657235251451519142289560424536193766581922577962463616031502177177365078661042987655742908673467080748696980814823424 := by omega
def vbl (x : Nat) : List Nat := (List.range 32).map (vb x)
theorem vbl_len (x : Nat) : (vbl x).length = 32 := by simp [vbl]
theorem vbl_get (x i : Nat) (h : i < 32) : (vbl x).getD i 0 = vb x i := by simp [vbl, h]
theorem vb_put (v i j : Nat) : vb (v % 2 ^ (i + 1)) j = vb (v % 2 ^ i) j + if j = i / 8 then v / 2 ^ i % 2 * 2 ^ (i % 8) else 0 := by
 rw [mod_bit]
 have hx := Nat.mod_lt v (Nat.two_pow_pos i)
 generalize v % 2 ^ i = x at *
 rcases Nat.mod_two_eq_zero_or_one (v / 2 ^ i) with h | h
 ·rw [h, Nat.mul_zero, Nat.add_zero, Nat.zero_mul]; simp
 ·rw [h, Nat.mul_one, Nat.one_mul]
  rw [two_at i 8] at *
  have hp := put_bit (k := 8) (x := x) (q := i / 8) (r := i % 8) (by omega) hx j
  unfold vb
  rw [show (256 : Nat) = 2 ^ 8 from rfl, ← Nat.pow_mul]
  exact hp
theorem vb_room (v i : Nat) : vb (v % 2 ^ i) (i / 8) < 2 ^ (i % 8) := by
 have h := Nat.mod_lt v (Nat.two_pow_pos i)
 rw [show ∀ a : Nat, (a < 2 ^ i) = (a < 2 ^ (8 * (i / 8)) * 2 ^ (i % 8)) from fun a => by rw [← two_at]] at h
 unfold vb
 rw [show (256 : Nat) ^ (i / 8) = 2 ^ (8 * (i / 8)) from by rw [Nat.pow_mul]]
 exact Nat.lt_of_le_of_lt (Nat.mod_le _ _) (Nat.div_lt_of_lt_mul h)
theorem vbl_set (v i : Nat) : (vbl (v % 2 ^ i)).set (i / 8) (vb (v % 2 ^ (i + 1)) (i / 8)) = vbl (v % 2 ^ (i + 1)) := by
 apply List.ext_getElem
 ·simp [vbl]
 ·intro j h1 h2
  rw [List.getElem_set]
  simp only [vbl, List.getElem_map, List.getElem_range]
  split
  ·rename_i e; subst e; rfl
  ·rename_i e; rw [vb_put, if_neg (fun h => e h.symm), Nat.add_zero]
theorem vb_lt (v j : Nat) : vb v j < 256 := Nat.mod_lt _ (by decide)
end Dg
end Mt
end Go.Proofs.YtdfghknonbmadaaGreatDoor
