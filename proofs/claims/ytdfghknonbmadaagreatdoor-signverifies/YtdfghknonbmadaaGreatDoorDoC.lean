/-
  The document's numbers modulo the order: bytes, as plain arithmetic. No statement is proved here.
-/
import Derived.Test.YtdfghknonbmadaaGreatDoorDoB
namespace Go.Proofs.YtdfghknonbmadaaGreatDoor
namespace Mt
namespace Dg
set_option linter.unusedVariables false
set_option linter.unusedSimpArgs false
set_option maxRecDepth 1000000
set_option maxHeartbeats 4000000
namespace O
theorem div_vb (A i : Nat) : A / 256 ^ i = 256 * (A / 256 ^ (i + 1)) + vb A i := by
 have h := Nat.div_add_mod (A / 256 ^ i) 256
 rw [Nat.div_div_eq_div_mul, ← Nat.pow_succ] at h
 exact h.symm
theorem lt_of_div {A B m : Nat} (h : A / m < B / m) : A < B := by
 apply Classical.byContradiction
 intro hn
 have := Nat.div_le_div_right (c := m) (Nat.le_of_not_lt hn)
 omega
theorem less_vb {A B i : Nat} (h : A / 256 ^ (i + 1) = B / 256 ^ (i + 1)) (hne : vb A i ≠ vb B i) : decide (vb A i < vb B i) = decide (A < B) := by
 have h1 := div_vb A i
 have h2 := div_vb B i
 by_cases hl : vb A i < vb B i
 ·rw [decide_eq_true hl, decide_eq_true (lt_of_div (m := 256 ^ i) (by omega))]
 ·have : B < A := lt_of_div (m := 256 ^ i) (by omega)
  rw [decide_eq_false hl, decide_eq_false (by omega)]
theorem div_split {B D m : Nat} (hm : 0 < m) : (B + D) / m = B / m + D / m + if (B + D) % m < B % m then 1 else 0 := by
 have hb := Nat.div_add_mod B m
 have hd := Nat.div_add_mod D m
 have rb := Nat.mod_lt B hm
 have rd := Nat.mod_lt D hm
 generalize B / m = qb at *
 generalize D / m = qd at *
 generalize B % m = xb at *
 generalize D % m = xd at *
 have e : B + D = (xb + xd) + m * (qb + qd) := by rw [Nat.mul_add]; omega
 rw [e, Nat.add_mul_div_left _ _ hm, Nat.add_mul_mod_self_left]
 by_cases h : xb + xd < m
 ·rw [Nat.div_eq_of_lt h, Nat.mod_eq_of_lt h, if_neg (by omega)]; omega
 ·have h1 : (xb + xd) / m = 1 := by
   have e2 : xb + xd = (xb + xd - m) + m * 1 := by omega
   rw [e2, Nat.add_mul_div_left _ _ hm, Nat.div_eq_of_lt (by omega)]
  have h2 : (xb + xd) % m = xb + xd - m := by rw [Nat.mod_eq_sub_mod (by omega), Nat.mod_eq_of_lt (by omega)]
  rw [h1, h2, if_pos (by omega)]; omega
theorem minus_gen {A B m K : Nat} (hm : 0 < m) (hK : 0 < K) (hAB : B ≤ A) : K * (if A % (m * K) < B % (m * K) then 1 else 0) + A / m % K = B / m % K + (if A % m < B % m then 1 else 0) + (A - B) / m % K := by
 obtain ⟨D, rfl⟩ : ∃ D, A = B + D := ⟨A - B, by omega⟩
 rw [show B + D - B = D by omega]
 have h1 := div_split (B := B) (D := D) hm
 have h2 := div_split (B := B) (D := D) (Nat.mul_pos hm hK)
 have a1 := Nat.div_add_mod ((B + D) / m) K
 have a2 := Nat.div_add_mod (B / m) K
 have a3 := Nat.div_add_mod (D / m) K
 rw [Nat.div_div_eq_div_mul] at a1 a2 a3
 generalize (if (B + D) % (m * K) < B % (m * K) then 1 else 0) = c2 at *
 generalize (if (B + D) % m < B % m then 1 else 0) = c1 at *
 rw [h2, h1] at a1
 have e : K * (B / (m * K) + D / (m * K) + c2) = K * (B / (m * K)) + K * (D / (m * K)) + K * c2 := by rw [Nat.mul_add, Nat.mul_add]
 rw [e] at a1
 rw [h1]
 omega
def bw (A B i : Nat) : Nat := if A % 256 ^ i < B % 256 ^ i then 1 else 0
theorem bw_le (A B i : Nat) : bw A B i ≤ 1 := by unfold bw; split <;> omega
theorem minus_vb {A B : Nat} (h : B ≤ A) (i : Nat) : 256 * bw A B (i + 1) + vb A i = vb B i + bw A B i + vb (A - B) i := by
 have := minus_gen (A := A) (B := B) (m := 256 ^ i) (K := 256) (Nat.pow_pos (by decide)) (by decide) h
 rw [← Nat.pow_succ] at this
 exact this
def mlb (A B i : Nat) : List Nat := (List.range 32).map fun j => if j < i then vb (A - B) j else vb A j
theorem mlb_zero (A B : Nat) : mlb A B 0 = vbl A := by simp [mlb, vbl]
theorem mlb_all (A B : Nat) : mlb A B 32 = vbl (A - B) := by
 unfold mlb vbl
 apply List.map_congr_left
 intro j hj
 rw [if_pos (by simpa using hj)]
theorem mlb_get (A B i : Nat) (h : i < 32) : (mlb A B i).getD i 0 = vb A i := by simp [mlb, h]
theorem mlb_len (A B i : Nat) : (mlb A B i).length = 32 := by simp [mlb]
theorem mlb_set (A B i : Nat) (h : i < 32) : (mlb A B i).set i (vb (A - B) i) = mlb A B (i + 1) := by
 apply List.ext_getElem
 ·simp [mlb]
 ·intro j h1 h2
  rw [List.getElem_set]
  split
  ·rename_i e
   subst e
   simp [mlb]
  ·rename_i e
   simp only [mlb, List.getElem_map, List.getElem_range]
   by_cases hji : j < i
   ·rw [if_pos hji, if_pos (by omega)]
   ·rw [if_neg hji, if_neg (by omega)]
theorem minus_num {x y c1 c2 z : Nat} (hm : 256 * c2 + x = y + c1 + z) (hz : z < 256) (h2 : c2 ≤ 1) : ∃ u : Nat, 256 + (x : Int) - (y : Int) - (c1 : Int) = (u : Int) ∧ (u : Int) % 256 = (z : Int) ∧ 1 - (u : Int) / 256 = (c2 : Int) := by
 have : c2 = 0 ∨ c2 = 1 := by omega
 rcases this with rfl | rfl
 ·exact ⟨256 + z, by omega, by omega, by omega⟩
 ·exact ⟨z, by omega, by omega, by omega⟩
def cy (R b : Nat) : Nat → Nat
 | 0 => b
 | j + 1 => vb R j / 128
theorem cy_le {R b : Nat} (hb : b ≤ 1) : ∀ j, cy R b j ≤ 1
 | 0 => hb
 | j + 1 => by
  have := vb_lt R j
  show vb R j / 128 ≤ 1
  omega
theorem cy_div {R b : Nat} (hb : b ≤ 1) : ∀ j, (2 * R + b) / 256 ^ j = 2 * (R / 256 ^ j) + cy R b j
 | 0 => by rw [Nat.pow_zero, Nat.div_one, Nat.div_one]; rfl
 | j + 1 => by
  have ih := cy_div (R := R) hb j
  have hc := cy_le (R := R) hb j
  have hd := div_vb R j
  have hv := vb_lt R j
  rw [Nat.pow_succ, ← Nat.div_div_eq_div_mul, ih, hd, ← Nat.pow_succ]
  show _ = _ + vb R j / 128
  generalize R / 256 ^ (j + 1) = q at *
  generalize vb R j = x at *
  generalize cy R b j = c at *
  omega
theorem cy_vb {R b : Nat} (hb : b ≤ 1) (j : Nat) : vb (2 * R + b) j = (2 * vb R j + cy R b j) % 256 := by
 have h := cy_div (R := R) hb j
 have hd := div_vb R j
 have hc := cy_le (R := R) hb j
 show (2 * R + b) / 256 ^ j % 256 = _
 rw [h, hd]
 generalize R / 256 ^ (j + 1) = q at *
 generalize vb R j = x at *
 generalize cy R b j = c at *
 omega
def dl (R b j : Nat) : List Nat := (List.range 32).map fun k => if k < j then vb (2 * R + b) k else vb R k
theorem dl_zero (R b : Nat) : dl R b 0 = vbl R := by simp [dl, vbl]
theorem dl_all (R b : Nat) : dl R b 32 = vbl (2 * R + b) := by
 unfold dl vbl
 apply List.map_congr_left
 intro j hj
 rw [if_pos (by simpa using hj)]
theorem dl_len (R b i : Nat) : (dl R b i).length = 32 := by simp [dl]
theorem dl_get (R b i : Nat) (h : i < 32) : (dl R b i).getD i 0 = vb R i := by simp [dl, h]
theorem dl_set (R b i : Nat) (h : i < 32) : (dl R b i).set i (vb (2 * R + b) i) = dl R b (i + 1) := by
 apply List.ext_getElem
 ·simp [dl]
 ·intro j h1 h2
  rw [List.getElem_set]
  split
  ·rename_i e
   subst e
   simp [dl]
  ·rename_i e
   simp only [dl, List.getElem_map, List.getElem_range]
   by_cases hji : j < i
   ·rw [if_pos hji, if_pos (by omega)]
   ·rw [if_neg hji, if_neg (by omega)]
theorem less_mod {S : Nat} (h : S < 2 * Lq) : S % Lq = if S < Lq then S else S - Lq := by
 split
 ·rename_i h1; exact Nat.mod_eq_of_lt h1
 ·rename_i h1
  rw [Nat.mod_eq_sub_mod (by omega), Nat.mod_eq_of_lt (by omega)]
theorem byt_bit (s : List (BitVec 8)) (n i : Nat) (h : i < 8 * n) : byt s (i / 8) / 2 ^ (i % 8) % 2 = rd s n / 2 ^ i % 2 := by
 obtain ⟨c, hc⟩ := rd_high s (i / 8) (n - i / 8 - 1)
 rw [show i / 8 + 1 + (n - i / 8 - 1) = n by omega] at hc
 have h1 := dig_bit (k := 8) (r := i % 8) (by omega) (rd s n) (i / 8)
 rw [Nat.pow_mul, show 8 * (i / 8) + i % 8 = i by omega] at h1
 have h2 : rd s n / 256 ^ (i / 8) % 256 = byt s (i / 8) := by
  rw [hc, Nat.add_mul_div_left _ _ (Nat.pow_pos (by decide)), Nat.div_eq_of_lt (rd_lt s _), Nat.zero_add, Nat.add_mul_mod_self_left, Nat.mod_eq_of_lt (byt_lt s _)]
 rw [← h1, ← h2]
theorem rd_end (s : List (BitVec 8)) (n : Nat) : rd s n / 2 ^ (8 * n) = 0 := by
 refine Nat.div_eq_of_lt ?_
 have h := rd_lt s n
 rw [show (256 : Nat) = 2 ^ 8 from rfl, ← Nat.pow_mul] at h
 exact h
theorem div_256 {A : Nat} (h : A < 115792089237316195423570985008687907853269984665640564039457584007913129639936) : A / 256 ^ 32 = 0 := Nat.div_eq_of_lt h
def v8 : List Nat → Nat
 | [] => 0
 | x :: l => x + 256 * v8 l
theorem v8_set : ∀ (l : List Nat) (m x : Nat), m < l.length → v8 (l.set m x) + 256 ^ m * l.getD m 0 = v8 l + 256 ^ m * x
 | [], m, x, h => by simp at h
 | y :: l, 0, x, h => by simp [v8]; omega
 | y :: l, m + 1, x, h => by
  have ih := v8_set l m x (by simpa using h)
  show y + 256 * v8 (l.set m x) + 256 ^ (m + 1) * l.getD m 0 = y + 256 * v8 l + 256 ^ (m + 1) * x
  rw [Nat.pow_succ, Nat.mul_comm (256 ^ m) 256, Nat.mul_assoc, Nat.mul_assoc, Nat.add_assoc, Nat.add_assoc, ← Nat.mul_add, ← Nat.mul_add, ih]
theorem v8_add (l : List Nat) (m x : Nat) (h : m < l.length) : v8 (l.set m (l.getD m 0 + x)) = v8 l + 256 ^ m * x := by
 have := v8_set l m (l.getD m 0 + x) h
 rw [Nat.mul_add] at this
 omega
theorem v8_zeros : ∀ n, v8 (List.replicate n 0) = 0
 | 0 => rfl
 | n + 1 => by
  have := v8_zeros n
  show 0 + 256 * v8 (List.replicate n 0) = 0
  omega
theorem mod_vb (b j : Nat) : b % 256 ^ (j + 1) = b % 256 ^ j + 256 ^ j * vb b j := Nat.mod_pow_succ
structure MR (a b c i k : Nat) (l : List Nat) : Prop where
 len : l.length = 65
 le : ∀ m, l.getD m 0 ≤ (i + 1) * 65280
 fresh : ∀ m, i + k ≤ m → l.getD m 0 ≤ i * 65280 + 255
 val : v8 l = c % 256 ^ (i + 1) + a % 256 ^ i * b + 256 ^ i * (vb a i * (b % 256 ^ k))
theorem getD_set' (l : List Nat) (m x n : Nat) (h : m < l.length) : (l.set m x).getD n 0 = if n = m then x else l.getD n 0 := by
 rw [List.getD_eq_getElem?_getD, List.getD_eq_getElem?_getD, List.getElem?_set]
 by_cases e : m = n
 ·subst e; simp [h]
 ·rw [if_neg e, if_neg (fun h => e h.symm)]
theorem prod_le (x y : Nat) (hx : x < 256) (hy : y < 256) : x * y ≤ 65025 := by
 have := Nat.mul_le_mul (show x ≤ 255 by omega) (show y ≤ 255 by omega)
 omega
theorem MR.step {a b c i k : Nat} {l : List Nat} (h : MR a b c i k l) (hi : i < 32) (hk : k < 32) : MR a b c i (k + 1) (l.set (i + k) (l.getD (i + k) 0 + vb a i * vb b k)) := by
 have hp := prod_le _ _ (vb_lt a i) (vb_lt b k)
 have hf := h.fresh (i + k) (Nat.le_refl _)
 have hlen : i + k < l.length := by rw [h.len]; omega
 refine ⟨by rw [List.length_set]; exact h.len, fun m => ?_, fun m hm => ?_, ?_⟩
 ·rw [getD_set' _ _ _ _ hlen]
  split
  ·omega
  ·exact h.le m
 ·rw [getD_set' _ _ _ _ hlen, if_neg (by omega)]
  exact h.fresh m (by omega)
 ·rw [v8_add _ _ _ hlen, h.val, mod_vb b k]
  have e : 256 ^ i * (vb a i * (b % 256 ^ k + 256 ^ k * vb b k)) = 256 ^ i * (vb a i * (b % 256 ^ k)) + 256 ^ (i + k) * (vb a i * vb b k) := by
   rw [Nat.mul_add, Nat.mul_add, Nat.pow_add, Nat.mul_left_comm (vb a i) (256 ^ k), Nat.mul_assoc]
  rw [e]; omega
structure MS (a b c i : Nat) (l : List Nat) : Prop where
 len : l.length = 65
 le : ∀ m, l.getD m 0 ≤ i * 65280
 val : v8 l = c % 256 ^ i + a % 256 ^ i * b
theorem MS.start (a b c : Nat) : MS a b c 0 (List.replicate 65 0) := by
 refine ⟨by simp, fun m => ?_, ?_⟩
 ·rw [List.getD_eq_getElem?_getD, List.getElem?_replicate]
  split <;> simp
 ·rw [v8_zeros, Nat.pow_zero, Nat.mod_one, Nat.mod_one, Nat.zero_mul]
theorem MS.add {a b c i : Nat} {l : List Nat} (h : MS a b c i l) (hi : i < 32) : MR a b c i 0 (l.set i (l.getD i 0 + vb c i)) := by
 have hc := vb_lt c i
 have hl := h.le i
 have hlen : i < l.length := by rw [h.len]; omega
 refine ⟨by rw [List.length_set]; exact h.len, fun m => ?_, fun m hm => ?_, ?_⟩
 ·rw [getD_set' _ _ _ _ hlen]
  split
  ·omega
  ·have := h.le m; omega
 ·rw [getD_set' _ _ _ _ hlen]
  split
  ·omega
  ·have := h.le m; omega
 ·rw [v8_add _ _ _ hlen, h.val, mod_vb c i, Nat.pow_zero, Nat.mod_one, Nat.mul_zero, Nat.mul_zero]
  omega
theorem MR.row {a b c i : Nat} {l : List Nat} (h : MR a b c i 32 l) (hb : b < 115792089237316195423570985008687907853269984665640564039457584007913129639936) : MS a b c (i + 1) l := by
 refine ⟨h.len, h.le, ?_⟩
 rw [h.val, mod_vb a i, Nat.mod_eq_of_lt (show b < 256 ^ 32 from hb), Nat.add_mul, Nat.mul_assoc]
 omega
theorem MS.last {a b c : Nat} {l : List Nat} (h : MS a b c 32 l) (ha : a < 115792089237316195423570985008687907853269984665640564039457584007913129639936) (hc : c < 115792089237316195423570985008687907853269984665640564039457584007913129639936) : v8 l = a * b + c := by
 rw [h.val, Nat.mod_eq_of_lt (show a < 256 ^ 32 from ha), Nat.mod_eq_of_lt (show c < 256 ^ 32 from hc), Nat.add_comm]
def cr (l : List Nat) : Nat → Nat
 | 0 => 0
 | i + 1 => (l.getD i 0 + cr l i) / 256
theorem v8_drop (l : List Nat) (i : Nat) (h : i < l.length) : v8 (l.drop i) = l.getD i 0 + 256 * v8 (l.drop (i + 1)) := by
 rw [List.drop_eq_getElem_cons h]
 show l[i] + 256 * v8 (l.drop (i + 1)) = _
 simp [h]
theorem cr_div (l : List Nat) : ∀ i, i ≤ l.length → v8 l / 256 ^ i = v8 (l.drop i) + cr l i
 | 0, _ => by rw [Nat.pow_zero, Nat.div_one]; rfl
 | i + 1, h => by
  have ih := cr_div l i (by omega)
  rw [Nat.pow_succ, ← Nat.div_div_eq_div_mul, ih, v8_drop l i (by omega)]
  show _ = v8 (l.drop (i + 1)) + (l.getD i 0 + cr l i) / 256
  generalize v8 (l.drop (i + 1)) = q
  generalize l.getD i 0 = x
  generalize cr l i = c
  omega
theorem cr_byte (l : List Nat) (i : Nat) (h : i < l.length) : vb (v8 l) i = (l.getD i 0 + cr l i) % 256 := by
 show v8 l / 256 ^ i % 256 = _
 rw [cr_div l i (by omega), v8_drop l i h]
 generalize v8 (l.drop (i + 1)) = q
 generalize l.getD i 0 = x
 generalize cr l i = c
 omega
theorem cr_le {l : List Nat} {B : Nat} (h : ∀ m, l.getD m 0 ≤ B) : ∀ i, cr l i ≤ B
 | 0 => Nat.zero_le _
 | i + 1 => by
  have h1 := cr_le h i
  have h2 := h i
  show (l.getD i 0 + cr l i) / 256 ≤ B
  omega
def cb (v i : Nat) : List Nat := (List.range 32).map fun j => if j < i then vb v j else 0
theorem cb_zero (v : Nat) : cb v 0 = vbl 0 := rfl
theorem cb_len (v i : Nat) : (cb v i).length = 32 := by simp [cb]
theorem cb_all (v : Nat) : cb v 32 = vbl v := by
 unfold cb vbl
 apply List.map_congr_left
 intro j hj
 rw [if_pos (by simpa using hj)]
theorem cb_set (v i : Nat) : (cb v i).set i (vb v i) = cb v (i + 1) := by
 apply List.ext_getElem
 ·simp [cb]
 ·intro j h1 h2
  rw [List.getElem_set]
  simp only [cb, List.getElem_map, List.getElem_range]
  by_cases hij : i = j
  ·subst hij; simp
  ·rw [if_neg hij]
   by_cases hji : j < i
   ·rw [if_pos hji, if_pos (by omega)]
   ·rw [if_neg hji, if_neg (by omega)]
end O
end Dg
end Mt
end Go.Proofs.YtdfghknonbmadaaGreatDoor
namespace Go.Proofs.YtdfghknonbmadaaGreatDoor
namespace Mt
namespace Dg
set_option linter.unusedVariables false
set_option linter.unusedSimpArgs false
set_option maxRecDepth 100000
def bv (l : List Nat) : List (BitVec 64) := l.map (BitVec.ofNat 64)
def bb (l : List Nat) : List (BitVec 8) := l.map (BitVec.ofNat 8)
theorem bv_len (l : List Nat) : (bv l).length = l.length := List.length_map _
theorem bb_len (l : List Nat) : (bb l).length = l.length := List.length_map _
theorem bv_get (l : List Nat) (i : Nat) : (bv l).getD i 0 = BitVec.ofNat 64 (l.getD i 0) := by
 unfold bv
 rw [List.getD_eq_getElem?_getD, List.getD_eq_getElem?_getD, List.getElem?_map]
 cases l[i]? <;> rfl
theorem bb_get (l : List Nat) (i : Nat) : (bb l).getD i 0 = BitVec.ofNat 8 (l.getD i 0) := by
 unfold bb
 rw [List.getD_eq_getElem?_getD, List.getD_eq_getElem?_getD, List.getElem?_map]
 cases l[i]? <;> rfl
theorem bv_set (l : List Nat) (i x : Nat) : (bv l).set i (BitVec.ofNat 64 x) = bv (l.set i x) := by unfold bv; rw [List.map_set]
theorem bb_set (l : List Nat) (i x : Nat) : (bb l).set i (BitVec.ofNat 8 x) = bb (l.set i x) := by unfold bb; rw [List.map_set]
theorem and30 (x : Nat) (h : x < 18446744073709551616) : BitVec.ofNat 64 x &&& BitVec.ofInt 64 1073741823 = BitVec.ofNat 64 (x % 1073741824) := by
 apply BitVec.eq_of_toNat_eq
 rw [BitVec.toNat_and, BitVec.toNat_ofNat, BitVec.toNat_ofNat, show (BitVec.ofInt 64 1073741823).toNat = 2 ^ 30 - 1 from rfl, Nat.and_two_pow_sub_one_eq_mod]
 omega
theorem and15 (x : Nat) (h : x < 18446744073709551616) : BitVec.ofNat 64 x &&& BitVec.ofInt 64 32767 = BitVec.ofNat 64 (x % 32768) := by
 apply BitVec.eq_of_toNat_eq
 rw [BitVec.toNat_and, BitVec.toNat_ofNat, BitVec.toNat_ofNat, show (BitVec.ofInt 64 32767).toNat = 2 ^ 15 - 1 from rfl, Nat.and_two_pow_sub_one_eq_mod]
 omega
theorem shr (x k : Nat) (h : x < 18446744073709551616) : BitVec.ofNat 64 x >>> k = BitVec.ofNat 64 (x / 2 ^ k) := by
 apply BitVec.eq_of_toNat_eq
 rw [BitVec.toNat_ushiftRight, BitVec.toNat_ofNat, BitVec.toNat_ofNat, Nat.shiftRight_eq_div_pow, Nat.mod_eq_of_lt h, Nat.mod_eq_of_lt]
 exact Nat.lt_of_le_of_lt (Nat.div_le_self _ _) h
theorem shr8 (x k : Nat) (h : x < 256) : BitVec.ofNat 8 x >>> k = BitVec.ofNat 8 (x / 2 ^ k) := by
 apply BitVec.eq_of_toNat_eq
 rw [BitVec.toNat_ushiftRight, BitVec.toNat_ofNat, BitVec.toNat_ofNat, Nat.shiftRight_eq_div_pow, Nat.mod_eq_of_lt h, Nat.mod_eq_of_lt]
 exact Nat.lt_of_le_of_lt (Nat.div_le_self _ _) h
theorem addN (x y : Nat) : BitVec.ofNat 64 x + BitVec.ofNat 64 y = BitVec.ofNat 64 (x + y) := (BitVec.ofNat_add x y).symm
theorem mulN (x y : Nat) : BitVec.ofNat 64 x * BitVec.ofNat 64 y = BitVec.ofNat 64 (x * y) := (BitVec.ofNat_mul x y).symm
theorem subN (x y : Nat) (h : y ≤ x) : BitVec.ofNat 64 x - BitVec.ofNat 64 y = BitVec.ofNat 64 (x - y) := by
 rw [← show BitVec.ofNat 64 (x - y) + BitVec.ofNat 64 y = BitVec.ofNat 64 x by rw [addN, Nat.sub_add_cancel h]]
 exact BitVec.add_sub_cancel _ _
theorem toN (x : Nat) (h : x < 18446744073709551616) : (BitVec.ofNat 64 x).toNat = x := by rw [BitVec.toNat_ofNat]; exact Nat.mod_eq_of_lt h
theorem toN8 (x : Nat) (h : x < 256) : (BitVec.ofNat 8 x).toNat = x := by rw [BitVec.toNat_ofNat]; exact Nat.mod_eq_of_lt h
def w9 (l : List (BitVec 64)) : List (BitVec 64) := [l.getD 0 0, l.getD 1 0, l.getD 2 0, l.getD 3 0, l.getD 4 0, l.getD 5 0, l.getD 6 0, l.getD 7 0, l.getD 8 0]
def dg (n : Nat) : List (BitVec 64) := [BitVec.ofNat 64 (dt n 0), BitVec.ofNat 64 (dt n 1), BitVec.ofNat 64 (dt n 2), BitVec.ofNat 64 (dt n 3), BitVec.ofNat 64 (dt n 4), BitVec.ofNat 64 (dt n 5), BitVec.ofNat 64 (dt n 6), BitVec.ofNat 64 (dt n 7), BitVec.ofNat 64 (dt n 8)]
theorem dg_bv (n : Nat) : dg n = bv (dts n) := rfl
theorem w9_dg (n : Nat) : w9 (dg n) = dg n := rfl
def nv (l : List (BitVec 64)) : Nat := vl (l.map (·.toNat))
theorem bv_nv (l : List (BitVec 64)) : bv (l.map (·.toNat)) = l := by
 unfold bv
 rw [List.map_map]
 conv => rhs; rw [← List.map_id l]
 apply List.map_congr_left
 intro x _
 exact BitVec.eq_of_toNat_eq (by rw [Function.comp, BitVec.toNat_ofNat]; exact Nat.mod_eq_of_lt x.isLt)
theorem map_bv {l : List Nat} (h : ∀ x ∈ l, x < 18446744073709551616) : (bv l).map (·.toNat) = l := by
 unfold bv
 rw [List.map_map]
 conv => rhs; rw [← List.map_id l]
 apply List.map_congr_left
 intro x hx
 exact toN x (h x hx)
theorem nv_bv {l : List Nat} (h : ∀ x ∈ l, x < 18446744073709551616) : nv (bv l) = vl l := by unfold nv; rw [map_bv h]
theorem dts_lt (n : Nat) : ∀ x ∈ dts n, x < 1073741824 := fun x hx => by
 obtain ⟨j, _, rfl⟩ := List.mem_map.1 hx
 exact dt_lt n j
theorem nv_dg {n : Nat} (h : n / 2 ^ (30 * 9) = 0) : nv (dg n) = n := by
 rw [dg_bv, nv_bv (fun x hx => Nat.lt_trans (dts_lt n x hx) (by decide)), vl_dts h]
def Qd (l : List (BitVec 64)) : Bool := Nat.beq l.length 9 && l.all (fun x => Nat.blt x.toNat 1073741824)
def Q (l : List (BitVec 64)) : Bool := Qd l && Nat.blt (nv l) Nt.P
theorem Qd_dg (n : Nat) : Qd (dg n) = true := by
 unfold Qd
 rw [show Nat.beq (dg n).length 9 = true from rfl, Bool.true_and, List.all_eq_true]
 intro x hx
 rw [dg_bv] at hx
 obtain ⟨y, hy, rfl⟩ := List.mem_map.1 hx
 have := dts_lt n y hy
 rw [toN y (by omega)]
 exact Nat.ble_eq_true_of_le this
theorem Q_dg {n : Nat} (h : n < Nt.P) : Q (dg n) = true := by
 unfold Q
 rw [nv_dg (big_of (Nat.le_of_lt h)), Qd_dg, show Nat.blt n Nt.P = true from Nat.ble_eq_true_of_le h, Bool.true_and]
theorem vl_divn (l : List Nat) (hl : ∀ x ∈ l, x < 1073741824) : vl l / 2 ^ (30 * l.length) = 0 := by
 have h := vl_lt l hl
 generalize l.length = n at *
 apply Nat.div_eq_of_lt
 rw [Nat.pow_mul]
 exact h
theorem vl_div {l : List Nat} (h1 : l.length = 9) (hl : ∀ x ∈ l, x < 1073741824) : vl l / 2 ^ (30 * 9) = 0 := h1 ▸ vl_divn l hl
theorem of_Qd {l : List (BitVec 64)} (h : Qd l = true) : l = dg (nv l) ∧ nv l / 2 ^ (30 * 9) = 0 := by
 unfold Qd at h
 rw [Bool.and_eq_true] at h
 obtain ⟨h1, h2⟩ := h
 have h1 := Nat.eq_of_beq_eq_true h1
 rw [List.all_eq_true] at h2
 have hl : ∀ x ∈ l.map (·.toNat), x < 1073741824 := fun x hx => by
  obtain ⟨y, hy, rfl⟩ := List.mem_map.1 hx
  exact Nat.le_of_ble_eq_true (h2 y hy)
 have hd : dts (nv l) = l.map (·.toNat) := by
  apply List.ext_getElem
  ·rw [dts_len, List.length_map, h1]
  ·intro j j1 j2
   have e := dt_vl (l.map (·.toNat)) j hl
   have e2 : (l.map (·.toNat)).getD j 0 = (l.map (·.toNat))[j] := by rw [List.getD_eq_getElem?_getD, List.getElem?_eq_getElem j2]; rfl
   rw [e2] at e
   rw [← e]
   simp only [dts, List.getElem_map, List.getElem_range]
   rfl
 refine ⟨by rw [dg_bv, hd, bv_nv], vl_div (by rw [List.length_map, h1]) hl⟩
theorem of_Q {l : List (BitVec 64)} (h : Q l = true) : l = dg (nv l) ∧ nv l < Nt.P := by
 unfold Q at h
 rw [Bool.and_eq_true] at h
 exact ⟨(of_Qd h.1).1, Nat.le_of_ble_eq_true h.2⟩
def okT (t : List (BitVec 64)) : Bool := Nat.beq t.length 19 && (t.all (fun x => Nat.ble x.toNat 18446742974197923840) && Nat.blt (nv t) (bnd 0))
theorem of_okT {t : List (BitVec 64)} (h : okT t = true) : ∃ u : List Nat, t = bv u ∧ vl u = nv t ∧ S1 (nv t) 0 u := by
 unfold okT at h
 rw [Bool.and_eq_true, Bool.and_eq_true] at h
 obtain ⟨h1, h2, h3⟩ := h
 have h1 := Nat.eq_of_beq_eq_true h1
 rw [List.all_eq_true] at h2
 refine ⟨t.map (·.toNat), (bv_nv t).symm, rfl, by rw [List.length_map, h1], fun x hx => ?_, rfl, by rw [Nat.blt_eq] at h3; exact h3⟩
 obtain ⟨y, hy, rfl⟩ := List.mem_map.1 hx
 exact Nat.le_of_ble_eq_true (h2 y hy)
theorem okT_bv {u : List Nat} (h1 : u.length = 19) (h2 : ∀ x ∈ u, x ≤ 18446742974197923840) (h3 : vl u < bnd 0) : okT (bv u) = true ∧ nv (bv u) = vl u := by
 have e := nv_bv (l := u) (fun x hx => by have := h2 x hx; omega)
 refine ⟨?_, e⟩
 unfold okT
 rw [e, bv_len, h1, show Nat.blt (vl u) (bnd 0) = true from Nat.ble_eq_true_of_le h3, show Nat.beq 19 19 = true from rfl, Bool.true_and, Bool.and_true, List.all_eq_true]
 intro x hx
 obtain ⟨y, hy, rfl⟩ := List.mem_map.1 hx
 have := h2 y hy
 rw [toN y (by omega)]
 exact Nat.ble_eq_true_of_le this
end Dg
end Mt
end Go.Proofs.YtdfghknonbmadaaGreatDoor
