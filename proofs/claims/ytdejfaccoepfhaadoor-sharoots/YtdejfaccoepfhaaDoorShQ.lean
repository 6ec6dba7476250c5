/-
  sha: what the document's products are: carries. No statement is proved here.
-/
import Derived.Test.YtdejfaccoepfhaaDoorShP
namespace Go.Proofs.YtdejfaccoepfhaaDoor
open Go.RowKit
set_option linter.unusedVariables false
set_option linter.unusedSimpArgs false
set_option maxRecDepth 100000

theorem mask24 (x : BitVec 64) : (x &&& BitVec.ofInt 64 16777215).toNat = x.toNat % 16777216 := by
  rw [BitVec.toNat_and, show (BitVec.ofInt 64 16777215).toNat = 2 ^ 24 - 1 from rfl, Nat.and_two_pow_sub_one_eq_mod]
theorem shr24 (x : BitVec 64) : (x >>> 24).toNat = x.toNat / 16777216 := by
  rw [BitVec.toNat_ushiftRight, Nat.shiftRight_eq_div_pow]
structure CarOk (c : List (BitVec 64)) (N j : Nat) : Prop where
  low : ∀ k, k < j → ((car c j).1.getD k 0).toNat < 16777216
  high : ∀ k, j ≤ k → (car c j).1.getD k 0 = c.getD k 0
  k : (car c j).2.toNat ≤ 1000000000
  v : V (car c j).1 N + (car c j).2.toNat * 2 ^ (24 * j) = V c N
theorem car_ok (c : List (BitVec 64)) (N : Nat) (hc : c.length = N) (hs : ∀ k, k < N → (c.getD k 0).toNat ≤ 4000000000000000) : ∀ j, j ≤ N → CarOk c N j
  | 0, _ => ⟨fun k h => absurd h (by omega), fun k _ => rfl, by show (0 : BitVec 64).toNat ≤ _; decide, by show V c N + (0 : BitVec 64).toNat * _ = _; rw [show (0 : BitVec 64).toNat = 0 from rfl, Nat.zero_mul, Nat.add_zero]⟩
  | j + 1, h => by
    have ih := car_ok c N hc hs j (by omega)
    have hl : j < (car c j).1.length := by rw [car_len, hc]; omega
    have hsum : ((car c j).1.getD j 0 + (car c j).2).toNat = ((car c j).1.getD j 0).toNat + (car c j).2.toNat := by
      have h1 := ih.k
      have h2 := hs j (by omega)
      rw [ih.high j (Nat.le_refl _), BitVec.toNat_add]
      omega
    have hsm : ((car c j).1.getD j 0).toNat ≤ 4000000000000000 := by rw [ih.high j (Nat.le_refl _)]; exact hs j (by omega)
    have hk := ih.k
    have hset := V_set (car c j).1 j ((car c j).1.getD j 0 + (car c j).2 &&& BitVec.ofInt 64 16777215) hl N (by omega)
    have hv := ih.v
    refine ⟨fun k hk => ?_, fun k hk => ?_, ?_, ?_⟩
    · show (((car c j).1.set j _).getD k 0).toNat < _
      rw [getD_set]
      split
      · rw [mask24]; exact Nat.mod_lt _ (by decide)
      · exact ih.low k (by omega)
    · show ((car c j).1.set j _).getD k 0 = _
      rw [getD_set, if_neg (by omega)]
      exact ih.high k (by omega)
    · show (((car c j).1.getD j 0 + (car c j).2) >>> 24).toNat ≤ _
      rw [shr24, hsum]
      omega
    · show V ((car c j).1.set j _) N + (((car c j).1.getD j 0 + (car c j).2) >>> 24).toNat * 2 ^ (24 * (j + 1)) = _
      rw [shr24, hsum, Nat.mul_add 24, Nat.pow_add]
      rw [mask24, hsum] at hset
      generalize V ((car c j).1.set j ((car c j).1.getD j 0 + (car c j).2 &&& BitVec.ofInt 64 16777215)) N = X at *
      generalize ((car c j).1.getD j 0).toNat = d at *
      generalize (car c j).2.toNat = k at *
      generalize V (car c j).1 N = Y at *
      generalize V c N = Z at *
      have e : (d + k) / 16777216 * (2 ^ (24 * j) * 2 ^ (24 * 1)) = (d + k) / 16777216 * 16777216 * 2 ^ (24 * j) := by
        rw [show (2 : Nat) ^ (24 * 1) = 16777216 from rfl, Nat.mul_comm (2 ^ (24 * j)) 16777216, Nat.mul_assoc]
      rw [e]
      have e2 : (d + k) % 16777216 * 2 ^ (24 * j) + (d + k) / 16777216 * 16777216 * 2 ^ (24 * j) = d * 2 ^ (24 * j) + k * 2 ^ (24 * j) := by
        rw [← Nat.add_mul, ← Nat.add_mul]
        congr 1
        have := Nat.mod_add_div (d + k) 16777216
        omega
      omega
theorem tms_V (a b : List (BitVec 64)) (ha : Dg a) (hb : Dg b) (h : V a 14 * V b 14 < 2 ^ (24 * 14)) : V (tms a b) 14 = V a 14 * V b 14 ∧ Dg (tms a b) := by
  obtain ⟨q, hq⟩ := W_split a b 14 14 (Nat.le_refl _)
  have ho := out_V a b ha hb 14 (Nat.le_refl _)
  have hc := car_ok (out a b 14) 14 (out_len a b 14) (fun k hk => Nat.le_trans (out_le a b ha hb k hk 14 (Nat.le_refl _)) (by decide)) 14 (Nat.le_refl _)
  have hv := hc.v
  refine ⟨?_, fun k => ?_⟩
  · show V (car (out a b 14) 14).1 14 = _
    generalize V (car (out a b 14) 14).1 14 = X at *
    generalize V a 14 * V b 14 = Y at *
    generalize W a b 14 14 = Z at *
    generalize V (out a b 14) 14 = U at *
    generalize (car (out a b 14) 14).2.toNat = k at *
    generalize 2 ^ (24 * 14) = P at *
    have hq0 : q = 0 := by
      rcases Nat.eq_zero_or_pos q with e | e
      · exact e
      · have := Nat.le_mul_of_pos_right P e; omega
    subst hq0
    have hk0 : k = 0 := by
      rcases Nat.eq_zero_or_pos k with e | e
      · exact e
      · have := Nat.le_mul_of_pos_left P e; omega
    subst hk0
    omega
  · rcases Nat.lt_or_ge k 14 with q | q
    · exact hc.low k q
    · show ((car (out a b 14) 14).1.getD k 0).toNat < _
      rw [List.getD_eq_getElem?_getD, List.getElem?_eq_none (by rw [car_len, out_len]; exact q)]
      decide
end Go.Proofs.YtdejfaccoepfhaaDoor
