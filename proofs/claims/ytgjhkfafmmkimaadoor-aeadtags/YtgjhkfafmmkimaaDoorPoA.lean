/-
  Numbers in digits of twelve bits: carries, modulo 2^130 - 5. No statement is proved here.
-/
import Derived.Test.YtgjhkfafmmkimaaDoorAeB
namespace Go.Proofs.YtgjhkfafmmkimaaDoor
set_option linter.unusedVariables false
set_option linter.unusedSimpArgs false

abbrev Ds := List (BitVec 64)
/-- The number that digits tell. -/
def V : Ds → Nat
  | [] => 0
  | x :: l => x.toNat + 4096 * V l
def PP : Nat := 2 ^ 130 - 5
theorem V_set : ∀ (l : Ds) (i : Nat) (v : BitVec 64), i < l.length → V (l.set i v) + 4096 ^ i * (l.getD i 0).toNat = V l + 4096 ^ i * v.toNat
  | [], i, v, h => absurd h (Nat.not_lt_zero i)
  | x :: l, 0, v, h => by simp [V]; omega
  | x :: l, i + 1, v, h => by
    have ih := V_set l i v (by simpa using h)
    simp only [List.set_cons_succ, V, List.getD_cons_succ, Nat.pow_succ]
    have e1 : 4096 ^ i * 4096 * (l.getD i 0).toNat = 4096 * (4096 ^ i * (l.getD i 0).toNat) := by rw [Nat.mul_comm (4096 ^ i) 4096, Nat.mul_assoc]
    have e2 : 4096 ^ i * 4096 * v.toNat = 4096 * (4096 ^ i * v.toNat) := by rw [Nat.mul_comm (4096 ^ i) 4096, Nat.mul_assoc]
    rw [e1, e2]
    omega
/-- One way through the digits: what was done of them, and what is carried. -/
def ps (l : Ds) : Nat → Ds × BitVec 64
  | 0 => (l, 0)
  | i + 1 => ((ps l i).1.set i (((ps l i).1.getD i 0 + (ps l i).2) &&& 4095), ((ps l i).1.getD i 0 + (ps l i).2) >>> 12)
theorem ps_len (l : Ds) : ∀ i, (ps l i).1.length = l.length
  | 0 => rfl
  | i + 1 => by rw [ps, List.length_set, ps_len l i]
/-- Those ahead are done, those behind stand as they stood. -/
theorem ps_old (l : Ds) (j : Nat) : ∀ i, i ≤ j → (ps l i).1.getD j 0 = l.getD j 0
  | 0, _ => rfl
  | i + 1, h => by
    rw [ps]
    show ((ps l i).1.set i _).getD j 0 = _
    rw [List.getD_eq_getElem?_getD, List.getElem?_set_ne (by omega), ← List.getD_eq_getElem?_getD, ps_old l j i (by omega)]
theorem and4095 (x : BitVec 64) : (x &&& 4095).toNat = x.toNat % 4096 := by
  rw [BitVec.toNat_and]
  exact Nat.and_two_pow_sub_one_eq_mod x.toNat 12
theorem shr12 (x : BitVec 64) : (x >>> 12).toNat = x.toNat / 4096 := by
  rw [BitVec.toNat_ushiftRight, Nat.shiftRight_eq_div_pow]
theorem and1023 (x : BitVec 64) : (x &&& 1023).toNat = x.toNat % 1024 := by
  rw [BitVec.toNat_and]
  exact Nat.and_two_pow_sub_one_eq_mod x.toNat 10
theorem shr10 (x : BitVec 64) : (x >>> 10).toNat = x.toNat / 1024 := by
  rw [BitVec.toNat_ushiftRight, Nat.shiftRight_eq_div_pow]
theorem add_nat {x y : BitVec 64} (h : x.toNat + y.toNat < 2 ^ 64) : (x + y).toNat = x.toNat + y.toNat := by rw [BitVec.toNat_add, Nat.mod_eq_of_lt h]
theorem mul_nat {x y : BitVec 64} (h : x.toNat * y.toNat < 2 ^ 64) : (x * y).toNat = x.toNat * y.toNat := by rw [BitVec.toNat_mul, Nat.mod_eq_of_lt h]
/-- What is carried, as numbers. -/
def cy (l : Ds) : Nat → Nat
  | 0 => 0
  | i + 1 => ((l.getD i 0).toNat + cy l i) / 4096
theorem ps_cy (l : Ds) (hb : ∀ i, (l.getD i 0).toNat < 2 ^ 62) : ∀ i, ((ps l i).2.toNat = cy l i ∧ cy l i < 2 ^ 62)
  | 0 => ⟨rfl, by show 0 < 2 ^ 62; decide⟩
  | i + 1 => by
    obtain ⟨h1, h2⟩ := ps_cy l hb i
    have h3 := hb i
    have e : ((ps l i).1.getD i 0 + (ps l i).2).toNat = (l.getD i 0).toNat + cy l i := by
      rw [ps_old l i i (Nat.le_refl _), add_nat (by rw [h1]; omega), h1]
    refine ⟨?_, ?_⟩
    · show (((ps l i).1.getD i 0 + (ps l i).2) >>> 12).toNat = _
      rw [shr12, e]
      rfl
    · show ((l.getD i 0).toNat + cy l i) / 4096 < _
      omega
theorem ps_digit (l : Ds) (hb : ∀ i, (l.getD i 0).toNat < 2 ^ 62) (i : Nat) (h : i < l.length) : ∀ j, i < j → ((ps l j).1.getD i 0).toNat = ((l.getD i 0).toNat + cy l i) % 4096
  | 0, hj => absurd hj (Nat.not_lt_zero i)
  | j + 1, hj => by
    rcases Nat.lt_or_ge i j with q | q
    · rw [ps]
      show (((ps l j).1.set j _).getD i 0).toNat = _
      rw [List.getD_eq_getElem?_getD, List.getElem?_set_ne (by omega), ← List.getD_eq_getElem?_getD]
      exact ps_digit l hb i h j q
    · obtain rfl : i = j := by omega
      obtain ⟨h1, h2⟩ := ps_cy l hb i
      have h3 := hb i
      rw [ps]
      show (((ps l i).1.set i _).getD i 0).toNat = _
      rw [List.getD_eq_getElem?_getD, List.getElem?_set_self (by rw [ps_len]; exact h)]
      show (((ps l i).1.getD i 0 + (ps l i).2) &&& 4095).toNat = _
      rw [and4095, ps_old l i i (Nat.le_refl _), add_nat (by rw [h1]; omega), h1]
theorem ps_V (l : Ds) (hb : ∀ i, (l.getD i 0).toNat < 2 ^ 62) : ∀ i, i ≤ l.length → V (ps l i).1 + 4096 ^ i * cy l i = V l
  | 0, _ => by simp [ps, cy]
  | i + 1, h => by
    have ih := ps_V l hb i (by omega)
    obtain ⟨h1, h2⟩ := ps_cy l hb i
    have h3 := hb i
    have e : ((ps l i).1.getD i 0 + (ps l i).2).toNat = (l.getD i 0).toNat + cy l i := by
      rw [ps_old l i i (Nat.le_refl _), add_nat (by rw [h1]; omega), h1]
    have hs : V ((ps l i).1.set i (((ps l i).1.getD i 0 + (ps l i).2) &&& 4095)) + 4096 ^ i * (l.getD i 0).toNat = V (ps l i).1 + 4096 ^ i * (((l.getD i 0).toNat + cy l i) % 4096) := by
      have t := V_set (ps l i).1 i (((ps l i).1.getD i 0 + (ps l i).2) &&& 4095) (by rw [ps_len]; omega)
      have t2 : (((ps l i).1.getD i 0 + (ps l i).2) &&& 4095).toNat = ((l.getD i 0).toNat + cy l i) % 4096 := by rw [and4095, e]
      have t3 : ((ps l i).1.getD i 0).toNat = (l.getD i 0).toNat := by rw [ps_old l i i (Nat.le_refl _)]
      rw [t2, t3] at t
      exact t
    show V ((ps l i).1.set i _) + 4096 ^ (i + 1) * (((l.getD i 0).toNat + cy l i) / 4096) = V l
    generalize ((ps l i).1.set i (((ps l i).1.getD i 0 + (ps l i).2) &&& 4095)) = A at hs
    generalize V (ps l i).1 = B at hs ih
    generalize (l.getD i 0).toNat = d at hs h3
    generalize cy l i = c at hs ih h2
    have e2 : 4096 ^ (i + 1) * ((d + c) / 4096) + 4096 ^ i * ((d + c) % 4096) = 4096 ^ i * d + 4096 ^ i * c := by
      rw [Nat.pow_succ, Nat.mul_assoc, ← Nat.mul_add, ← Nat.mul_add]
      congr 1
      omega
    omega
/-- One way, and what is above 2^130 five times at the front. -/
def fold1 (l : Ds) : Ds :=
  let p := (ps l 11).1
  let c := ((ps l 11).2 <<< 2) ||| ((p.getD 10 0) >>> 10)
  let q := p.set 10 (p.getD 10 0 &&& 1023)
  q.set 0 (q.getD 0 0 + 5 * c)
theorem cy_lt (l : Ds) (hb : ∀ i, (l.getD i 0).toNat < 2 ^ 60) : ∀ i, cy l i < 2 ^ 49
  | 0 => by show 0 < 2 ^ 49; decide
  | i + 1 => by
    have h1 := cy_lt l hb i
    have h2 := hb i
    show ((l.getD i 0).toNat + cy l i) / 4096 < 2 ^ 49
    omega
def c2 (l : Ds) : Nat := 4 * cy l 11 + (((l.getD 10 0).toNat + cy l 10) % 4096) / 1024
section
variable {l : Ds}
theorem c2_is (hl : l.length = 11) (hb : ∀ i, (l.getD i 0).toNat < 2 ^ 60) : (((ps l 11).2 <<< 2) ||| (((ps l 11).1.getD 10 0) >>> 10)).toNat = c2 l := by
  have hb2 : ∀ i, (l.getD i 0).toNat < 2 ^ 62 := fun i => Nat.lt_trans (hb i) (by decide)
  have h1 := (ps_cy l hb2 11).1
  have h2 := cy_lt l hb 11
  have h3 := ps_digit l hb2 10 (by omega) 11 (by omega)
  have e1 : ((ps l 11).2 <<< 2).toNat = 2 ^ 2 * cy l 11 := by
    rw [BitVec.toNat_shiftLeft, h1, Nat.shiftLeft_eq, Nat.mod_eq_of_lt (by omega)]
    omega
  have e2 : ((((ps l 11).1.getD 10 0) >>> 10)).toNat = (((l.getD 10 0).toNat + cy l 10) % 4096) / 1024 := by rw [shr10, h3]
  rw [BitVec.toNat_or, e1, e2]
  unfold c2
  exact (Nat.two_pow_add_eq_or_of_lt (i := 2) (by omega) (cy l 11)).symm
theorem fold1_len : (fold1 l).length = l.length := by
  unfold fold1
  simp only [List.length_set, ps_len]
theorem fold1_10 (hl : l.length = 11) (hb : ∀ i, (l.getD i 0).toNat < 2 ^ 60) : ((fold1 l).getD 10 0).toNat = (((l.getD 10 0).toNat + cy l 10) % 4096) % 1024 := by
  have hb2 : ∀ i, (l.getD i 0).toNat < 2 ^ 62 := fun i => Nat.lt_trans (hb i) (by decide)
  have h3 := ps_digit l hb2 10 (by omega) 11 (by omega)
  unfold fold1
  show ((((ps l 11).1.set 10 _).set 0 _).getD 10 0).toNat = _
  rw [List.getD_eq_getElem?_getD, List.getElem?_set_ne (by omega), List.getElem?_set_self (by rw [ps_len]; omega)]
  show ((ps l 11).1.getD 10 0 &&& 1023).toNat = _
  rw [and1023, h3]
theorem fold1_mid (hl : l.length = 11) (hb : ∀ i, (l.getD i 0).toNat < 2 ^ 60) (i : Nat) (h1 : 1 ≤ i) (h2 : i ≤ 9) : ((fold1 l).getD i 0).toNat = ((l.getD i 0).toNat + cy l i) % 4096 := by
  have hb2 : ∀ i, (l.getD i 0).toNat < 2 ^ 62 := fun i => Nat.lt_trans (hb i) (by decide)
  have h3 := ps_digit l hb2 i (by omega) 11 (by omega)
  unfold fold1
  show ((((ps l 11).1.set 10 _).set 0 _).getD i 0).toNat = _
  rw [List.getD_eq_getElem?_getD, List.getElem?_set_ne (by omega), List.getElem?_set_ne (by omega), ← List.getD_eq_getElem?_getD, h3]
theorem q0_is (hl : l.length = 11) (hb : ∀ i, (l.getD i 0).toNat < 2 ^ 60) : (((ps l 11).1.set 10 ((ps l 11).1.getD 10 0 &&& 1023)).getD 0 0).toNat = (l.getD 0 0).toNat % 4096 := by
  have hb2 : ∀ i, (l.getD i 0).toNat < 2 ^ 62 := fun i => Nat.lt_trans (hb i) (by decide)
  have h3 := ps_digit l hb2 0 (by omega) 11 (by omega)
  rw [List.getD_eq_getElem?_getD, List.getElem?_set_ne (by omega), ← List.getD_eq_getElem?_getD, h3]
  show ((l.getD 0 0).toNat + 0) % 4096 = _
  rw [Nat.add_zero]
theorem c2_lt (hb : ∀ i, (l.getD i 0).toNat < 2 ^ 60) : c2 l < 2 ^ 52 := by
  have h2 := cy_lt l hb 11
  unfold c2
  omega
theorem v0_is (hl : l.length = 11) (hb : ∀ i, (l.getD i 0).toNat < 2 ^ 60) : (((ps l 11).1.set 10 ((ps l 11).1.getD 10 0 &&& 1023)).getD 0 0 + 5 * (((ps l 11).2 <<< 2) ||| (((ps l 11).1.getD 10 0) >>> 10))).toNat = (l.getD 0 0).toNat % 4096 + 5 * c2 l := by
  have h1 := c2_is hl hb
  have h2 := c2_lt hb
  have h3 := q0_is hl hb
  have e5 : (5 * (((ps l 11).2 <<< 2) ||| (((ps l 11).1.getD 10 0) >>> 10))).toNat = 5 * c2 l := by
    rw [mul_nat (by rw [h1]; show 5 * c2 l < 2 ^ 64; omega), h1]
    rfl
  rw [add_nat (by rw [h3, e5]; omega), h3, e5]
theorem fold1_0 (hl : l.length = 11) (hb : ∀ i, (l.getD i 0).toNat < 2 ^ 60) : ((fold1 l).getD 0 0).toNat = (l.getD 0 0).toNat % 4096 + 5 * c2 l := by
  unfold fold1
  show ((((ps l 11).1.set 10 _).set 0 _).getD 0 0).toNat = _
  rw [List.getD_eq_getElem?_getD, List.getElem?_set_self (by rw [List.length_set, ps_len]; omega)]
  exact v0_is hl hb
theorem fold1_V (hl : l.length = 11) (hb : ∀ i, (l.getD i 0).toNat < 2 ^ 60) : V (fold1 l) + PP * c2 l = V l := by
  have hb2 : ∀ i, (l.getD i 0).toNat < 2 ^ 62 := fun i => Nat.lt_trans (hb i) (by decide)
  have hV := ps_V l hb2 11 (by omega)
  have h3 := ps_digit l hb2 10 (by omega) 11 (by omega)
  have s1 := V_set (ps l 11).1 10 ((ps l 11).1.getD 10 0 &&& 1023) (by rw [ps_len]; omega)
  have s2 := V_set ((ps l 11).1.set 10 ((ps l 11).1.getD 10 0 &&& 1023)) 0 (((ps l 11).1.set 10 ((ps l 11).1.getD 10 0 &&& 1023)).getD 0 0 + 5 * (((ps l 11).2 <<< 2) ||| (((ps l 11).1.getD 10 0) >>> 10))) (by rw [List.length_set, ps_len]; omega)
  rw [v0_is hl hb, q0_is hl hb] at s2
  have e1 : ((ps l 11).1.getD 10 0 &&& 1023).toNat = (((l.getD 10 0).toNat + cy l 10) % 4096) % 1024 := by rw [and1023, h3]
  rw [e1, h3] at s1
  have ef : fold1 l = ((ps l 11).1.set 10 ((ps l 11).1.getD 10 0 &&& 1023)).set 0 (((ps l 11).1.set 10 ((ps l 11).1.getD 10 0 &&& 1023)).getD 0 0 + 5 * (((ps l 11).2 <<< 2) ||| (((ps l 11).1.getD 10 0) >>> 10))) := rfl
  rw [← ef] at s2
  generalize V (fold1 l) = A at s2
  generalize V ((ps l 11).1.set 10 ((ps l 11).1.getD 10 0 &&& 1023)) = B at s1 s2
  generalize V (ps l 11).1 = C at s1 hV
  have ep : PP = 2 ^ 130 - 5 := rfl
  unfold c2 at s2 ⊢
  rw [ep]
  generalize ((l.getD 10 0).toNat + cy l 10) % 4096 = x at *
  generalize cy l 11 = c at *
  generalize (l.getD 0 0).toNat % 4096 = y at *
  have x1 : x = 1024 * (x / 1024) + x % 1024 := by omega
  omega
end
/-- Digits as they should be, but for the lowest. -/
structure Near (b : Nat) (l : Ds) : Prop where
  len : l.length = 11
  d0 : (l.getD 0 0).toNat ≤ b
  mid : ∀ i, 1 ≤ i → i ≤ 9 → (l.getD i 0).toNat < 4096
  d10 : (l.getD 10 0).toNat < 1024
theorem getD_out {l : Ds} {i : Nat} (h : l.length ≤ i) : (l.getD i 0).toNat = 0 := by
  rw [List.getD_eq_getElem?_getD, List.getElem?_eq_none h]; rfl
theorem Near.all {b : Nat} {l : Ds} (h : Near b l) (hb : b < 2 ^ 60) : ∀ i, (l.getD i 0).toNat < 2 ^ 60 := fun i => by
  rcases Nat.lt_or_ge i 11 with q | q
  · rcases Nat.eq_zero_or_pos i with rfl | q0
    · exact Nat.lt_of_le_of_lt h.d0 hb
    · rcases Nat.lt_or_ge i 10 with q1 | q1
      · exact Nat.lt_trans (h.mid i q0 (by omega)) (by decide)
      · obtain rfl : i = 10 := by omega
        exact Nat.lt_trans h.d10 (by decide)
  · rw [getD_out (by rw [h.len]; exact q)]; decide
theorem near1 {l : Ds} (hl : l.length = 11) (hb : ∀ i, (l.getD i 0).toNat < 2 ^ 60) : Near (2 ^ 55) (fold1 l) := by
  refine ⟨fold1_len.trans hl, ?_, fun i h1 h2 => ?_, ?_⟩
  · rw [fold1_0 hl hb]; have := c2_lt hb; omega
  · rw [fold1_mid hl hb i h1 h2]; omega
  · rw [fold1_10 hl hb]; omega
theorem cy_succ (l : Ds) (i : Nat) : cy l (i + 1) = ((l.getD i 0).toNat + cy l i) / 4096 := rfl
theorem near2 {l : Ds} (h : Near (2 ^ 55) l) : Near 4100 (fold1 l) := by
  have hb := h.all (by decide)
  have hl := h.len
  have q0 := h.d0
  have q1 := h.mid 1 (by omega) (by omega)
  have q2 := h.mid 2 (by omega) (by omega)
  have q3 := h.mid 3 (by omega) (by omega)
  have q4 := h.mid 4 (by omega) (by omega)
  have q5 := h.mid 5 (by omega) (by omega)
  have q6 := h.mid 6 (by omega) (by omega)
  have q7 := h.mid 7 (by omega) (by omega)
  have q8 := h.mid 8 (by omega) (by omega)
  have q9 := h.mid 9 (by omega) (by omega)
  have q10 := h.d10
  have c0 : cy l 0 = 0 := rfl
  have r1 : cy l 1 ≤ 2 ^ 43 := by rw [cy_succ, c0]; omega
  have r2 : cy l 2 ≤ 2 ^ 31 := by rw [cy_succ]; omega
  have r3 : cy l 3 ≤ 2 ^ 19 := by rw [cy_succ]; omega
  have r4 : cy l 4 ≤ 2 ^ 7 := by rw [cy_succ]; omega
  have r5 : cy l 5 ≤ 1 := by rw [cy_succ]; omega
  have r6 : cy l 6 ≤ 1 := by rw [cy_succ]; omega
  have r7 : cy l 7 ≤ 1 := by rw [cy_succ]; omega
  have r8 : cy l 8 ≤ 1 := by rw [cy_succ]; omega
  have r9 : cy l 9 ≤ 1 := by rw [cy_succ]; omega
  have r10 : cy l 10 ≤ 1 := by rw [cy_succ]; omega
  have r11 : cy l 11 = 0 := by rw [cy_succ]; omega
  have rc : c2 l ≤ 1 := by unfold c2; omega
  refine ⟨fold1_len.trans hl, ?_, fun i h1 h2 => ?_, ?_⟩
  · rw [fold1_0 hl hb]; omega
  · rw [fold1_mid hl hb i h1 h2]; omega
  · rw [fold1_10 hl hb]; omega
theorem near3 {l : Ds} (h : Near 4100 l) : Near 4095 (fold1 l) := by
  have hb := h.all (by decide)
  have hl := h.len
  have q0 := h.d0
  have q1 := h.mid 1 (by omega) (by omega)
  have q2 := h.mid 2 (by omega) (by omega)
  have q3 := h.mid 3 (by omega) (by omega)
  have q4 := h.mid 4 (by omega) (by omega)
  have q5 := h.mid 5 (by omega) (by omega)
  have q6 := h.mid 6 (by omega) (by omega)
  have q7 := h.mid 7 (by omega) (by omega)
  have q8 := h.mid 8 (by omega) (by omega)
  have q9 := h.mid 9 (by omega) (by omega)
  have q10 := h.d10
  have c0 : cy l 0 = 0 := rfl
  have r1 : cy l 1 ≤ (l.getD 0 0).toNat / 4096 := by rw [cy_succ, c0]; omega
  have r2 : cy l 2 ≤ cy l 1 := by rw [cy_succ l 1]; omega
  have r3 : cy l 3 ≤ cy l 2 := by rw [cy_succ l 2]; omega
  have r4 : cy l 4 ≤ cy l 3 := by rw [cy_succ l 3]; omega
  have r5 : cy l 5 ≤ cy l 4 := by rw [cy_succ l 4]; omega
  have r6 : cy l 6 ≤ cy l 5 := by rw [cy_succ l 5]; omega
  have r7 : cy l 7 ≤ cy l 6 := by rw [cy_succ l 6]; omega
  have r8 : cy l 8 ≤ cy l 7 := by rw [cy_succ l 7]; omega
  have r9 : cy l 9 ≤ cy l 8 := by rw [cy_succ l 8]; omega
  have r10 : cy l 10 ≤ cy l 9 := by rw [cy_succ l 9]; omega
  have r11 : cy l 11 = 0 := by rw [cy_succ l 10]; omega
  have rc : c2 l ≤ cy l 10 := by unfold c2; omega
  refine ⟨fold1_len.trans hl, ?_, fun i h1 h2 => ?_, ?_⟩
  · rw [fold1_0 hl hb]; omega
  · rw [fold1_mid hl hb i h1 h2]; omega
  · rw [fold1_10 hl hb]; omega
/-- The carries, three times. -/
def folds (l : Ds) : Nat → Ds
  | 0 => l
  | j + 1 => fold1 (folds l j)
def carryD (l : Ds) : Ds := folds l 3
theorem folds_len (l : Ds) (hl : l.length = 11) : ∀ j, (folds l j).length = 11
  | 0 => hl
  | j + 1 => by rw [folds, fold1_len, folds_len l hl j]
theorem carryD_len (l : Ds) (hl : l.length = 11) : (carryD l).length = 11 := folds_len l hl 3
theorem mod_add {a b c p : Nat} (h : a + p * c = b) : a % p = b % p := by rw [← h, Nat.add_mul_mod_self_left]
theorem carryD_ok (l : Ds) (hl : l.length = 11) (hb : ∀ i, (l.getD i 0).toNat < 2 ^ 60) : Near 4095 (carryD l) ∧ V (carryD l) % PP = V l % PP := by
  have n1 := near1 hl hb
  have n2 := near2 n1
  have n3 := near3 n2
  refine ⟨n3, ?_⟩
  show V (fold1 (fold1 (fold1 l))) % PP = _
  rw [mod_add (fold1_V n2.len (n2.all (by decide))), mod_add (fold1_V n1.len (n1.all (by decide))), mod_add (fold1_V hl hb)]
end Go.Proofs.YtgjhkfafmmkimaaDoor
