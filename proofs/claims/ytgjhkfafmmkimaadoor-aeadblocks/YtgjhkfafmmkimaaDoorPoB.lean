/-
  Numbers in digits of twelve bits: products, modulo 2^130 - 5. No statement is proved here.
-/
import Derived.Test.YtgjhkfafmmkimaaDoorPoA
namespace Go.Proofs.YtgjhkfafmmkimaaDoor
set_option linter.unusedVariables false
set_option linter.unusedSimpArgs false

/-- The number that the first digits tell. -/
def Vn (l : Ds) : Nat → Nat
  | 0 => 0
  | i + 1 => Vn l i + (l.getD i 0).toNat * 4096 ^ i
theorem Vn_cons (x : BitVec 64) (l : Ds) : ∀ n, Vn (x :: l) (n + 1) = x.toNat + 4096 * Vn l n
  | 0 => by simp [Vn]
  | n + 1 => by
    rw [Vn, Vn_cons x l n, Vn]
    simp only [List.getD_cons_succ, Nat.pow_succ]
    have e : (l.getD n 0).toNat * (4096 ^ n * 4096) = 4096 * ((l.getD n 0).toNat * 4096 ^ n) := by rw [← Nat.mul_assoc, Nat.mul_comm]
    rw [e]
    omega
theorem V_eq : ∀ l : Ds, V l = Vn l l.length
  | [] => rfl
  | x :: l => by rw [List.length_cons, Vn_cons, V, V_eq l]
def stepT (a b : Ds) (i k : Nat) (n : Ds) : Ds :=
  if 11 ≤ i + k then n.set (i + k - 11) (n.getD (i + k - 11) 0 + 20 * (a.getD i 0 * b.getD k 0)) else n.set (i + k) (n.getD (i + k) 0 + a.getD i 0 * b.getD k 0)
def tin (a b : Ds) (i : Nat) (n : Ds) : Nat → Ds
  | 0 => n
  | k + 1 => stepT a b i k (tin a b i n k)
def tou (a b : Ds) : Nat → Ds
  | 0 => List.replicate 11 0
  | i + 1 => tin a b i (tou a b i) 11
theorem stepT_len (a b : Ds) (i k : Nat) (n : Ds) : (stepT a b i k n).length = n.length := by
  unfold stepT; split <;> exact List.length_set ..
theorem tin_len (a b : Ds) (i : Nat) (n : Ds) : ∀ k, (tin a b i n k).length = n.length
  | 0 => rfl
  | k + 1 => by rw [tin, stepT_len, tin_len a b i n k]
theorem tou_len (a b : Ds) : ∀ i, (tou a b i).length = 11
  | 0 => List.length_replicate ..
  | i + 1 => by rw [tou, tin_len, tou_len a b i]
def Low (l : Ds) : Prop := ∀ i, (l.getD i 0).toNat < 4096
def Sml (B : Nat) (l : Ds) : Prop := ∀ i, (l.getD i 0).toNat ≤ B
theorem set_getD (l : Ds) (i : Nat) (v : BitVec 64) (j : Nat) : ((l.set i v).getD j 0).toNat = (l.getD j 0).toNat ∨ ((l.set i v).getD j 0) = v := by
  by_cases h : i = j
  · subst h
    rcases Nat.lt_or_ge i l.length with q | q
    · right; rw [List.getD_eq_getElem?_getD, List.getElem?_set_self q]; rfl
    · left; rw [List.set_eq_of_length_le q]
  · left; rw [List.getD_eq_getElem?_getD, List.getElem?_set_ne h, ← List.getD_eq_getElem?_getD]
theorem prod_le {a b : Ds} (ha : Low a) (hb : Low b) (i k : Nat) : (a.getD i 0 * b.getD k 0).toNat = (a.getD i 0).toNat * (b.getD k 0).toNat ∧ (a.getD i 0).toNat * (b.getD k 0).toNat ≤ 4095 * 4095 := by
  have h1 := ha i
  have h2 := hb k
  have h3 : (a.getD i 0).toNat * (b.getD k 0).toNat ≤ 4095 * 4095 := Nat.mul_le_mul (by omega) (by omega)
  exact ⟨mul_nat (by omega), h3⟩
theorem stepT_ok {a b : Ds} (ha : Low a) (hb : Low b) (i k : Nat) (hi : i < 11) (hk : k < 11) {n : Ds} (hl : n.length = 11) {B : Nat} (hB : B ≤ 2 ^ 50) (hn : Sml B n) : Sml (B + 2 ^ 29) (stepT a b i k n) ∧ V (stepT a b i k n) % PP = (V n + (a.getD i 0).toNat * (b.getD k 0).toNat * 4096 ^ (i + k)) % PP := by
  obtain ⟨e1, h1⟩ := prod_le ha hb i k
  have h20 : (20 * (a.getD i 0 * b.getD k 0)).toNat = 20 * ((a.getD i 0).toNat * (b.getD k 0).toNat) := by
    rw [mul_nat (by rw [e1]; show 20 * _ < 2 ^ 64; omega), e1]
    rfl
  generalize hx : (a.getD i 0).toNat * (b.getD k 0).toNat = x at *
  unfold stepT
  split
  · rename_i h
    have hj : i + k - 11 < n.length := by omega
    have hv : (n.getD (i + k - 11) 0 + 20 * (a.getD i 0 * b.getD k 0)).toNat = (n.getD (i + k - 11) 0).toNat + 20 * x := by
      have := hn (i + k - 11)
      rw [add_nat (by rw [h20]; omega), h20]
    refine ⟨fun j => ?_, ?_⟩
    · rcases set_getD n (i + k - 11) (n.getD (i + k - 11) 0 + 20 * (a.getD i 0 * b.getD k 0)) j with q | q
      · rw [q]; have := hn j; omega
      · rw [q, hv]; have := hn (i + k - 11); omega
    · have s := V_set n (i + k - 11) (n.getD (i + k - 11) 0 + 20 * (a.getD i 0 * b.getD k 0)) hj
      rw [hv, Nat.mul_add] at s
      have e2 : 4096 ^ (i + k) = 4096 ^ (i + k - 11) * 4096 ^ 11 := by rw [← Nat.pow_add]; congr 1; omega
      have e3 : (4096 : Nat) ^ 11 = 4 * PP + 20 := by decide
      refine mod_add (c := x * 4096 ^ (i + k - 11) * 4) ?_
      rw [e2, e3]
      generalize 4096 ^ (i + k - 11) = q at s
      have e4 : x * (q * (4 * PP + 20)) = PP * (x * q * 4) + q * (20 * x) := by
        rw [Nat.mul_add, Nat.mul_add]
        congr 1
        · rw [Nat.mul_comm PP, Nat.mul_assoc, Nat.mul_assoc]
        · rw [Nat.mul_left_comm, Nat.mul_comm x 20]
      omega
  · rename_i h
    have hj : i + k < n.length := by omega
    have hv : (n.getD (i + k) 0 + a.getD i 0 * b.getD k 0).toNat = (n.getD (i + k) 0).toNat + x := by
      have := hn (i + k)
      rw [add_nat (by rw [e1]; omega), e1]
    refine ⟨fun j => ?_, ?_⟩
    · rcases set_getD n (i + k) (n.getD (i + k) 0 + a.getD i 0 * b.getD k 0) j with q | q
      · rw [q]; have := hn j; omega
      · rw [q, hv]; have := hn (i + k); omega
    · have s := V_set n (i + k) (n.getD (i + k) 0 + a.getD i 0 * b.getD k 0) hj
      rw [hv, Nat.mul_add] at s
      congr 1
      rw [Nat.mul_comm x]
      omega
theorem tin_ok {a b : Ds} (ha : Low a) (hb : Low b) (i : Nat) (hi : i < 11) {n : Ds} (hl : n.length = 11) {B : Nat} (hB : B ≤ 2 ^ 49) (hn : Sml B n) (k : Nat) (hk : k ≤ 11) : Sml (B + k * 2 ^ 29) (tin a b i n k) ∧ V (tin a b i n k) % PP = (V n + (a.getD i 0).toNat * 4096 ^ i * Vn b k) % PP := by
  induction k with
  | zero => exact ⟨by show Sml (B + 0 * 2 ^ 29) n; rw [Nat.zero_mul, Nat.add_zero]; exact hn, by simp [tin, Vn]⟩
  | succ k ih =>
    obtain ⟨h1, h2⟩ := ih (by omega)
    obtain ⟨h3, h4⟩ := stepT_ok ha hb i k hi (by omega) ((tin_len a b i n k).trans hl) (B := B + k * 2 ^ 29) (by omega) h1
    refine ⟨fun j => ?_, ?_⟩
    · have := h3 j
      show ((stepT a b i k (tin a b i n k)).getD j 0).toNat ≤ _
      omega
    · show V (stepT a b i k (tin a b i n k)) % PP = _
      rw [h4, Nat.add_mod, h2, ← Nat.add_mod, Vn, Nat.mul_add, ← Nat.add_assoc]
      congr 2
      rw [Nat.pow_add]
      generalize (a.getD i 0).toNat = p
      generalize (b.getD k 0).toNat = q
      generalize 4096 ^ i = u
      generalize 4096 ^ k = v
      rw [Nat.mul_assoc, Nat.mul_assoc, Nat.mul_left_comm q]
theorem tou_ok {a b : Ds} (ha : Low a) (hb : Low b) (hbl : b.length = 11) (i : Nat) (hi : i ≤ 11) : Sml (i * 2 ^ 33) (tou a b i) ∧ V (tou a b i) % PP = (Vn a i * V b) % PP := by
  induction i with
  | zero =>
    refine ⟨fun j => ?_, ?_⟩
    · show ((List.replicate 11 (0 : BitVec 64)).getD j 0).toNat ≤ _
      rw [List.getD_eq_getElem?_getD, List.getElem?_replicate]
      split <;> simp
    · show V (List.replicate 11 0) % PP = _
      have : V (List.replicate 11 0) = 0 := by decide
      rw [this, Vn, Nat.zero_mul]
  | succ i ih =>
    obtain ⟨h1, h2⟩ := ih (by omega)
    obtain ⟨h3, h4⟩ := tin_ok ha hb i (by omega) (tou_len a b i) (B := i * 2 ^ 33) (by omega) h1 11 (Nat.le_refl _)
    refine ⟨fun j => ?_, ?_⟩
    · have := h3 j
      show ((tin a b i (tou a b i) 11).getD j 0).toNat ≤ _
      omega
    · show V (tin a b i (tou a b i) 11) % PP = _
      have e : Vn b 11 = V b := by rw [V_eq, hbl]
      rw [h4, e, Nat.add_mod, h2, ← Nat.add_mod, Vn, Nat.add_mul]
def timesD (a b : Ds) : Ds := carryD (tou a b 11)
theorem Near.low {l : Ds} (h : Near 4095 l) : Low l := fun i => by
  rcases Nat.lt_or_ge i 11 with q | q
  · rcases Nat.eq_zero_or_pos i with rfl | q0
    · have := h.d0; omega
    · rcases Nat.lt_or_ge i 10 with q1 | q1
      · exact h.mid i q0 (by omega)
      · obtain rfl : i = 10 := by omega
        have := h.d10; omega
  · rw [getD_out (by rw [h.len]; exact q)]; decide
theorem timesD_ok {a b : Ds} (ha : Low a) (hb : Low b) (hal : a.length = 11) (hbl : b.length = 11) : Near 4095 (timesD a b) ∧ V (timesD a b) % PP = (V a * V b) % PP := by
  obtain ⟨h1, h2⟩ := tou_ok ha hb hbl 11 (Nat.le_refl _)
  obtain ⟨h3, h4⟩ := carryD_ok (tou a b 11) (tou_len a b 11) (fun i => by have := h1 i; omega)
  refine ⟨h3, ?_⟩
  have e : Vn a 11 = V a := by rw [V_eq, hal]
  unfold timesD
  rw [h4, h2, e]
end Go.Proofs.YtgjhkfafmmkimaaDoor
namespace Go.Proofs.YtgjhkfafmmkimaaDoor
set_option linter.unusedVariables false
set_option linter.unusedSimpArgs false

abbrev Tb := List (BitVec 8)
/-- The number of a text, the lowest byte first. -/
def numS : Tb → Nat
  | [] => 0
  | x :: l => x.toNat + 256 * numS l
theorem bit_low {x y : Nat} (j : Nat) (hj : j < 8) : (x + 256 * y) / 2 ^ j % 2 = x / 2 ^ j % 2 := by
  have e : 256 * y = 2 ^ j * (2 ^ (8 - j) * y) := by
    rw [← Nat.mul_assoc, ← Nat.pow_add, show j + (8 - j) = 8 by omega]
  rw [e, Nat.add_mul_div_left _ _ (Nat.two_pow_pos j)]
  have e2 : 2 ^ (8 - j) * y = 2 * (2 ^ (7 - j) * y) := by
    rw [← Nat.mul_assoc, ← Nat.pow_succ', show (7 - j).succ = 8 - j by omega]
  rw [e2, Nat.add_mul_mod_self_left]
theorem numS_bit : ∀ (s : Tb) (j : Nat), numS s / 2 ^ j % 2 = (s.getD (j / 8) 0).toNat / 2 ^ (j % 8) % 2
  | [], j => by simp [numS]
  | x :: l, j => by
    rcases Nat.lt_or_ge j 8 with q | q
    · rw [show j / 8 = 0 by omega, show j % 8 = j by omega, numS, bit_low j q]; rfl
    · have ih := numS_bit l (j - 8)
      have hx : x.toNat < 256 := x.isLt
      have e : 2 ^ j = 256 * 2 ^ (j - 8) := by rw [show (256 : Nat) = 2 ^ 8 from rfl, ← Nat.pow_add]; congr 1; omega
      rw [numS, e, ← Nat.div_div_eq_div_mul, Nat.add_mul_div_left _ _ (by decide), Nat.div_eq_of_lt hx, Nat.zero_add, ih, show j / 8 = (j - 8) / 8 + 1 by omega, show (j - 8) % 8 = j % 8 by omega]
      rfl
theorem bit_lowV {x y : Nat} (j : Nat) (hj : j < 12) : (x + 4096 * y) / 2 ^ j % 2 = x / 2 ^ j % 2 := by
  have e : 4096 * y = 2 ^ j * (2 ^ (12 - j) * y) := by
    rw [← Nat.mul_assoc, ← Nat.pow_add, show j + (12 - j) = 12 by omega]
  rw [e, Nat.add_mul_div_left _ _ (Nat.two_pow_pos j)]
  have e2 : 2 ^ (12 - j) * y = 2 * (2 ^ (11 - j) * y) := by
    rw [← Nat.mul_assoc, ← Nat.pow_succ', show (11 - j).succ = 12 - j by omega]
  rw [e2, Nat.add_mul_mod_self_left]
theorem V_bit : ∀ (l : Ds), Low l → ∀ j : Nat, V l / 2 ^ j % 2 = (l.getD (j / 12) 0).toNat / 2 ^ (j % 12) % 2
  | [], _, j => by simp [V]
  | x :: l, h, j => by
    have hl : Low l := fun i => h (i + 1)
    rcases Nat.lt_or_ge j 12 with q | q
    · rw [show j / 12 = 0 by omega, show j % 12 = j by omega, V, bit_lowV j q]; rfl
    · have ih := V_bit l hl (j - 12)
      have hx : x.toNat < 4096 := h 0
      have e : 2 ^ j = 4096 * 2 ^ (j - 12) := by rw [show (4096 : Nat) = 2 ^ 12 from rfl, ← Nat.pow_add]; congr 1; omega
      rw [V, e, ← Nat.div_div_eq_div_mul, Nat.add_mul_div_left _ _ (by decide), Nat.div_eq_of_lt hx, Nat.zero_add, ih, show j / 12 = (j - 12) / 12 + 1 by omega, show (j - 12) % 12 = j % 12 by omega]
      rfl
/-- Bit by bit. -/
def rdN (s : Tb) : Nat → Ds
  | 0 => List.replicate 11 0
  | j + 1 => (rdN s j).set (j / 12) ((rdN s j).getD (j / 12) 0 ||| (((s.getD (j / 8) 0 >>> (j % 8)) &&& 1).setWidth 64 <<< (j % 12)))
theorem rdN_len (s : Tb) : ∀ j, (rdN s j).length = 11
  | 0 => List.length_replicate ..
  | j + 1 => by rw [rdN, List.length_set, rdN_len s j]
theorem bit_is (x : BitVec 8) (r q : Nat) (hr : r < 12) : ((((x >>> q) &&& 1).setWidth 64 : BitVec 64) <<< r).toNat = (x.toNat / 2 ^ q % 2) * 2 ^ r := by
  have e1 : ((x >>> q) &&& 1).toNat = x.toNat / 2 ^ q % 2 := by
    rw [BitVec.toNat_and, BitVec.toNat_ushiftRight, Nat.shiftRight_eq_div_pow]
    exact Nat.and_two_pow_sub_one_eq_mod _ 1
  have e2 : (((x >>> q) &&& 1).setWidth 64 : BitVec 64).toNat = x.toNat / 2 ^ q % 2 := by
    rw [BitVec.toNat_setWidth, e1, Nat.mod_eq_of_lt (by omega)]
  rw [BitVec.toNat_shiftLeft, e2, Nat.shiftLeft_eq, Nat.mod_eq_of_lt]
  have h1 : x.toNat / 2 ^ q % 2 < 2 := by omega
  have h2 : 2 ^ r ≤ 2 ^ 11 := Nat.pow_le_pow_right (by decide) (by omega)
  have h3 : x.toNat / 2 ^ q % 2 * 2 ^ r ≤ 1 * 2 ^ 11 := Nat.mul_le_mul (by omega) h2
  omega
structure RdI (s : Tb) (j : Nat) : Prop where
  v : V (rdN s j) = numS s % 2 ^ j
  low : Low (rdN s j)
  now : ((rdN s j).getD (j / 12) 0).toNat < 2 ^ (j % 12)
  high : ∀ d, j < 12 * d → ((rdN s j).getD d 0).toNat = 0
theorem rd0 (s : Tb) (d : Nat) : ((rdN s 0).getD d 0).toNat = 0 := by
  show ((List.replicate 11 (0 : BitVec 64)).getD d 0).toNat = 0
  rw [List.getD_eq_getElem?_getD, List.getElem?_replicate]
  split <;> rfl
theorem rdI (s : Tb) (j : Nat) (hj : j ≤ 132) : RdI s j := by
  induction j with
  | zero =>
    refine ⟨?_, fun d => by rw [rd0]; decide, by rw [rd0]; decide, fun d _ => rd0 s d⟩
    rw [Nat.pow_zero, Nat.mod_one]
    show V (List.replicate 11 0) = 0
    decide
  | succ j ih =>
    obtain ⟨h1, h2, h3, h4⟩ := ih (by omega)
    have hd : j / 12 < (rdN s j).length := by rw [rdN_len]; omega
    have hr : j % 12 < 12 := by omega
    have hb := bit_is (s.getD (j / 8) 0) (j % 12) (j % 8) hr
    rw [← numS_bit] at hb
    have hor : ((rdN s j).getD (j / 12) 0 ||| (((s.getD (j / 8) 0 >>> (j % 8)) &&& 1).setWidth 64 <<< (j % 12))).toNat = ((rdN s j).getD (j / 12) 0).toNat + 2 ^ (j % 12) * (numS s / 2 ^ j % 2) := by
      rw [BitVec.toNat_or, hb, Nat.or_comm, Nat.mul_comm (numS s / 2 ^ j % 2), ← Nat.two_pow_add_eq_or_of_lt h3, Nat.add_comm]
    have hlt : ((rdN s j).getD (j / 12) 0).toNat + 2 ^ (j % 12) * (numS s / 2 ^ j % 2) < 2 ^ (j % 12 + 1) := by
      have : 2 ^ (j % 12) * (numS s / 2 ^ j % 2) ≤ 2 ^ (j % 12) * 1 := Nat.mul_le_mul_left _ (by omega)
      rw [Nat.pow_succ]; omega
    have h12 : 2 ^ (j % 12 + 1) ≤ 4096 := by
      have : 2 ^ (j % 12 + 1) ≤ 2 ^ 12 := Nat.pow_le_pow_right (by decide) (by omega)
      exact this
    have at1 : ∀ d, ((rdN s (j + 1)).getD d 0).toNat = if d = j / 12 then ((rdN s j).getD (j / 12) 0).toNat + 2 ^ (j % 12) * (numS s / 2 ^ j % 2) else ((rdN s j).getD d 0).toNat := fun d => by
      rw [rdN]
      split
      · rename_i e
        subst e
        rw [List.getD_eq_getElem?_getD, List.getElem?_set_self hd]
        exact hor
      · rename_i e
        rw [List.getD_eq_getElem?_getD, List.getElem?_set_ne (fun q => e q.symm), ← List.getD_eq_getElem?_getD]
    refine ⟨?_, fun d => ?_, ?_, fun d hd2 => ?_⟩
    · have s1 := V_set (rdN s j) (j / 12) ((rdN s j).getD (j / 12) 0 ||| (((s.getD (j / 8) 0 >>> (j % 8)) &&& 1).setWidth 64 <<< (j % 12))) hd
      rw [hor, Nat.mul_add, ← Nat.mul_assoc] at s1
      have e : 4096 ^ (j / 12) * 2 ^ (j % 12) = 2 ^ j := by
        rw [show (4096 : Nat) = 2 ^ 12 from rfl, ← Nat.pow_mul, ← Nat.pow_add]; congr 1; omega
      rw [e] at s1
      have e2 : V (rdN s (j + 1)) = numS s % 2 ^ j + 2 ^ j * (numS s / 2 ^ j % 2) := by
        rw [← h1]
        show V ((rdN s j).set (j / 12) _) = _
        omega
      rw [e2, Nat.pow_succ, Nat.mod_mul]
    · rw [at1]
      split
      · omega
      · exact h2 d
    · rw [at1]
      split
      · rename_i e
        rw [show (j + 1) % 12 = j % 12 + 1 by omega]
        exact hlt
      · rename_i e
        rw [h4 ((j + 1) / 12) (by omega)]
        exact Nat.two_pow_pos _
    · rw [at1, if_neg (by omega)]
      exact h4 d (by omega)
/-- A pass over a + 5, and the prime taken away, if that is to be. -/
def bel (a : Ds) : Ds :=
  let b := a.set 0 (a.getD 0 0 + 5)
  let p := (ps b 11).1
  if 1023 < ((p.getD 10 0).toNat) then p.set 10 (p.getD 10 0 &&& 1023) else a
theorem Near.V_lt {l : Ds} (h : Near 4095 l) : V l < 2 ^ 130 := by
  have hv : V l = Vn l 11 := by rw [V_eq, h.len]
  have h0 := h.d0
  have q1 := h.mid 1 (by omega) (by omega)
  have q2 := h.mid 2 (by omega) (by omega)
  have q3 := h.mid 3 (by omega) (by omega)
  have q4 := h.mid 4 (by omega) (by omega)
  have q5 := h.mid 5 (by omega) (by omega)
  have q6 := h.mid 6 (by omega) (by omega)
  have q7 := h.mid 7 (by omega) (by omega)
  have q8 := h.mid 8 (by omega) (by omega)
  have q9 := h.mid 9 (by omega) (by omega)
  have q10 := h.d10
  rw [hv]
  simp only [Vn]
  omega
theorem bel_ok {a : Ds} (h : Near 4095 a) : Near 4095 (bel a) ∧ V (bel a) = V a % PP ∧ (ps (a.set 0 (a.getD 0 0 + 5)) 11).2.toNat = 0 := by
  have hl := h.len
  have h0 := h.d0
  have hadd : (a.getD 0 0 + 5).toNat = (a.getD 0 0).toNat + 5 := by
    rw [add_nat (by show _ + 5 < 2 ^ 64; omega)]; rfl
  have bn : Near 4100 (a.set 0 (a.getD 0 0 + 5)) := by
    refine ⟨(List.length_set ..).trans hl, ?_, fun i q1 q2 => ?_, ?_⟩
    · rw [List.getD_eq_getElem?_getD, List.getElem?_set_self (by omega)]
      show (a.getD 0 0 + 5).toNat ≤ 4100
      omega
    · rw [List.getD_eq_getElem?_getD, List.getElem?_set_ne (by omega), ← List.getD_eq_getElem?_getD]; exact h.mid i q1 q2
    · rw [List.getD_eq_getElem?_getD, List.getElem?_set_ne (by omega), ← List.getD_eq_getElem?_getD]; exact h.d10
  have bV : V (a.set 0 (a.getD 0 0 + 5)) = V a + 5 := by
    have := V_set a 0 (a.getD 0 0 + 5) (by omega)
    rw [hadd] at this
    omega
  unfold bel
  generalize hbb : a.set 0 (a.getD 0 0 + 5) = b at bn bV
  have hb := bn.all (by decide)
  have hb2 : ∀ i, (b.getD i 0).toNat < 2 ^ 62 := fun i => Nat.lt_trans (hb i) (by decide)
  have q0 := bn.d0
  have q1 := bn.mid 1 (by omega) (by omega)
  have q2 := bn.mid 2 (by omega) (by omega)
  have q3 := bn.mid 3 (by omega) (by omega)
  have q4 := bn.mid 4 (by omega) (by omega)
  have q5 := bn.mid 5 (by omega) (by omega)
  have q6 := bn.mid 6 (by omega) (by omega)
  have q7 := bn.mid 7 (by omega) (by omega)
  have q8 := bn.mid 8 (by omega) (by omega)
  have q9 := bn.mid 9 (by omega) (by omega)
  have q10 := bn.d10
  have c0 : cy b 0 = 0 := rfl
  have r1 : cy b 1 ≤ 1 := by rw [cy_succ, c0]; omega
  have r2 : cy b 2 ≤ 1 := by rw [cy_succ b 1]; omega
  have r3 : cy b 3 ≤ 1 := by rw [cy_succ b 2]; omega
  have r4 : cy b 4 ≤ 1 := by rw [cy_succ b 3]; omega
  have r5 : cy b 5 ≤ 1 := by rw [cy_succ b 4]; omega
  have r6 : cy b 6 ≤ 1 := by rw [cy_succ b 5]; omega
  have r7 : cy b 7 ≤ 1 := by rw [cy_succ b 6]; omega
  have r8 : cy b 8 ≤ 1 := by rw [cy_succ b 7]; omega
  have r9 : cy b 9 ≤ 1 := by rw [cy_succ b 8]; omega
  have r10 : cy b 10 ≤ 1 := by rw [cy_succ b 9]; omega
  have r11 : cy b 11 = 0 := by rw [cy_succ b 10]; omega
  have pV := ps_V b hb2 11 (by rw [bn.len]; exact Nat.le_refl _)
  rw [r11, Nat.mul_zero, Nat.add_zero, bV] at pV
  have d10 := ps_digit b hb2 10 (by rw [bn.len]; omega) 11 (by omega)
  have plen : (ps b 11).1.length = 11 := (ps_len b 11).trans bn.len
  have pmid : ∀ i, i ≤ 9 → ((ps b 11).1.getD i 0).toNat < 4096 := fun i hi => by
    rw [ps_digit b hb2 i (by rw [bn.len]; omega) 11 (by omega)]; omega
  have aV := h.V_lt
  have eP : PP = 2 ^ 130 - 5 := rfl
  refine ⟨?_, ?_, by rw [(ps_cy b hb2 11).1, r11]⟩
  · show Near 4095 (if 1023 < ((ps b 11).1.getD 10 0).toNat then (ps b 11).1.set 10 ((ps b 11).1.getD 10 0 &&& 1023) else a)
    split
    · refine ⟨(List.length_set ..).trans plen, ?_, fun i p1 p2 => ?_, ?_⟩
      · rw [List.getD_eq_getElem?_getD, List.getElem?_set_ne (by omega), ← List.getD_eq_getElem?_getD]
        have := pmid 0 (by omega); omega
      · rw [List.getD_eq_getElem?_getD, List.getElem?_set_ne (by omega), ← List.getD_eq_getElem?_getD]; exact pmid i p2
      · rw [List.getD_eq_getElem?_getD, List.getElem?_set_self (by omega)]
        show ((ps b 11).1.getD 10 0 &&& 1023).toNat < 1024
        rw [and1023]; omega
    · exact h
  · show V (if 1023 < ((ps b 11).1.getD 10 0).toNat then (ps b 11).1.set 10 ((ps b 11).1.getD 10 0 &&& 1023) else a) = _
    have hx : ((ps b 11).1.getD 10 0).toNat ≤ 1024 := by rw [d10]; omega
    split
    · rename_i hq
      have s1 := V_set (ps b 11).1 10 ((ps b 11).1.getD 10 0 &&& 1023) (by omega)
      rw [and1023, show ((ps b 11).1.getD 10 0).toNat = 1024 by omega, pV] at s1
      have : V a % PP = V a - PP := by
        rw [Nat.mod_eq_sub_mod (by rw [eP]; omega), Nat.mod_eq_of_lt (by rw [eP]; omega)]
      rw [this, eP]
      omega
    · rename_i hq
      have plow : Near 4095 (ps b 11).1 := ⟨plen, by have := pmid 0 (by omega); omega, fun i p1 p2 => pmid i p2, by omega⟩
      have := plow.V_lt
      rw [pV] at this
      rw [Nat.mod_eq_of_lt (by rw [eP]; omega)]
/-- The bits of a byte of a number. -/
def xb (A i : Nat) : Nat → Nat
  | 0 => 0
  | k + 1 => xb A i k + (A / 2 ^ (8 * i + k) % 2) * 2 ^ k
theorem xb_is (A i : Nat) (k : Nat) : xb A i k = A / 2 ^ (8 * i) % 2 ^ k := by
  induction k with
  | zero => rw [Nat.pow_zero, Nat.mod_one]; rfl
  | succ k ih => rw [xb, ih, Nat.pow_succ, Nat.mod_mul, Nat.div_div_eq_div_mul, ← Nat.pow_add, Nat.mul_comm (2 ^ k)]
/-- A sum of two numbers, byte by byte: what is carried. -/
def sc (A S : Nat) (i : Nat) : Nat := (A % 256 ^ i + S % 256 ^ i) / 256 ^ i
theorem sc_succ (A S i : Nat) : (sc A S i + S / 256 ^ i % 256 + A / 256 ^ i % 256) / 256 = sc A S (i + 1) := by
  unfold sc
  have hu : 0 < 256 ^ i := Nat.pow_pos (by decide)
  rw [Nat.pow_succ, Nat.mod_mul, Nat.mod_mul, ← Nat.div_div_eq_div_mul]
  generalize 256 ^ i = u at hu
  congr 1
  have e : A % u + u * (A / u % 256) + (S % u + u * (S / u % 256)) = (A % u + S % u) + u * (A / u % 256 + S / u % 256) := by rw [Nat.mul_add]; omega
  rw [e, Nat.add_mul_div_left _ _ hu]
  omega
theorem sc_byte (A S i : Nat) : (sc A S i + S / 256 ^ i % 256 + A / 256 ^ i % 256) % 256 = (A + S) / 256 ^ i % 256 := by
  unfold sc
  have hu : 0 < 256 ^ i := Nat.pow_pos (by decide)
  generalize 256 ^ i = u at hu
  have e : A + S = (A % u + S % u) + u * (A / u + S / u) := by
    have h1 := Nat.mod_add_div A u
    have h2 := Nat.mod_add_div S u
    rw [Nat.mul_add]; omega
  have e2 : (A + S) / u = (A % u + S % u) / u + (A / u + S / u) := by
    conv => lhs; rw [e]
    rw [Nat.add_mul_div_left _ _ hu]
  rw [e2]
  omega
theorem sc_zero (A S : Nat) : sc A S 0 = 0 := by unfold sc; simp [Nat.mod_one]
theorem numS_byte : ∀ (s : Tb) (i : Nat), numS s / 256 ^ i % 256 = (s.getD i 0).toNat
  | [], i => by simp [numS]
  | x :: l, 0 => by have := x.isLt; simp [numS]; omega
  | x :: l, i + 1 => by
    have hx : x.toNat < 256 := x.isLt
    rw [numS, Nat.pow_succ', ← Nat.div_div_eq_div_mul, Nat.add_mul_div_left _ _ (by decide), Nat.div_eq_of_lt hx, Nat.zero_add, numS_byte l i]
    rfl
end Go.Proofs.YtgjhkfafmmkimaaDoor
