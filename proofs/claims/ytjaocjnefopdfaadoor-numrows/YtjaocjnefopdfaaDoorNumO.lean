/-
  Package num: roots, and the numbers that the statements ask of by name. No statement is proved here.
-/
import Derived.Test.YtjaocjnefopdfaaDoorNumN
namespace Go.Proofs.YtjaocjnefopdfaaDoor
open Go.RowKit Go.Lib Go.BigFrame
set_option linter.unusedVariables false
set_option linter.unusedSimpArgs false
set_option maxRecDepth 1000000
set_option maxHeartbeats 4000000

theorem c1_pm (a : Nat) : Nt.c1 a = Nt.pm Nt.P 255 a (Nt.K + 1) := (Nt.pm_eq Nt.P 255 a _ (by rw [Nt.K_val]; decide +kernel)).symm
theorem c1_four (f : Nat) (hf : f = 4) : Nt.c1 f = 39362322753415011913614158609977084030892133031847780325488042146247659569504 := by
  rw [c1_pm, hf, Nt.P_val, Nt.K_val]; decide +kernel
theorem c1_two (t : Nat) (ht : t = 2) : Nt.c1 t = 19681161376707505956807079304988542015446066515923890162744021073123829784753 := by
  rw [c1_pm, ht, Nt.P_val, Nt.K_val]; decide +kernel
theorem rt_of {a c p i r : Nat} (h1 : Nt.c1 a = c) (h2 : Nt.P = p) (h3 : Nt.I = i) (h : (if c * c % p = a then c else c * i % p) = r) : Nt.rt a = r := by
  unfold Nt.rt
  rw [h1, h2, h3]; exact h
theorem rt_four (f : Nat) (hf : f = 4) : Nt.rt f = 57896044618658097711785492504343953926634992332820282019728792003956564819947 := rt_of (c1_four f hf) Nt.P_val Nt.I_val (by rw [hf]; decide +kernel)
theorem rt_two (t : Nat) (ht : t = 2) : Nt.rt t = 19681161376707505956807079304988542015446066515923890162744021073123829784751 := rt_of (c1_two t ht) Nt.P_val Nt.I_val (by rw [ht]; decide +kernel)
theorem rs_of {a p r s : Nat} {odd : Bool} (h1 : Nt.rt a = r) (h2 : Nt.P = p) (h : (bif (decide (r % 2 = 1) != odd) then (0 + p - r) % p else r) = s) : rs a odd = s := by
  unfold rs
  rw [h1, h2]; exact h
theorem ok_of {a p s : Nat} {odd b : Bool} (h1 : rs a odd = s) (h2 : Nt.P = p) (h : (decide (s * s % p = a) && !(decide (s % 2 = 1) != odd)) = b) : ok a odd = b := by
  unfold ok
  rw [h1, h2]; exact h
theorem rs_four (f : Nat) (hf : f = 4) : rs f false = 2 := rs_of (rt_four f hf) Nt.P_val (by decide +kernel)
theorem ok_four (f : Nat) (hf : f = 4) : ok f false = true := ok_of (rs_four f hf) Nt.P_val (by rw [hf]; decide +kernel)
theorem rs_two (t : Nat) (ht : t = 2) : rs t true = 19681161376707505956807079304988542015446066515923890162744021073123829784751 := rs_of (rt_two t ht) Nt.P_val (by decide +kernel)
theorem ok_two (t : Nat) (ht : t = 2) : ok t true = false := ok_of (rs_two t ht) Nt.P_val (by rw [ht]; decide +kernel)
theorem ro_four (f : Nat) (hf : f = 4) : ro f false = 2 := by
  unfold ro
  rw [ok_four f hf, rs_four f hf]; rfl
theorem inv_mul {a : Nat} (h0 : 0 < a) (ha : a < Nt.P) : a * iv a % Nt.P = 1 := Nt.inv_mul (Nt.not_dvd h0 ha)
theorem iv_zero (a : Nat) (h : a = 0) : iv a = 0 := by
  unfold iv
  have h2 := Nt.zero_pow_mod (Nt.P - 2) (by have := Nt.P_two; omega)
  rw [← h] at h2
  exact h2.trans h

/-- The sign does not hang on the square. -/
theorem neg_sq {p r : Nat} (hr : r < p) : (0 + p - r) % p * ((0 + p - r) % p) % p = r * r % p := by
  by_cases h : r = 0
  · subst h; simp
  · have e1 : (0 + p - r) % p = p - r := by rw [Nat.zero_add]; exact Nat.mod_eq_of_lt (by omega)
    rw [e1]
    obtain ⟨q, rfl⟩ : ∃ q, p = r + q := ⟨p - r, by omega⟩
    have e2 : r + q - r = q := by omega
    rw [e2]
    have e3 : q * q + (r + q) * r = r * r + (r + q) * q := by rw [Nat.add_mul, Nat.add_mul, Nat.mul_comm q r]; omega
    have e4 : (q * q + (r + q) * r) % (r + q) = (r * r + (r + q) * q) % (r + q) := by rw [e3]
    rwa [Nat.add_mul_mod_self_left, Nat.add_mul_mod_self_left] at e4
theorem cond_sq {p n r : Nat} (b : Bool) (h : n * n % p = r * r % p) : (bif b then n else r) * (bif b then n else r) % p = r * r % p := by
  cases b
  · rfl
  · exact h
theorem rs_sq (a : Nat) (odd : Bool) : rs a odd * rs a odd % Nt.P = Nt.rt a * Nt.rt a % Nt.P := cond_sq _ (neg_sq (rt_ltP a))
theorem P_odd : Nt.P % 2 = 1 := by rw [Nt.P_val]
theorem par_gen {p r : Nat} (odd : Bool) (hp : p % 2 = 1) (h0 : 0 < r) (hr : r < p) : decide ((bif (decide (r % 2 = 1) != odd) then (0 + p - r) % p else r) % 2 = 1) = odd := by
  have e1 : (p - r) % p = p - r := Nat.mod_eq_of_lt (by omega)
  by_cases h : r % 2 = 1
  · cases odd
    · simp [h, e1]; omega
    · simp [h]
  · cases odd
    · simp [h]
    · simp [h, e1]; omega
theorem rs_par {a : Nat} (odd : Bool) (h0 : 0 < Nt.rt a) : decide (rs a odd % 2 = 1) = odd := par_gen odd P_odd h0 (rt_ltP a)
theorem rt_pos {a : Nat} (h0 : 0 < a) (h : Nt.has a) : 0 < Nt.rt a := by
  apply Nat.pos_of_ne_zero
  intro e
  have h2 : Nt.rt a * Nt.rt a % Nt.P = a := h
  rw [e, Nat.zero_mul, Nat.zero_mod] at h2
  omega
theorem ok_has {a : Nat} (odd : Bool) (h0 : 0 < a) (h : Nt.has a) : ok a odd = true := by
  have h1 : rs a odd * rs a odd % Nt.P = a := (rs_sq a odd).trans h
  have h2 := rs_par odd (rt_pos h0 h)
  unfold ok
  rw [h2, decide_eq_true h1]
  cases odd <;> rfl
theorem ok_not {a : Nat} (odd : Bool) (h : ¬ Nt.has a) : ok a odd = false := by
  have h1 : ¬ rs a odd * rs a odd % Nt.P = a := fun e => h ((rs_sq a odd).symm.trans e)
  unfold ok
  rw [decide_eq_false h1]; rfl
theorem cond_yes {b : Bool} {x y : Nat} (h : b = true) : (bif b then x else y) = x := by subst h; rfl
theorem cond_no {b : Bool} {x y : Nat} (h : b = false) : (bif b then x else y) = y := by subst h; rfl
theorem ro_yes {a : Nat} {odd : Bool} (h : ok a odd = true) : ro a odd = rs a odd := cond_yes h
theorem ro_no {a : Nat} {odd : Bool} (h : ok a odd = false) : ro a odd = 0 := cond_no h
theorem ite_zero {p i a c : Nat} (hc : c = 0) (h : a = 0) : (if c * c % p = a then c else c * i % p) = 0 := by
  subst hc
  subst h
  simp
theorem rt_zero (a : Nat) (h : a = 0) : Nt.rt a = 0 := rt_of rfl rfl rfl (ite_zero (Nt.c1_zero a h) h)
theorem rs_zero_gen {p r : Nat} (odd : Bool) (h : r = 0) : (bif (decide (r % 2 = 1) != odd) then (0 + p - r) % p else r) = 0 := by
  subst h
  cases odd <;> simp
theorem rs_zero (a : Nat) (odd : Bool) (h : a = 0) : rs a odd = 0 := rs_zero_gen odd (rt_zero a h)
theorem ok_zero_gen {p s a : Nat} {odd : Bool} (h1 : s = 0) (h2 : a = 0) : (decide (s * s % p = a) && !(decide (s % 2 = 1) != odd)) = !odd := by
  subst h1
  subst h2
  cases odd <;> simp
theorem ok_zero (a : Nat) (odd : Bool) (h : a = 0) : ok a odd = !odd := ok_zero_gen (rs_zero a odd h) h
/-- The two roots make 0 together. -/
theorem two_roots_gen {p r : Nat} (hp : p % 2 = 1) (hr : r < p) : ((bif (decide (r % 2 = 1) != false) then (0 + p - r) % p else r) + (bif (decide (r % 2 = 1) != true) then (0 + p - r) % p else r)) % p = 0 := by
  by_cases h : r % 2 = 1
  · have h0 : 0 < r := by omega
    have e1 : (0 + p - r) % p = p - r := by rw [Nat.zero_add]; exact Nat.mod_eq_of_lt (by omega)
    simp [h, e1]
    rw [show p - r + r = p by omega, Nat.mod_self]
  · by_cases h0 : r = 0
    · subst h0; simp
    · have e1 : (0 + p - r) % p = p - r := by rw [Nat.zero_add]; exact Nat.mod_eq_of_lt (by omega)
      simp [h, e1]
      rw [show r + (p - r) = p by omega, Nat.mod_self]
theorem two_roots (a : Nat) : (rs a false + rs a true) % Nt.P = 0 := two_roots_gen P_odd (rt_ltP a)

theorem mod_add_l {p : Nat} (x y : Nat) : (x % p + y) % p = (x + y) % p := Nat.mod_add_mod x p y
theorem mod_add_r {p : Nat} (x y : Nat) : (x + y % p) % p = (x + y) % p := Nat.add_mod_mod x y p
theorem law_assoc (a b c : Nat) : ((a + b) % Nt.P + c) % Nt.P = (a + (b + c) % Nt.P) % Nt.P := by rw [mod_add_l, mod_add_r, Nat.add_assoc]
theorem law_massoc (a b c : Nat) : (a * b % Nt.P) * c % Nt.P = a * (b * c % Nt.P) % Nt.P := by rw [Nt.mml, Nt.mmr, Nat.mul_assoc]
theorem law_dist (a b c : Nat) : a * ((b + c) % Nt.P) % Nt.P = (a * b % Nt.P + a * c % Nt.P) % Nt.P := by rw [Nt.mmr, mod_add_l, mod_add_r, Nat.mul_add]
theorem sub_add_gen {a b p : Nat} (ha : a < p) (hb : b < p) : ((a + p - b) % p + b) % p = a := by
  rw [mod_add_l, show a + p - b + b = a + p by omega, Nat.add_mod_right, Nat.mod_eq_of_lt ha]
theorem sub_self_gen {a p : Nat} : (a + p - a) % p = 0 := by rw [show a + p - a = p by omega, Nat.mod_self]

end Go.Proofs.YtjaocjnefopdfaaDoor
