/-
  The prime 2^255 - 19: that it is one (Pocklington's way down to small ones), Fermat's law, roots of a number and of twice it. Plain arithmetic: no Go in it.
-/
namespace Go.Proofs.YtdfghknonbmadaaGreatDoor
namespace Mt
set_option linter.unusedVariables false
namespace Nt
def Pr (p : Nat) : Prop := 1 < p ∧ ∀ m, m ∣ p → m = 1 ∨ m = p
theorem Pr.cop {p a : Nat} (h : Pr p) (ha : ¬ p ∣ a) : Nat.Coprime p a := by
 cases h.2 _ (Nat.gcd_dvd_left p a) with
 | inl h1 => exact h1
 | inr h1 => exact absurd (h1 ▸ Nat.gcd_dvd_right p a) ha
theorem Pr.or {p a b : Nat} (h : Pr p) (hd : p ∣ a * b) : p ∣ a ∨ p ∣ b := by
 by_cases ha : p ∣ a
 ·exact .inl ha
 ·exact .inr (Nat.Coprime.dvd_of_dvd_mul_left (h.cop ha) hd)
def ch : Nat → Nat → Nat
 | _, 0 => 1
 | 0, _ + 1 => 0
 | n + 1, k + 1 => ch n k + ch n (k + 1)
theorem ch_zero (n : Nat) : ch n 0 = 1 := by cases n <;> rfl
theorem ch_over : ∀ (n k : Nat), n < k → ch n k = 0
 | _, 0, h => absurd h (by omega)
 | 0, _ + 1, _ => rfl
 | n + 1, k + 1, h => by
   have h1 := ch_over n k (by omega)
   have h2 := ch_over n (k + 1) (by omega)
   rw [ch, h1, h2]
theorem ch_self : ∀ n, ch n n = 1
 | 0 => rfl
 | n + 1 => by rw [ch, ch_self n, ch_over n (n + 1) (by omega)]
theorem ch_mul : ∀ (n k : Nat), (k + 1) * ch (n + 1) (k + 1) = (n + 1) * ch n k
 | 0, 0 => rfl
 | 0, k + 1 => by rw [ch_over (0 + 1) _ (by omega), ch_over 0 _ (by omega), Nat.mul_zero, Nat.mul_zero]
 | n + 1, 0 => by
   have h := ch_mul n 0
   have e : ch (n + 1 + 1) (0 + 1) = ch (n + 1) 0 + ch (n + 1) (0 + 1) := rfl
   rw [e, ch_zero]; rw [ch_zero] at h; omega
 | n + 1, k + 1 => by
   have h1 := ch_mul n k
   have h2 := ch_mul n (k + 1)
   rw [ch]
   have e : (k + 1 + 1) * (ch (n + 1) (k + 1) + ch (n + 1) (k + 1 + 1)) = ch (n + 1) (k + 1) + (k + 1) * ch (n + 1) (k + 1) + (k + 1 + 1) * ch (n + 1) (k + 1 + 1) := by
    rw [Nat.mul_add, Nat.add_mul (k + 1) 1]; omega
   rw [e, h1, h2]
   have e2 : (n + 1 + 1) * ch (n + 1) (k + 1) = ch (n + 1) (k + 1) + (n + 1) * ch (n + 1) (k + 1) := by
    rw [Nat.add_mul (n + 1) 1]; omega
   rw [e2]
   have e3 : (n + 1) * ch (n + 1) (k + 1) = (n + 1) * ch n k + (n + 1) * ch n (k + 1) := by rw [ch, Nat.mul_add]
   omega
def S (n a : Nat) : Nat → Nat
 | 0 => 0
 | m + 1 => S n a m + ch n m * a ^ m
theorem S_step (n a : Nat) : ∀ m, S (n + 1) a (m + 1) = S n a (m + 1) + a * S n a m
 | 0 => by simp [S, ch_zero]
 | m + 1 => by
   rw [S, S_step n a m]
   have e1 : S n a (m + 1 + 1) = S n a (m + 1) + ch n (m + 1) * a ^ (m + 1) := rfl
   have e2 : S n a (m + 1) = S n a m + ch n m * a ^ m := rfl
   have e3 : ch (n + 1) (m + 1) = ch n m + ch n (m + 1) := rfl
   have e4 : a * (ch n m * a ^ m) = ch n m * a ^ (m + 1) := by rw [Nat.pow_succ, Nat.mul_left_comm, Nat.mul_comm a]
   rw [e1, e3, Nat.add_mul]
   have e5 : a * S n a (m + 1) = a * S n a m + ch n m * a ^ (m + 1) := by rw [e2, Nat.mul_add, e4]
   omega
theorem binom (a : Nat) : ∀ n, (a + 1) ^ n = S n a (n + 1)
 | 0 => by simp [S, ch]
 | n + 1 => by
   rw [S_step n a (n + 1), Nat.pow_succ, binom a n, Nat.mul_add, Nat.mul_one, Nat.mul_comm _ a]
   have : S n a (n + 1 + 1) = S n a (n + 1) + ch n (n + 1) * a ^ (n + 1) := rfl
   rw [this, ch_over n (n + 1) (by omega)]
   omega
theorem Pr.ch {p k : Nat} (h : Pr p) (h0 : 0 < k) (hk : k < p) : p ∣ ch p k := by
 obtain ⟨n, rfl⟩ : ∃ n, p = n + 1 := ⟨p - 1, by have := h.1; omega⟩
 obtain ⟨j, rfl⟩ : ∃ j, k = j + 1 := ⟨k - 1, by omega⟩
 have e := ch_mul n j
 have hd : (n + 1) ∣ (j + 1) * Nt.ch (n + 1) (j + 1) := ⟨_, e⟩
 cases h.or hd with
 | inl h1 => exact absurd (Nat.le_of_dvd (by omega) h1) (by omega)
 | inr h1 => exact h1
theorem Pr.S {p a : Nat} (h : Pr p) : ∀ m, 0 < m → m ≤ p → S p a m % p = 1 % p
 | 0, h0, _ => absurd h0 (by omega)
 | 1, _, _ => by simp [Nt.S, ch_zero]
 | m + 2, _, hm => by
   have ih := Pr.S (a := a) h (m + 1) (by omega) (by omega)
   obtain ⟨c, hc⟩ := h.ch (k := m + 1) (by omega) (by omega)
   rw [Nt.S, hc, Nat.mul_assoc, Nat.add_mul_mod_self_left, ih]
theorem fermat {p : Nat} (h : Pr p) : ∀ a, a ^ p % p = a % p
 | 0 => by rw [Nat.zero_pow (by have := h.1; omega)]
 | a + 1 => by
   have h1 := h.1
   rw [binom, Nt.S, ch_self, Nat.one_mul, Nat.add_mod, h.S p (by omega) (Nat.le_refl _), fermat h a, ← Nat.add_mod, Nat.add_comm]
theorem cancel {p a b c : Nat} (h : Pr p) (ha : ¬ p ∣ a) (e : a * b % p = a * c % p) : b % p = c % p := by
 suffices H : ∀ b c, b ≤ c → a * b % p = a * c % p → b % p = c % p by
  cases Nat.le_total b c with
  | inl hl => exact H b c hl e
  | inr hl => exact (H c b hl e.symm).symm
 intro b c hl e
 have hd : p ∣ a * (c - b) := by
  rw [Nat.mul_sub]; exact Nat.dvd_of_mod_eq_zero (Nat.sub_mod_eq_zero_of_mod_eq e.symm)
 cases h.or hd with
 | inl h1 => exact absurd h1 ha
 | inr h1 =>
   obtain ⟨t, ht⟩ := h1
   have : c = b + p * t := by omega
   rw [this, Nat.add_mul_mod_self_left]
theorem fermat1 {p a : Nat} (h : Pr p) (ha : ¬ p ∣ a) : a ^ (p - 1) % p = 1 := by
 have h1 := h.1
 have e : a * a ^ (p - 1) % p = a * 1 % p := by
  rw [Nat.mul_one, Nat.mul_comm, ← Nat.pow_succ, show (p - 1).succ = p from by omega, fermat h]
 rw [cancel h ha e, Nat.mod_eq_of_lt h1]
theorem pow_one_mod {n x k : Nat} (hn : 1 < n) (h : x % n = 1) : x ^ k % n = 1 := by
 rw [Nat.pow_mod, h, Nat.one_pow, Nat.mod_eq_of_lt hn]
theorem mod_of_dvd {n r x : Nat} (hr : 1 < r) (hd : r ∣ n) (h : x % n = 1) : x % r = 1 := by
 rw [← Nat.mod_mod_of_dvd x hd, h, Nat.mod_eq_of_lt hr]
theorem not_dvd_of_pow {r a k : Nat} (hr : 1 < r) (hk : 0 < k) (h : a ^ k % r = 1) : ¬ r ∣ a := by
 intro hd
 have : a ^ k % r = 0 := Nat.mod_eq_zero_of_dvd (Nat.dvd_trans hd ⟨a ^ (k - 1), by rw [Nat.mul_comm, ← Nat.pow_succ, show (k - 1).succ = k from by omega]⟩)
 omega
theorem pock {n q R a r : Nat} (hq : Pr q) (hn : n = q * R + 1) (hR : 0 < R) (h1 : a ^ (q * R) % n = 1) (hg : Nat.gcd (a ^ R % n + (n - 1)) n = 1) (hr : Pr r) (hd : r ∣ n) : q ∣ r - 1 := by
 apply Classical.byContradiction
 intro hno
 have hr1 := hr.1
 have hq1 := hq.1
 have hq0 : 0 < q * R := Nat.mul_pos (by omega) hR
 have h2 := mod_of_dvd hr1 hd h1
 have ha := not_dvd_of_pow hr1 hq0 h2
 have hf := fermat1 hr ha
 have hq2 := fermat1 hq hno
 obtain ⟨t, ht⟩ : ∃ t, (r - 1) ^ (q - 1) = q * t + 1 := ⟨(r - 1) ^ (q - 1) / q, by have := Nat.div_add_mod ((r - 1) ^ (q - 1)) q; omega⟩
 obtain ⟨s, hs⟩ : ∃ s, (r - 1) ^ (q - 1) = (r - 1) * s := ⟨(r - 1) ^ (q - 2), by rw [Nat.mul_comm, ← Nat.pow_succ, show (q - 2).succ = q - 1 from by omega]⟩
 have e1 : (a ^ R) ^ ((r - 1) * s) % r = 1 := by
  rw [← Nat.pow_mul, Nat.mul_left_comm, Nat.pow_mul]; exact pow_one_mod hr1 hf
 have e2 : (a ^ R) ^ ((r - 1) * s) % r = a ^ R % r := by
  rw [← hs, ht, Nat.pow_succ, ← Nat.pow_mul, ← Nat.mul_assoc, Nat.mul_comm R q, Nat.pow_mul a, Nat.mul_mod, pow_one_mod hr1 h2, Nat.one_mul, Nat.mod_mod]
 have e3 : a ^ R % r = 1 := by rw [← e2]; exact e1
 have e4 : r ∣ a ^ R % n + (n - 1) := by
  apply Nat.dvd_of_mod_eq_zero
  obtain ⟨t, ht⟩ := hd
  have ht0 : 0 < t := Nat.pos_of_ne_zero (fun h => by rw [h, Nat.mul_zero] at ht; omega)
  obtain ⟨t, rfl⟩ : ∃ s, t = s + 1 := ⟨t - 1, by omega⟩
  have e5 : n - 1 = r * t + (r - 1) := by rw [ht, Nat.mul_add]; omega
  rw [e5, ← Nat.add_assoc, Nat.add_right_comm, Nat.add_mul_mod_self_left, Nat.add_mod, Nat.mod_mod_of_dvd _ ⟨t + 1, ht⟩, e3, Nat.mod_eq_of_lt (show r - 1 < r by omega), show 1 + (r - 1) = r from by omega, Nat.mod_self]
 have := Nat.dvd_gcd e4 hd
 rw [hg] at this
 have := Nat.le_of_dvd (by omega) this
 omega
theorem has_prime : ∀ (k n : Nat), n ≤ k → 1 < n → ∃ r, Pr r ∧ r ∣ n
 | 0, n, h, h1 => by omega
 | k + 1, n, h, h1 => by
   by_cases hp : Pr n
   ·exact ⟨n, hp, Nat.dvd_refl _⟩
   ·have : ∃ m, m ∣ n ∧ m ≠ 1 ∧ m ≠ n := by
     apply Classical.byContradiction
     intro hno
     refine hp ⟨h1, fun m hm => ?_⟩
     apply Classical.byContradiction
     intro h2
     exact hno ⟨m, hm, fun e => h2 (.inl e), fun e => h2 (.inr e)⟩
    obtain ⟨m, hm, hm1, hm2⟩ := this
    have hle := Nat.le_of_dvd (by omega) hm
    have h0 : 0 < m := Nat.pos_of_dvd_of_pos hm (by omega)
    obtain ⟨r, hr, hrd⟩ := has_prime k m (by omega) (by omega)
    exact ⟨r, hr, Nat.dvd_trans hrd hm⟩
theorem pr_of_root {n : Nat} (h1 : 1 < n) (h : ∀ r, Pr r → r ∣ n → n < r * r) : Pr n := by
 refine ⟨h1, fun m hm => ?_⟩
 apply Classical.byContradiction
 intro hno
 obtain ⟨t, ht⟩ := hm
 have hm1 : 1 < m := by
  rcases m with _ | _ | m
  ·rw [Nat.zero_mul] at ht; omega
  ·exact absurd (.inl rfl) hno
  ·omega
 have ht1 : 1 < t := by
  rcases t with _ | _ | t
  ·rw [Nat.mul_zero] at ht; omega
  ·exact absurd (.inr (by omega)) hno
  ·omega
 obtain ⟨r, hr, hrd⟩ := has_prime m m (Nat.le_refl _) hm1
 obtain ⟨s, hs, hsd⟩ := has_prime t t (Nat.le_refl _) ht1
 have a1 := h r hr (Nat.dvd_trans hrd ⟨t, ht⟩)
 have a2 := h s hs (Nat.dvd_trans hsd ⟨m, by rw [ht, Nat.mul_comm]⟩)
 have b1 := Nat.le_of_dvd (by omega) hrd
 have b2 := Nat.le_of_dvd (by omega) hsd
 have c1 := Nat.mul_le_mul b1 b2
 rw [← ht] at c1
 cases Nat.le_total r s with
 | inl hl => have := Nat.mul_le_mul_left r hl; omega
 | inr hl => have := Nat.mul_le_mul_right s hl; omega
def pm (m : Nat) : Nat → Nat → Nat → Nat
 | 0, _, _ => 1 % m
 | f + 1, b, e => if e % 2 = 1 then b * pm m f (b * b % m) (e / 2) % m else pm m f (b * b % m) (e / 2)
theorem pm_eq (m : Nat) : ∀ f b e, e < 2 ^ f → pm m f b e = b ^ e % m
 | 0, b, e, h => by
   have : e = 0 := by rw [Nat.pow_zero] at h; omega
   rw [this, pm, Nat.pow_zero]
 | f + 1, b, e, h => by
   have h2 : e / 2 < 2 ^ f := by rw [Nat.pow_succ] at h; omega
   have ih := pm_eq m f (b * b % m) (e / 2) h2
   have e1 : (b * b % m) ^ (e / 2) % m = b ^ (2 * (e / 2)) % m := by rw [← Nat.pow_mod, Nat.pow_mul, Nat.pow_two]
   rw [pm, ih, e1]
   split
   ·rename_i ho
    rw [Nat.mul_mod, Nat.mod_mod, ← Nat.mul_mod, Nat.mul_comm, ← Nat.pow_succ, show (2 * (e / 2)).succ = e from by omega]
   ·rw [show 2 * (e / 2) = e from by omega]
def tr (n : Nat) : Nat → Nat → Bool
 | 0, _ => true
 | f + 1, d => n % d != 0 && tr n f (d + 1)
theorem tr_of (n : Nat) : ∀ f d, tr n f d = true → ∀ m, d ≤ m → m < d + f → ¬ m ∣ n
 | 0, d, _, m, h1, h2 => by omega
 | f + 1, d, h, m, h1, h2 => by
   rw [tr, Bool.and_eq_true] at h
   by_cases e : m = d
   ·subst e
    intro hd
    have := Nat.mod_eq_zero_of_dvd hd
    simp [this] at h
   ·exact tr_of n f (d + 1) h.2 m (by omega) (by omega)
theorem pr_tr {n : Nat} (f : Nat) (h1 : 1 < n) (h : tr n f 2 = true) (hf : n < (f + 2) * (f + 2)) : Pr n :=
 pr_of_root h1 fun r hr hd => by
  have h2 := tr_of n f 2 h r
  have h3 : ¬ r < 2 + f := fun hl => h2 hr.1 hl hd
  have := Nat.mul_le_mul (show f + 2 ≤ r by omega) (show f + 2 ≤ r by omega)
  omega
theorem two_dvd {a b c : Nat} (ha : Pr a) (hb : Pr b) (hne : a ≠ b) (h1 : a ∣ c) (h2 : b ∣ c) : a * b ∣ c := by
 have : Nat.Coprime a b := ha.cop (fun hd => by
  cases hb.2 _ hd with
  | inl h => have := ha.1; omega
  | inr h => exact hne h)
 exact Nat.Coprime.mul_dvd_of_dvd_of_dvd this h1 h2
theorem above {n r F : Nat} (hr : Pr r) (hd : F ∣ r - 1) (hF : n < (F + 1) * (F + 1)) : n < r * r := by
 have := hr.1
 have := Nat.le_of_dvd (by omega) hd
 have := Nat.mul_le_mul (show F + 1 ≤ r by omega) (show F + 1 ≤ r by omega)
 omega
theorem pockB {n q R : Nat} (f : Nat) (hq : Pr q) (hn : n = q * R + 1) (hR : 0 < R) (hf : q * R < 2 ^ f) (hf2 : R < 2 ^ f) (h1 : pm n f 2 (q * R) = 1) (hg : Nat.gcd (pm n f 2 R + (n - 1)) n = 1) : ∀ r, Pr r → r ∣ n → q ∣ r - 1 := fun r hr hd =>
 pock (a := 2) hq hn hR (by rw [← pm_eq n f 2 _ hf]; exact h1) (by rw [← pm_eq n f 2 _ hf2]; exact hg) hr hd
theorem pr353 : Pr 353 := pr_tr 20 (by decide) (by decide +kernel) (by decide)
theorem pr127 : Pr 127 := pr_tr 20 (by decide) (by decide +kernel) (by decide)
theorem pr75707 : Pr 75707 := pr_tr 300 (by decide) (by decide +kernel) (by decide)
theorem pr8574133 : Pr 8574133 := pr_tr 3000 (by decide) (by decide +kernel) (by decide)
theorem prA : Pr 1919519569386763 := pr_of_root (by decide +kernel) fun r hr hd =>
 above hr (two_dvd pr8574133 pr127 (by decide +kernel) (pockB (R := 223873314) 51 pr8574133 (by decide +kernel) (by decide +kernel) (by decide +kernel) (by decide +kernel) (by decide +kernel) (by decide +kernel) r hr hd) (pockB (R := 15114327318006) 51 pr127 (by decide +kernel) (by decide +kernel) (by decide +kernel) (by decide +kernel) (by decide +kernel) (by decide +kernel) r hr hd)) (by decide +kernel)
theorem prB : Pr 75445702479781427272750846543864801 := pr_of_root (by decide +kernel) fun r hr hd =>
 above hr (two_dvd prA pr75707 (by decide +kernel) (pockB (R := 39304471641247389600) 116 prA (by decide +kernel) (by decide +kernel) (by decide +kernel) (by decide +kernel) (by decide +kernel) (by decide +kernel) r hr hd) (pockB (R := 996548568557483816196003626400) 116 pr75707 (by decide +kernel) (by decide +kernel) (by decide +kernel) (by decide +kernel) (by decide +kernel) (by decide +kernel) r hr hd)) (by decide +kernel)
theorem prC : Pr 74058212732561358302231226437062788676166966415465897661863160754340907 := pr_of_root (by decide +kernel) fun r hr hd =>
 above hr (two_dvd prB pr353 (by decide +kernel) (pockB (R := 981609426360740691344999861639072106) 236 prB (by decide +kernel) (by decide +kernel) (by decide +kernel) (by decide +kernel) (by decide +kernel) (by decide +kernel) r hr hd) (pockB (R := 209796636636151156663544550813209033076960244803019540118592523383402) 236 pr353 (by decide +kernel) (by decide +kernel) (by decide +kernel) (by decide +kernel) (by decide +kernel) (by decide +kernel) r hr hd)) (by decide +kernel)
theorem prP : Pr 57896044618658097711785492504343953926634992332820282019728792003956564819949 := pr_of_root (by decide +kernel) fun r hr hd =>
 above hr (pockB (R := 781764) 255 prC (by decide +kernel) (by decide +kernel) (by decide +kernel) (by decide +kernel) (by decide +kernel) (by decide +kernel) r hr hd) (by decide +kernel)
def P : Nat := 57896044618658097711785492504343953926634992332820282019728792003956564819949
def K : Nat := 7237005577332262213973186563042994240829374041602535252466099000494570602493
def I : Nat := 19681161376707505956807079304988542015446066515923890162744021073123829784752
theorem P_val : P = 57896044618658097711785492504343953926634992332820282019728792003956564819949 := by unfold P; rfl
theorem K_val : K = 7237005577332262213973186563042994240829374041602535252466099000494570602493 := by unfold K; rfl
theorem I_val : I = 19681161376707505956807079304988542015446066515923890162744021073123829784752 := by unfold I; rfl
theorem prime : Pr P := by rw [P_val]; exact prP
theorem P_K : P = 8 * K + 5 := by rw [P_val, K_val]
theorem I_sq : I * I % P = P - 1 := by rw [P_val, I_val]
theorem P_two : 2 < P := by rw [P_val]; decide
theorem inv_mul {a : Nat} (h : ¬ P ∣ a) : a * (a ^ (P - 2) % P) % P = 1 := by
 have := P_two
 rw [Nat.mul_mod, Nat.mod_mod, ← Nat.mul_mod, Nat.mul_comm, ← Nat.pow_succ, show (P - 2).succ = P - 1 from by omega]
 exact fermat1 prime h
theorem sq_one {x : Nat} (h : x * x % P = 1) : x % P = 1 ∨ x % P = P - 1 := by
 have hp := P_two
 obtain ⟨y, rfl⟩ : ∃ y, x = y + 1 := ⟨x - 1, by
  rcases x with _ | x
  ·rw [Nat.zero_mul, Nat.zero_mod] at h; omega
  ·omega⟩
 have h1 : P ∣ y * (y + 2) := by
  have e : (y + 1) * (y + 1) = y * (y + 2) + 1 := by rw [Nat.mul_add, Nat.add_mul, Nat.mul_add]; omega
  rw [e] at h
  apply Nat.dvd_of_mod_eq_zero
  have hl := Nat.mod_lt (y * (y + 2)) (show 0 < P by omega)
  rw [Nat.add_mod, Nat.mod_eq_of_lt (show 1 < P by omega)] at h
  by_cases hz : y * (y + 2) % P + 1 = P
  ·rw [hz, Nat.mod_self] at h; omega
  ·rw [Nat.mod_eq_of_lt (by omega)] at h; omega
 cases prime.or h1 with
 | inl h2 =>
   left
   rw [Nat.add_mod, Nat.mod_eq_zero_of_dvd h2, Nat.zero_add, Nat.mod_mod, Nat.mod_eq_of_lt (by omega)]
 | inr h2 =>
   right
   obtain ⟨t, ht⟩ := h2
   obtain ⟨t, rfl⟩ : ∃ s, t = s + 1 := ⟨t - 1, by
    rcases t with _ | t
    ·rw [Nat.mul_zero] at ht; omega
    ·omega⟩
   have : y + 1 = P * t + (P - 1) := by rw [Nat.mul_add] at ht; omega
   rw [this, Nat.mul_add_mod, Nat.mod_eq_of_lt (by omega)]
theorem minus_sq : (P - 1) * (P - 1) % P = 1 := by
 have hp := P_two
 have e : (P - 1) * (P - 1) = P * (P - 2) + 1 := by
  obtain ⟨y, hy⟩ : ∃ y, P = y + 2 := ⟨P - 2, by omega⟩
  rw [hy, show y + 2 - 1 = y + 1 from rfl, show y + 2 - 2 = y from rfl, Nat.mul_add, Nat.add_mul, Nat.add_mul y 2 y]; omega
 rw [e, Nat.mul_add_mod, Nat.mod_eq_of_lt (by omega)]
theorem mm (a b : Nat) : (a % P) * (b % P) % P = a * b % P := (Nat.mul_mod a b P).symm
theorem mml (a b : Nat) : (a % P) * b % P = a * b % P := by rw [Nat.mul_mod, Nat.mod_mod, ← Nat.mul_mod]
theorem mmr (a b : Nat) : a * (b % P) % P = a * b % P := by rw [Nat.mul_mod, Nat.mod_mod, ← Nat.mul_mod]
def c1 (a : Nat) : Nat := a ^ (K + 1) % P
def rt (a : Nat) : Nat := if c1 a * c1 a % P = a then c1 a else c1 a * I % P
def has (a : Nat) : Prop := rt a * rt a % P = a
theorem c1_sq (a : Nat) : c1 a * c1 a % P = a * (a ^ (2 * K + 1) % P) % P := by
 unfold c1
 rw [mm, mmr, ← Nat.pow_add, Nat.mul_comm a, ← Nat.pow_succ]
 rw [show K + 1 + (K + 1) = (2 * K + 1).succ from by omega]
theorem chi_of_root {a r : Nat} (h : ¬ P ∣ a) (hr : r * r % P = a % P) : a ^ (4 * K + 2) % P = 1 := by
 have hn : ¬ P ∣ r := fun hd => h (by
  apply Nat.dvd_of_mod_eq_zero
  rw [← hr]; exact Nat.mod_eq_zero_of_dvd (Nat.dvd_trans hd ⟨r, rfl⟩))
 rw [Nat.pow_mod, ← hr, ← Nat.pow_mod, ← Nat.pow_two, ← Nat.pow_mul, show 2 * (4 * K + 2) = P - 1 from by rw [P_K]; omega]
 exact fermat1 prime hn
theorem has_of_chi {a : Nat} (ha : a < P) (h : a ^ (4 * K + 2) % P = 1) : has a := by
 have ht : (a ^ (2 * K + 1)) * (a ^ (2 * K + 1)) % P = 1 := by
  rw [← Nat.pow_add, show 2 * K + 1 + (2 * K + 1) = 4 * K + 2 from by omega]; exact h
 have hc := c1_sq a
 unfold has rt
 split
 ·rename_i h1; exact h1
 ·rename_i h1
  cases sq_one ht with
  | inl e => rw [e, Nat.mul_one, Nat.mod_eq_of_lt ha] at hc; exact absurd hc h1
  | inr e =>
    rw [e] at hc
    rw [mm, Nat.mul_mul_mul_comm, ← mm, hc, I_sq, mml, Nat.mul_assoc, ← mmr, minus_sq, Nat.mul_one, Nat.mod_eq_of_lt ha]
theorem not_dvd {a : Nat} (h0 : 0 < a) (ha : a < P) : ¬ P ∣ a := fun hd => absurd (Nat.le_of_dvd h0 hd) (by omega)
theorem zero_pow_mod (n : Nat) (h : 0 < n) : 0 ^ n % P = 0 := by rw [Nat.zero_pow h, Nat.zero_mod]
theorem c1_zero (a : Nat) (h : a = 0) : c1 a = 0 := by
 unfold c1
 have := zero_pow_mod (K + 1) (by omega)
 rw [← h] at this
 exact this.trans h
theorem has_zero (a : Nat) (h : a = 0) : has a := by
 have e := c1_zero a h
 unfold has rt
 rw [e, Nat.zero_mul, Nat.zero_mod, Nat.zero_mul, Nat.zero_mod, if_pos h.symm, Nat.zero_mul, Nat.zero_mod, h]
end Nt
end Mt
end Go.Proofs.YtdfghknonbmadaaGreatDoor
