/-
  Two make the same of their keys, and three: as numbers. No statement is proved here.
-/
import Derived.Test.YthbkhbfcocbnoaaDoorEdD
namespace Go.Proofs.YthbkhbfcocbnoaaDoor
set_option linter.unusedVariables false
set_option maxRecDepth 100000
namespace Ed

theorem nm_zero : ∀ k, nm k zero = zero
  | 0 => rfl
  | k + 1 => by
    show add (nm k zero) zero = zero
    rw [nm_zero k, add_zero zero_on]
theorem order_gen {p n : Nat} {Q : Pt} (hp : Nt.Pr p) (hQ : Q.On) (hz : nm p Q = zero) (hn : nm n Q = zero) (hne : Q ≠ zero) : p ∣ n := by
  apply Classical.byContradiction
  intro hno
  have h1 := Nt.fermat1 hp hno
  have hp1 := hp.1
  obtain ⟨t, ht⟩ : ∃ t, n ^ (p - 1) = t * p + 1 := ⟨n ^ (p - 1) / p, by
    have := Nat.div_add_mod (n ^ (p - 1)) p
    rw [h1] at this
    rw [Nat.mul_comm]; exact this.symm⟩
  have e1 : nm (n ^ (p - 1)) Q = zero := by
    rw [show p - 1 = (p - 2) + 1 by omega, Nat.pow_succ, nm_mul hQ, hn, nm_zero]
  have e2 : nm (t * p + 1) Q = Q := by
    rw [nm_add hQ, nm_mul hQ, hz, nm_zero, nm_one hQ, zero_add hQ]
  rw [ht, e2] at e1
  exact hne e1
theorem Bp_ne : Bp ≠ zero := fun h => by
  have : Bp.y = zero.y := by rw [h]
  exact absurd this (by decide +kernel)
theorem order_dvd {n : Nat} (h : nm n Bp = zero) : Lq ∣ n := order_gen prL Bp_on L_zero h Bp_ne
theorem L_two : ¬ Lq ∣ 2 := fun h => by
  have := Nat.le_of_dvd (by decide) h
  rw [Lq_val] at this
  omega
theorem y_ne1 {n : Nat} (h : ¬ Lq ∣ n) : (nm n Bp).y ≠ 1 := fun e => h (order_dvd (y_one (nm_on Bp_on n) e))
theorem y_ne2 {n : Nat} (h : ¬ Lq ∣ n) : (nm n Bp).y ≠ -1 := fun e => by
  have h1 := y_minus (nm_on Bp_on n) e
  rw [← nm_two Bp_on] at h1
  rcases prL.or (order_dvd h1) with h2 | h2
  · exact L_two h2
  · exact h h2
/-- X is the first coordinate of m times the base point. -/
structure IsU (X m : Nat) : Prop where
  lt : X < Nt.P
  eq : fe X = U (nm m Bp)
theorem IsU.uniq {X Y m : Nat} (h : IsU X m) (k : IsU Y m) : X = Y := fe_inj h.lt k.lt (h.eq.trans k.eq.symm)
theorem IsU.ne {X m : Nat} (h : IsU X m) (hm : ¬ Lq ∣ m) : X ≠ 0 := fun e => by
  have := h.eq
  rw [e, fe_0] at this
  exact U_ne (y_ne1 hm) (y_ne2 hm) this.symm
theorem ladN_lt (n X : Nat) : ladN n X < Nt.P := ml_lt _ _
theorem IsU.base (n : Nat) (hn : n < 2 ^ 255) : IsU (ladN n 9) n := ⟨ladN_lt _ _, ladN_U n hn nine_lt Bp_on Bp_rep nine_ne⟩
theorem IsU.step {X m : Nat} (h : IsU X m) (hm : ¬ Lq ∣ m) (n : Nat) (hn : n < 2 ^ 255) : IsU (ladN n X) (n * m) := by
  refine ⟨ladN_lt _ _, ?_⟩
  have hr : Rep (fe X) 1 (nm m Bp) := by rw [h.eq]; exact U_rep (y_ne1 hm)
  have h0 : fe X ≠ 0 := by rw [h.eq]; exact U_ne (y_ne1 hm) (y_ne2 hm)
  rw [ladN_U n hn h.lt (nm_on Bp_on m) hr h0, nm_mul Bp_on]
theorem prod_no {m n : Nat} (hm : ¬ Lq ∣ m) (hn : ¬ Lq ∣ n) : ¬ Lq ∣ m * n := fun h => by
  rcases prL.or h with k | k
  · exact hm k
  · exact hn k
theorem both (a b c : Nat) (ha : a < 2 ^ 255) (hb : b < 2 ^ 255) (hc : c < 2 ^ 255) (na : ¬ Lq ∣ a) (nb : ¬ Lq ∣ b) (nc : ¬ Lq ∣ c) :
    ladN a (ladN b 9) ≠ 0 ∧ ladN b (ladN a 9) = ladN a (ladN b 9) ∧ ladN c (ladN a (ladN b 9)) ≠ 0 ∧ ladN c (ladN a 9) ≠ 0 ∧ ladN b (ladN c (ladN a 9)) = ladN c (ladN a (ladN b 9)) := by
  have p := IsU.base a ha
  have q := IsU.base b hb
  have s := q.step nb a ha
  have t := p.step na b hb
  rw [Nat.mul_comm] at t
  have x := s.step (prod_no na nb) c hc
  have u := p.step na c hc
  have y := u.step (prod_no nc na) b hb
  have e : b * (c * a) = c * (a * b) := by rw [Nat.mul_left_comm, Nat.mul_comm b a]
  rw [e] at y
  exact ⟨s.ne (prod_no na nb), t.uniq s, x.ne (prod_no nc (prod_no na nb)), u.ne (prod_no nc na), y.uniq x⟩
theorem clamped_gen {n t p m : Nat} (hp : p % 8 = 5) (hm : m ≤ 8 * p) (h8 : n % 8 = 0) (h0 : 0 < n) (hn : n < m) (ht : n = p * t) : False := by
  have h1 : t < 8 := by
    apply Classical.byContradiction
    intro h
    have := Nat.mul_le_mul_left p (Nat.le_of_not_lt h)
    omega
  have h2 : (p * t) % 8 = (5 * (t % 8)) % 8 := by rw [Nat.mul_mod, hp]
  rw [← ht, h8] at h2
  have h3 : t = 0 := by omega
  rw [h3, Nat.mul_zero] at ht
  omega
/-- A clamped number is none that the order divides. -/
theorem clamped {n : Nat} (h8 : n % 8 = 0) (h0 : 0 < n) (hn : n < 57896044618658097711785492504343953926634992332820282019728792003956564819968) : ¬ Lq ∣ n := fun h => by
  obtain ⟨t, ht⟩ := h
  exact clamped_gen (by decide +kernel) (by decide +kernel) h8 h0 hn ht
end Ed
/-- What a secret is as a number. -/
theorem bits_c0 : ∀ x : Fin 256, (bits .andNot .u8 ((x.1 : Nat) : Int) 7).toNat % 256 % 8 = 0 := by decide +kernel
theorem bits_c31 : ∀ x : Fin 256, 64 ≤ (bits .or .u8 (bits .andNot .u8 ((x.1 : Nat) : Int) 128) 64).toNat % 256 ∧ (bits .or .u8 (bits .andNot .u8 ((x.1 : Nat) : Int) 128) 64).toNat % 256 < 128 := by decide +kernel
theorem rd_mod8 (s : ByteArray) : ∀ n, rd s (n + 1) % 8 = byt s 0 % 8
  | 0 => by show (0 + byt s 0 * 256 ^ 0) % 8 = _; rw [Nat.pow_zero]; omega
  | n + 1 => by
    rw [rd, Nat.pow_succ, ← Nat.mul_assoc]
    have := rd_mod8 s n
    omega
theorem rd_top (s : ByteArray) : rd s 32 = rd s 31 + byt s 31 * 452312848583266388373324160190187140051835877600158453279131187530910662656 ∧ rd s 31 < 452312848583266388373324160190187140051835877600158453279131187530910662656 := by
  have e : (256 : Nat) ^ 31 = 452312848583266388373324160190187140051835877600158453279131187530910662656 := by decide
  have h := rd_lt s 31
  rw [e] at h
  refine ⟨?_, h⟩
  rw [← e]; rfl
theorem kn_ok (s : ByteArray) : kn s < 2 ^ 255 ∧ ¬ Ed.Lq ∣ kn s := by
  have h0 : byt (sbi (cl s)) 0 % 8 = 0 := by
    rw [byt_sbi _ _ (by omega)]
    have e : cl s 0 = bits .andNot .u8 ((byt s 0 : Nat) : Int) 7 := by unfold cl; rw [if_neg (by omega), if_pos rfl]
    rw [e]
    exact bits_c0 ⟨byt s 0, byt_lt s 0⟩
  have h31 : 64 ≤ byt (sbi (cl s)) 31 ∧ byt (sbi (cl s)) 31 < 128 := by
    rw [byt_sbi _ _ (by omega)]
    have e : cl s 31 = bits .or .u8 (bits .andNot .u8 ((byt s 31 : Nat) : Int) 128) 64 := by unfold cl; rw [if_pos rfl]
    rw [e]
    exact bits_c31 ⟨byt s 31, byt_lt s 31⟩
  have h8 := rd_mod8 (sbi (cl s)) 31
  rw [h0] at h8
  obtain ⟨t1, t2⟩ := rd_top (sbi (cl s))
  have e255 : (2 : Nat) ^ 255 = 57896044618658097711785492504343953926634992332820282019728792003956564819968 := by decide
  unfold kn
  rw [e255]
  generalize rd (sbi (cl s)) (31 + 1) = n at *
  generalize rd (sbi (cl s)) 31 = r at *
  generalize byt (sbi (cl s)) 31 = b at *
  exact ⟨by omega, Ed.clamped (by omega) (by omega) (by omega)⟩
theorem both_keys (a b c : ByteArray) : ladN (kn a) (ladN (kn b) 9) ≠ 0 ∧ ladN (kn b) (ladN (kn a) 9) = ladN (kn a) (ladN (kn b) 9) ∧ ladN (kn c) (ladN (kn a) (ladN (kn b) 9)) ≠ 0 ∧ ladN (kn c) (ladN (kn a) 9) ≠ 0 ∧ ladN (kn b) (ladN (kn c) (ladN (kn a) 9)) = ladN (kn c) (ladN (kn a) (ladN (kn b) 9)) :=
  Ed.both _ _ _ (kn_ok a).1 (kn_ok b).1 (kn_ok c).1 (kn_ok a).2 (kn_ok b).2 (kn_ok c).2
end Go.Proofs.YthbkhbfcocbnoaaDoor
