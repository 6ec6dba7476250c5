/-
  The order of the base point is a prime; numbers as field elements; what the ladder makes. No statement is proved here.
-/
import Derived.Test.YthbkhbfcocbnoaaDoorEdC
import Derived.Test.YthbkhbfcocbnoaaDoorMonJ
namespace Go.Proofs.YthbkhbfcocbnoaaDoor
set_option linter.unusedVariables false
set_option maxRecDepth 100000
namespace Nt
theorem q1224481 : Pr 1224481 := pr_tr 1107 (by decide) (by decide +kernel) (by decide +kernel)
theorem q531581 : Pr 531581 := pr_tr 730 (by decide) (by decide +kernel) (by decide +kernel)
theorem qq3 : Pr 1257559732178653 := pr_of_root (by decide +kernel) fun r hr hd =>
  above hr (two_dvd q1224481 q531581 (by decide +kernel) (pockB (R := 1027014492) 51 q1224481 (by decide +kernel) (by decide +kernel) (by decide +kernel) (by decide +kernel) (by decide +kernel) (by decide +kernel) r hr hd) (pockB (R := 2365697292) 51 q531581 (by decide +kernel) (by decide +kernel) (by decide +kernel) (by decide +kernel) (by decide +kernel) (by decide +kernel) r hr hd)) (by decide +kernel)
theorem qq4 : Pr 4434155615661930479 := pr_of_root (by decide +kernel) fun r hr hd =>
  above hr (pockB (R := 3526) 62 qq3 (by decide +kernel) (by decide +kernel) (by decide +kernel) (by decide +kernel) (by decide +kernel) (by decide +kernel) r hr hd) (by decide +kernel)
theorem qq5 : Pr 172054593956031949258510691 := pr_of_root (by decide +kernel) fun r hr hd =>
  above hr (pockB (R := 38802110) 88 qq4 (by decide +kernel) (by decide +kernel) (by decide +kernel) (by decide +kernel) (by decide +kernel) (by decide +kernel) r hr hd) (by decide +kernel)
theorem qq6 : Pr 19757330305831588566944191468367130476339 := pr_of_root (by decide +kernel) fun r hr hd =>
  above hr (pockB (R := 114831751082918) 134 qq5 (by decide +kernel) (by decide +kernel) (by decide +kernel) (by decide +kernel) (by decide +kernel) (by decide +kernel) r hr hd) (by decide +kernel)
theorem qq7 : Pr 276602624281642239937218680557139826668747 := pr_of_root (by decide +kernel) fun r hr hd =>
  above hr (pockB (R := 14) 138 qq6 (by decide +kernel) (by decide +kernel) (by decide +kernel) (by decide +kernel) (by decide +kernel) (by decide +kernel) r hr hd) (by decide +kernel)
theorem qq8 : Pr 7237005577332262213973186563042994240857116359379907606001950938285454250989 := pr_of_root (by decide +kernel) fun r hr hd =>
  above hr (pockB (R := 26163907866482859529727157400808004) 253 qq7 (by decide +kernel) (by decide +kernel) (by decide +kernel) (by decide +kernel) (by decide +kernel) (by decide +kernel) r hr hd) (by decide +kernel)
end Nt
namespace Ed
def Lq : Nat := 7237005577332262213973186563042994240857116359379907606001950938285454250989
theorem Lq_val : Lq = 7237005577332262213973186563042994240857116359379907606001950938285454250989 := rfl
theorem prL : Nt.Pr Lq := Nt.qq8
/-- A number in the field. -/
def fe (n : Nat) : F := Fin.ofNat _ n
theorem fe_val (n : Nat) : (fe n).val = n % Nt.P := by rw [Nt.P_val]; rfl
theorem fe_inj {a b : Nat} (ha : a < Nt.P) (hb : b < Nt.P) (h : fe a = fe b) : a = b := by
  have := congrArg Fin.val h
  rw [fe_val, fe_val, Nat.mod_eq_of_lt ha, Nat.mod_eq_of_lt hb] at this
  exact this
theorem val_P (a b : F) : (a * b).val = a.val * b.val % Nt.P := by rw [val_mul]; exact congrArg (fun x => a.val * b.val % x) Nt.P_val.symm
theorem fe_mul (a b : Nat) : fe (mq a b) = fe a * fe b := by
  apply Fin.ext
  rw [val_P, fe_val, fe_val, fe_val]
  unfold mq
  rw [Nat.mod_mod, Nat.mul_mod]
theorem add_val (a b : F) : (a + b).val = (a.val + b.val) % Nt.P := by rw [Fin.val_add]; exact congrArg (fun x => (a.val + b.val) % x) Nt.P_val.symm
theorem sub_val (a b : F) : (a - b).val = (Nt.P - b.val + a.val) % Nt.P := by
  have h := Fin.sub_def a b
  rw [h]
  exact (congrArg (fun x => (x - b.val + a.val) % x) Nt.P_val.symm)
theorem fe_add (a b : Nat) : fe (ad a b) = fe a + fe b := by
  apply Fin.ext
  rw [add_val, fe_val, fe_val, fe_val]
  unfold ad
  rw [Nat.mod_mod, Nat.add_mod]
theorem sub_gen (a b p : Nat) (hb : b < p) : (a + p - b) % p % p = (p - b % p + a % p) % p := by
  rw [Nat.mod_mod, Nat.mod_eq_of_lt hb, show a + p - b = (p - b) + a by omega, Nat.add_mod (p - b) a, Nat.add_mod (p - b) (a % p), Nat.mod_mod]
theorem fe_sub (a b : Nat) (hb : b < Nt.P) : fe (sb a b) = fe a - fe b := by
  apply Fin.ext
  rw [sub_val, fe_val, fe_val, fe_val]
  unfold sb
  exact sub_gen a b Nt.P hb
theorem pow_gen (a e p : Nat) : a ^ e % p % p = (a % p) ^ e % p := by rw [Nat.mod_mod, Nat.pow_mod]
theorem fe_iv (a : Nat) : fe (iv a) = inv (fe a) := by
  apply Fin.ext
  rw [val_inv, fe_val, fe_val]
  unfold iv ivn
  exact pow_gen a _ _
theorem fe_1 : fe 1 = 1 := rfl
theorem fe_0 : fe 0 = 0 := rfl
theorem fe_k : fe 121665 = 121665 := by decide +kernel
theorem fe_9 : fe 9 = 9 := by decide +kernel
theorem fe_dx (A B : Nat) (hB : B < Nt.P) : fe (dx A B) = ((fe A + fe B) * (fe A + fe B)) * ((fe A - fe B) * (fe A - fe B)) := by
  unfold dx
  rw [fe_mul, fe_mul, fe_mul, fe_add, fe_sub _ _ hB]
theorem fe_dr (A B : Nat) (hB : B < Nt.P) : fe (dr A B) = (fe A + fe B) * (fe A + fe B) - (fe A - fe B) * (fe A - fe B) := by
  unfold dr
  rw [fe_sub _ _ (ml_lt _ _), fe_mul, fe_mul, fe_add, fe_sub _ _ hB]
theorem fe_dz (A B : Nat) (hB : B < Nt.P) : fe (dz A B) = ((fe A + fe B) * (fe A + fe B) - (fe A - fe B) * (fe A - fe B)) * ((fe A + fe B) * (fe A + fe B) + ((fe A + fe B) * (fe A + fe B) - (fe A - fe B) * (fe A - fe B)) * 121665) := by
  unfold dz
  rw [fe_mul, fe_dr _ _ hB, fe_add, fe_mul, fe_mul, fe_add, fe_dr _ _ hB, fe_k]
theorem fe_s1 (A B C E : Nat) (hE : E < Nt.P) : fe (s1 A B C E) = (fe C - fe E) * (fe A + fe B) := by
  unfold s1
  rw [fe_mul, fe_add, fe_sub _ _ hE]
theorem fe_s2 (A B C E : Nat) (hB : B < Nt.P) : fe (s2 A B C E) = (fe C + fe E) * (fe A - fe B) := by
  unfold s2
  rw [fe_mul, fe_add, fe_sub _ _ hB]
theorem fe_sx (A B C E : Nat) (hB : B < Nt.P) (hE : E < Nt.P) : fe (sx A B C E) = ((fe C - fe E) * (fe A + fe B) + (fe C + fe E) * (fe A - fe B)) * ((fe C - fe E) * (fe A + fe B) + (fe C + fe E) * (fe A - fe B)) := by
  unfold sx
  rw [fe_mul, fe_add, fe_s1 _ _ _ _ hE, fe_s2 _ _ _ _ hB]
theorem fe_sz (X A B C E : Nat) (hB : B < Nt.P) (hE : E < Nt.P) : fe (sz X A B C E) = ((fe C - fe E) * (fe A + fe B) - (fe C + fe E) * (fe A - fe B)) * ((fe C - fe E) * (fe A + fe B) - (fe C + fe E) * (fe A - fe B)) * fe X := by
  unfold sz sy
  rw [fe_mul, fe_mul, fe_sub _ _ (s2_lt _ _ _ _), fe_s1 _ _ _ _ hE, fe_s2 _ _ _ _ hB]
theorem rnN_ok (n : Nat) {X : Nat} (hX : X < Nt.P) : ∀ k, (rnN n X k).Ok
  | 0 => ⟨one_lt, zero_lt, hX, one_lt⟩
  | k + 1 => St.Ok.cl X
/-- Where the ladder stands: on m times the point and on the next multiple, the other way round if it is turned. -/
structure At (Q : Pt) (m : Nat) (s : St) : Prop where
  t : s.t ≤ 1
  low : s.t = 0 → Rep (fe s.a) (fe s.b) (nm m Q) ∧ Rep (fe s.c) (fe s.e) (nm (m + 1) Q)
  high : s.t = 1 → Rep (fe s.a) (fe s.b) (nm (m + 1) Q) ∧ Rep (fe s.c) (fe s.e) (nm m Q)
theorem At.tn {Q : Pt} {m : Nat} {s : St} (h : At Q m s) (bit : Nat) (hb : bit ≤ 1) : At Q m (s.tn bit) := by
  have ht := h.t
  refine ⟨hb, fun e => ?_, fun e => ?_⟩
  · have e' : bit = 0 := e
    subst e'
    unfold St.tn
    by_cases h0 : 0 = s.t
    · simp only [← h0, if_true]
      exact h.low h0.symm
    · simp only [h0, if_false]
      have := h.high (by omega)
      exact ⟨this.2, this.1⟩
  · have e' : bit = 1 := e
    subst e'
    unfold St.tn
    by_cases h0 : 1 = s.t
    · simp only [← h0, if_true]
      exact h.high h0.symm
    · simp only [h0, if_false]
      have := h.low (by omega)
      exact ⟨this.2, this.1⟩
theorem diff_m {Q : Pt} (hQ : Q.On) (m : Nat) : Diff (nm m Q) (nm (m + 1) Q) Q.y := diff_of (nm_on hQ m) hQ rfl
theorem rep_dx {a b : Nat} {p r : Pt} (hb : b < Nt.P) (hp : p.On) (h : Rep (fe a) (fe b) p) (hr : r = add p p) : Rep (fe (dx a b)) (fe (dz a b)) r := by
  rw [fe_dx _ _ hb, fe_dz _ _ hb, hr]
  generalize fe a = A at *
  generalize fe b = B at *
  exact h.dbl hp
theorem rep_sx {X a b c e : Nat} {p q r : Pt} {y : F} (hb : b < Nt.P) (he : e < Nt.P) (hp : p.On) (hq : q.On) (h1 : Rep (fe a) (fe b) p) (h2 : Rep (fe c) (fe e) q) (hx : fe X - 1 = y * (fe X + 1)) (hx0 : fe X ≠ 0) (hD : Diff p q y) (hr : r = add p q) : Rep (fe (sx a b c e)) (fe (sz X a b c e)) r := by
  rw [fe_sx _ _ _ _ hb he, fe_sz _ _ _ _ _ hb he, hr]
  generalize fe a = A at *
  generalize fe b = B at *
  generalize fe c = C at *
  generalize fe e = E at *
  generalize fe X = x at *
  exact h1.sum h2 hp hq hx hx0 hD
theorem nm_two {Q : Pt} (hQ : Q.On) (k : Nat) : nm (2 * k) Q = add (nm k Q) (nm k Q) := by rw [show 2 * k = k + k by omega, nm_add hQ]
theorem nm_odd {Q : Pt} (hQ : Q.On) (k : Nat) : nm (2 * k + 1) Q = add (nm k Q) (nm (k + 1) Q) := by rw [show 2 * k + 1 = k + (k + 1) by omega, nm_add hQ]
theorem nm_odd2 {Q : Pt} (hQ : Q.On) (k : Nat) : nm (2 * k + 1 + 1) Q = add (nm (k + 1) Q) (nm (k + 1) Q) := by rw [show 2 * k + 1 + 1 = 2 * (k + 1) by omega, nm_two hQ]
theorem at_low {Q : Pt} {m a b c e t : Nat} (ht : t = 0) (h1 : Rep (fe a) (fe b) (nm m Q)) (h2 : Rep (fe c) (fe e) (nm (m + 1) Q)) : At Q m ⟨a, b, c, e, t⟩ := ⟨by show t ≤ 1; omega, fun _ => ⟨h1, h2⟩, fun k => by have k' : t = 1 := k; omega⟩
theorem at_high {Q : Pt} {m a b c e t : Nat} (ht : t = 1) (h1 : Rep (fe a) (fe b) (nm (m + 1) Q)) (h2 : Rep (fe c) (fe e) (nm m Q)) : At Q m ⟨a, b, c, e, t⟩ := ⟨by show t ≤ 1; omega, fun k => by have k' : t = 0 := k; omega, fun _ => ⟨h1, h2⟩⟩
theorem At.cl {Q : Pt} {m X : Nat} {s : St} (h : At Q m s) (hok : s.Ok) (hQ : Q.On) (hx : fe X - 1 = Q.y * (fe X + 1)) (hx0 : fe X ≠ 0) : At Q (2 * m + s.t) (St.cl X s) := by
  have ht := h.t
  by_cases e' : s.t = 0
  · obtain ⟨r1, r2⟩ := h.low e'
    unfold St.cl
    rw [e', Nat.add_zero]
    exact at_low rfl (rep_dx hok.b (nm_on hQ m) r1 (nm_two hQ m)) (rep_sx hok.b hok.e (nm_on hQ m) (nm_on hQ (m + 1)) r1 r2 hx hx0 (diff_m hQ m) (nm_odd hQ m))
  · have e' : s.t = 1 := by omega
    obtain ⟨r1, r2⟩ := h.high e'
    unfold St.cl
    rw [e']
    exact at_high rfl (rep_dx hok.b (nm_on hQ (m + 1)) r1 (nm_odd2 hQ m)) (rep_sx hok.b hok.e (nm_on hQ (m + 1)) (nm_on hQ m) r1 r2 hx hx0 (diff_m hQ m).comm (by rw [nm_odd hQ, add_comm]))
theorem tn_t (s : St) (bit : Nat) : (s.tn bit).t = bit := rfl
theorem bit_up (n k : Nat) (hk : k < 255) : n / 2 ^ (255 - (k + 1)) = 2 * (n / 2 ^ (255 - k)) + n / 2 ^ (254 - k) % 2 := by
  rw [show 255 - k = (254 - k) + 1 by omega, show 255 - (k + 1) = 254 - k by omega, Nat.pow_succ, ← Nat.div_div_eq_div_mul]
  generalize n / 2 ^ (254 - k) = z
  omega
theorem rnN_at {Q : Pt} {X : Nat} (n : Nat) (hn : n < 2 ^ 255) (hX : X < Nt.P) (hQ : Q.On) (hr : Rep (fe X) 1 Q) (hx0 : fe X ≠ 0) : ∀ k, k ≤ 255 → At Q (n / 2 ^ (255 - k)) (rnN n X k)
  | 0, _ => by
    rw [show n / 2 ^ (255 - 0) = 0 from Nat.div_eq_of_lt hn]
    refine ⟨Nat.zero_le _, fun _ => ⟨?_, ?_⟩, fun e => by cases e⟩
    · show Rep (fe 1) (fe 0) zero
      rw [fe_1, fe_0]
      exact ⟨by show (1 : F) - 0 = 1 * (1 + 0); decide, by decide⟩
    · show Rep (fe X) (fe 1) (nm 1 Q)
      rw [fe_1, nm_one hQ]
      exact hr
  | k + 1, h => by
    have ih := rnN_at n hn hX hQ hr hx0 k (by omega)
    have h2 := (ih.tn (n / 2 ^ (254 - k) % 2) (by omega)).cl ((rnN_ok n hX k).tn _) hQ hr.eq hx0
    rw [tn_t, ← bit_up n k (by omega)] at h2
    exact h2
/-- What the ladder makes is the first coordinate of the multiple. -/
theorem ladN_U {Q : Pt} {X : Nat} (n : Nat) (hn : n < 2 ^ 255) (hX : X < Nt.P) (hQ : Q.On) (hr : Rep (fe X) 1 Q) (hx0 : fe X ≠ 0) : fe (ladN n X) = U (nm n Q) := by
  have h := (rnN_at n hn hX hQ hr hx0 255 (Nat.le_refl _)).tn 0 (by omega)
  rw [Nat.sub_self, Nat.pow_zero, Nat.div_one] at h
  unfold ladN
  rw [fe_mul, fe_iv]
  exact (h.low rfl).1.val
theorem ladN_rep {Q : Pt} {X : Nat} (n : Nat) (hn : n < 2 ^ 255) (hX : X < Nt.P) (hQ : Q.On) (hr : Rep (fe X) 1 Q) (hx0 : fe X ≠ 0) : Rep (fe ((rnN n X 255).tn 0).a) (fe ((rnN n X 255).tn 0).b) (nm n Q) := by
  have h := (rnN_at n hn hX hQ hr hx0 255 (Nat.le_refl _)).tn 0 (by omega)
  rw [Nat.sub_self, Nat.pow_zero, Nat.div_one] at h
  exact (h.low rfl).1
/-- The base point. -/
def Bp : Pt := ⟨15112221349535400772501151409588531511454012693041857206046113283949847762202, 46316835694926478169428394003475163141307993866256225615783033603165251855960⟩
theorem Bp_on : Bp.On := by show on _ _; unfold on; decide +kernel
theorem Bp_rep : Rep (fe 9) 1 Bp := ⟨by decide +kernel, by decide +kernel⟩
theorem nine_ne : fe 9 ≠ 0 := by decide +kernel
theorem L_b : ((rnN 7237005577332262213973186563042994240857116359379907606001950938285454250989 9 255).tn 0).b = 0 := by decide +kernel
theorem L_zero : nm Lq Bp = zero := by
  have h := ladN_rep Lq (by rw [Lq_val]; decide +kernel) nine_lt Bp_on Bp_rep nine_ne
  have hb : ((rnN Lq 9 255).tn 0).b = 0 := L_b
  rw [hb, fe_0] at h
  have h1 := h.eq
  have h2 := h.ne
  have h3 : fe ((rnN Lq 9 255).tn 0).a ≠ 0 := fun e => h2 (by rw [e]; decide)
  refine y_one (nm_on Bp_on _) ?_
  refine (cancel h3 ?_)
  grind -lia
end Ed
end Go.Proofs.YthbkhbfcocbnoaaDoor
