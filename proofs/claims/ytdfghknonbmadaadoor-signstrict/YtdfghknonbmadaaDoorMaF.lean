/-
  edw: multiples of points, and the order of the base point. No statement is proved here.
-/
import Derived.Test.YtdfghknonbmadaaDoorMaE
import Derived.Test.YtdfghknonbmadaaDoorEwB
namespace Go.Proofs.YtdfghknonbmadaaDoor
namespace Mt
set_option linter.unusedVariables false
set_option linter.unusedSimpArgs false
set_option maxRecDepth 1000000
set_option maxHeartbeats 4000000

namespace Nt
theorem q1224481 : Pr 1224481 := pr_tr 1107 (by decide) (by decide +kernel) (by decide +kernel)
theorem q531581 : Pr 531581 := pr_tr 730 (by decide) (by decide +kernel) (by decide +kernel)
theorem qq3 : Pr 1257559732178653 := pr_of_root (by decide +kernel) fun r hr hd =>
  above hr (two_dvd q1224481 q531581 (by decide +kernel) (pockB (R := 1027014492) 51 q1224481 (by decide +kernel) (by decide +kernel) (by decide +kernel) (by decide +kernel) (by decide +kernel) (by decide +kernel) r hr hd) (pockB (R := 2365697292) 51 q531581 (by decide +kernel) (by decide +kernel) (by decide +kernel) (by decide +kernel) (by decide +kernel) (by decide +kernel) r hr hd)) (by decide +kernel)
theorem qq4 : Pr 4434155615661930479 := pr_of_root (by decide +kernel) fun r hr hd =>
  above hr (pockB (R := 3526) 62 qq3 (by decide +kernel) (by decide +kernel) (by decide +kernel) (by decide +kernel) (by decide +kernel) (by decide +kernel) r hr hd) (by decide +kernel)
theorem qq5 : Pr 172054593956031949258510691 := pr_of_root (by decide +kernel) fun r hr hd =>
  above hr (pockB (R := 38802110) 88 qq4 (by decide +kernel) (by decide +kernel) (by decide +kernel) (by decide +kernel) (by decide +kernel) (by decide +kernel) r hr hd) (by decide +kernel)
theorem qq6 : Pr 19757330305831588566944191468367130476339 := pr_of_root (by decide +kernel) fun r hr hd =>
  above hr (pockB (R := 114831751082918) 134 qq5 (by decide +kernel) (by decide +kernel) (by decide +kernel) (by decide +kernel) (by decide +kernel) (by decide +kernel) r hr hd) (by decide +kernel)
theorem qq7 : Pr 276602624281642239937218680557139826668747 := pr_of_root (by decide +kernel) fun r hr hd =>
  above hr (pockB (R := 14) 138 qq6 (by decide +kernel) (by decide +kernel) (by decide +kernel) (by decide +kernel) (by decide +kernel) (by decide +kernel) r hr hd) (by decide +kernel)
theorem qq8 : Pr 7237005577332262213973186563042994240857116359379907606001950938285454250989 := pr_of_root (by decide +kernel) fun r hr hd =>
  above hr (pockB (R := 26163907866482859529727157400808004) 253 qq7 (by decide +kernel) (by decide +kernel) (by decide +kernel) (by decide +kernel) (by decide +kernel) (by decide +kernel) r hr hd) (by decide +kernel)
end Nt
def Lq : Nat := 7237005577332262213973186563042994240857116359379907606001950938285454250989
theorem Lq_val : Lq = 7237005577332262213973186563042994240857116359379907606001950938285454250989 := rfl
theorem prL : Nt.Pr Lq := Nt.qq8
def zq : Pq := atp 0 1
def bq : Pq := atp Bp.x.val Bp.y.val
theorem zq_is : Is zq Ed.zero := Is.at zero_lt one_lt Ed.fe_0 Ed.fe_1 Ed.zero_on
theorem bq_is : Is bq Bp := Is.at (Ed.val_lt _) (Ed.val_lt _) (Ed.fe_of _) (Ed.fe_of _) Bp_on
theorem bit_up (n m k : Nat) (hk : k < m) : n / 2 ^ (m - (k + 1)) = 2 * (n / 2 ^ (m - k)) + n / 2 ^ (m - 1 - k) % 2 := by
  rw [show m - k = (m - 1 - k) + 1 by omega, show m - (k + 1) = m - 1 - k by omega, Nat.pow_succ, ← Nat.div_div_eq_div_mul]
  generalize n / 2 ^ (m - 1 - k) = z
  omega
namespace Ed
theorem swap4 {a b c d : Pt} (ha : a.On) (hb : b.On) (hc : c.On) (hd : d.On) : add (add a b) (add c d) = add (add a c) (add b d) := by
  rw [add_assoc ha hb (add_on hc hd), ← add_assoc hb hc hd, add_comm b c, add_assoc hc hb hd, ← add_assoc ha hc (add_on hb hd)]
theorem nm_two {Q : Pt} (hQ : Q.On) (k : Nat) : nm (2 * k) Q = add (nm k Q) (nm k Q) := by rw [show 2 * k = k + k by omega, nm_add hQ]
/-- One step: all is doubled, and one of four is added. -/
theorem step {p b : Pt} (hp : p.On) (hb : b.On) (A B α β : Nat) : add (nm (2 * A + α) p) (nm (2 * B + β) b) = add (add (add (nm A p) (nm B b)) (add (nm A p) (nm B b))) (add (nm α p) (nm β b)) := by
  rw [nm_add hp, nm_add hb, nm_two hp, nm_two hb]
  have h1 := nm_on hp A
  have h2 := nm_on hb B
  have h3 := nm_on hp α
  have h4 := nm_on hb β
  rw [swap4 (add_on h1 h1) h3 (add_on h2 h2) h4, swap4 h1 h1 h2 h2]
end Ed
/-- The four that are added, as points. -/
def r4 (q : Pq) (i : Nat) : Pq := if i = 0 then zq else if i = 1 then q else if i = 2 then bq else pls q (rdy bq)
theorem r4_is {q : Pq} {p : Ed.Pt} (h : Is q p) {α β : Nat} (ha : α = 0 ∨ α = 1) (hb : β = 0 ∨ β = 1) : Is (r4 q (2 * β + α)) (Ed.add (Ed.nm α p) (Ed.nm β Bp)) := by
  have z := Ed.zero_on
  have e1 : Ed.nm 1 p = p := Ed.nm_one h.on
  have e2 : Ed.nm 1 Bp = Bp := Ed.nm_one Bp_on
  have e0 : ∀ P, Ed.nm 0 P = Ed.zero := fun _ => rfl
  rcases ha with rfl | rfl <;> rcases hb with rfl | rfl
  · rw [e0, e0, Ed.add_zero z]; exact zq_is
  · rw [e0, e2, Ed.zero_add Bp_on]; exact bq_is
  · rw [e1, e0, Ed.add_zero h.on]; exact h
  · rw [e1, e2]; exact h.pls bq_is
/-- Where the sum stands behind k steps. -/
def st4 (q : Pq) (α β : Nat → Nat) : Nat → Pq
  | 0 => zq
  | k + 1 => pls (dbq (st4 q α β k)) (rdy (r4 q (2 * β k + α k)))
theorem st4_is {q : Pq} {p : Ed.Pt} (h : Is q p) (a b : Nat) (ha : a < 2 ^ 253) (hb : b < 2 ^ 253) : ∀ k, k ≤ 253 → Is (st4 q (fun k => a / 2 ^ (252 - k) % 2) (fun k => b / 2 ^ (252 - k) % 2) k) (Ed.add (Ed.nm (a / 2 ^ (253 - k)) p) (Ed.nm (b / 2 ^ (253 - k)) Bp))
  | 0, _ => by
    rw [Nat.sub_zero, Nat.div_eq_of_lt ha, Nat.div_eq_of_lt hb]
    have e : Ed.add (Ed.nm 0 p) (Ed.nm 0 Bp) = Ed.zero := Ed.add_zero Ed.zero_on
    rw [e]; exact zq_is
  | k + 1, hk => by
    have ih := st4_is h a b ha hb k (by omega)
    rw [bit_up a 253 k (by omega), bit_up b 253 k (by omega), Ed.step h.on Bp_on]
    exact ih.dbl.pls (r4_is h (Nat.mod_two_eq_zero_or_one _) (Nat.mod_two_eq_zero_or_one _))
/-- Both, as a point. -/
def bt4 (q : Pq) (a b : Nat) : Pq := st4 q (fun k => a / 2 ^ (252 - k) % 2) (fun k => b / 2 ^ (252 - k) % 2) 253
theorem bt4_is {q : Pq} {p : Ed.Pt} (h : Is q p) {a b : Nat} (ha : a < 2 ^ 253) (hb : b < 2 ^ 253) : Is (bt4 q a b) (Ed.add (Ed.nm a p) (Ed.nm b Bp)) := by
  have := st4_is h a b ha hb 253 (Nat.le_refl _)
  rw [Nat.sub_self, Nat.pow_zero, Nat.div_one, Nat.div_one] at this
  exact this
theorem L_253 {a : Nat} (h : a < Lq) : a < 2 ^ 253 := by
  have : Lq < 2 ^ 253 := by rw [Lq_val]; decide
  omega
theorem L_x : (bt4 bq (Lq - 1) 1).x = 0 := by decide +kernel
theorem L_y : (bt4 bq (Lq - 1) 1).y = (bt4 bq (Lq - 1) 1).z := by decide +kernel
theorem Is.zero_of {q : Pq} {p : Ed.Pt} (h : Is q p) (hx : q.x = 0) (hy : q.y = q.z) : p = Ed.zero := by
  have h1 := h.x
  have h2 := h.y
  rw [hx] at h1
  rw [hy] at h2
  have e1 : p.x = 0 := by
    have h0 : Ed.fe 0 = 0 := rfl
    rw [h0] at h1
    rcases Ed.dom h1.symm with c | c
    · exact c
    · exact absurd c h.z
  have e2 : p.y = 1 := by
    refine Ed.cancel h.z ?_
    grind
  cases p
  simp only at e1 e2
  subst e1 e2
  rfl
theorem L_zero : Ed.nm Lq Bp = Ed.zero := by
  have l1 : Lq - 1 < Lq := by rw [Lq_val]; decide
  have l2 : 1 < Lq := by rw [Lq_val]; decide
  have h := (bt4_is bq_is (L_253 l1) (L_253 l2)).zero_of L_x L_y
  rw [← Ed.nm_add Bp_on, show Lq - 1 + 1 = Lq by omega] at h
  exact h
theorem nm_zero : ∀ n, Ed.nm n Ed.zero = Ed.zero
  | 0 => rfl
  | n + 1 => by
    rw [Ed.nm_add Ed.zero_on, nm_zero n, Ed.nm_one Ed.zero_on]
    exact Ed.add_zero Ed.zero_on
theorem nm_mod (n : Nat) : Ed.nm (n % Lq) Bp = Ed.nm n Bp := by
  have h : Ed.nm n Bp = Ed.nm (n / Lq * Lq + n % Lq) Bp := by rw [Nat.mul_comm, Nat.div_add_mod]
  rw [h, Ed.nm_add Bp_on, Ed.nm_mul Bp_on, L_zero, nm_zero, Ed.zero_add (Ed.nm_on Bp_on _)]

theorem Bp_ne : Bp ≠ Ed.zero := fun h => by
  have : Bp.x = Ed.zero.x := by rw [h]
  exact absurd this (by decide)
/-- Whose multiple is the zero point is a multiple of the order. -/
theorem nm_dvd {n : Nat} (h : Ed.nm n Bp = Ed.zero) : Lq ∣ n := by
  apply Classical.byContradiction
  intro hd
  have hc := prL.cop hd
  -- some multiple of n is one more than a multiple of the order
  have hf : n ^ (Lq - 1) % Lq = 1 := Nt.fermat1 prL hd
  have h2 : 2 < Lq := by rw [Lq_val]; decide
  have e : n ^ (Lq - 1) = n ^ (Lq - 2) * n := by rw [← Nat.pow_succ, show (Lq - 2).succ = Lq - 1 by omega]
  have h1 : Ed.nm 1 Bp = Ed.zero := by
    rw [← hf, nm_mod, e, Ed.nm_mul Bp_on, h, nm_zero]
  rw [Ed.nm_one Bp_on] at h1
  exact Bp_ne h1
end Mt
end Go.Proofs.YtdfghknonbmadaaDoor
namespace Go.Proofs.YtdfghknonbmadaaDoor
open Go.RowKit
set_option linter.unusedVariables false
set_option linter.unusedSimpArgs false
set_option maxRecDepth 100000

theorem ex16 {p : W6} (h : p.length = 16) : ∃ a b c d e f g i j k l m n o q r : B6, p = [a, b, c, d, e, f, g, i, j, k, l, m, n, o, q, r] := by
  match p, h with
  | [a, b, c, d, e, f, g, i, j, k, l, m, n, o, q, r], _ => exact ⟨a, b, c, d, e, f, g, i, j, k, l, m, n, o, q, r, rfl⟩
theorem pokP1 {E : Env} (hG : E.G = GE) (hE : EnvOk Tryd.prog E) {f : Nat} {F : W6 → W6} (h : ∀ x y z t : W6, vf Tryd.prog E noL f [.a64 (p4 x y z t)] GE (fun r _ => r = .a64 (p16 (F (p4 x y z t)))) = (SV.a64 (p16 (F (p4 x y z t))) = SV.a64 (p16 (F (p4 x y z t))))) : POk Tryd.prog GE f (cP1 F) := by
  intro args acs r hh β M w hR hw ha
  unfold cP1 at hh
  split at hh
  · rename_i p
    simp only [Option.some.injEq, Prod.mk.injEq] at hh
    obtain ⟨h1, rfl⟩ := hh
    obtain ⟨a, b, c, d, e, f, g, i, j, k, l, m, n, o, q, r, rfl⟩ := ex16 (Nat.eq_of_beq_eq_true h1)
    exact pokE hG hE (h [a, b, c, d] [e, f, g, i] [j, k, l, m] [n, o, q, r]) rfl rfl rfl hR
  · cases hh
theorem pokP2 {E : Env} (hG : E.G = GE) (hE : EnvOk Tryd.prog E) {f : Nat} {F : W6 → W6 → W6} (h : ∀ x y z t x' y' z' t' : W6, vf Tryd.prog E noL f [.a64 (p4 x y z t), .a64 (p4 x' y' z' t')] GE (fun r _ => r = .a64 (p16 (F (p4 x y z t) (p4 x' y' z' t')))) = (SV.a64 (p16 (F (p4 x y z t) (p4 x' y' z' t'))) = SV.a64 (p16 (F (p4 x y z t) (p4 x' y' z' t'))))) : POk Tryd.prog GE f (cP2 F) := by
  intro args acs r hh β M w hR hw ha
  unfold cP2 at hh
  split at hh
  · rename_i p p'
    simp only [Option.some.injEq, Prod.mk.injEq, Bool.and_eq_true] at hh
    obtain ⟨⟨h1, h2⟩, rfl⟩ := hh
    obtain ⟨a, b, c, d, e, f, g, i, j, k, l, m, n, o, q, r, rfl⟩ := ex16 (Nat.eq_of_beq_eq_true h1)
    obtain ⟨a', b', c', d', e', f', g', i', j', k', l', m', n', o', q', r', rfl⟩ := ex16 (Nat.eq_of_beq_eq_true h2)
    exact pokE hG hE (h [a, b, c, d] [e, f, g, i] [j, k, l, m] [n, o, q, r] [a', b', c', d'] [e', f', g', i'] [j', k', l', m'] [n', o', q', r']) rfl rfl rfl hR
  · cases hh
section
variable (A S M : W6 → W6 → W6) (E : W6 → W6 → Bool) (I : W6 → W6) (Z : BitVec 32 → W6) (K : List (BitVec 8) → W6) (J : W6 → W6 → W6 → W6 → W6)
def rdF (A S M : W6 → W6 → W6) (K : List (BitVec 8) → W6) (p : W6) : W6 := rdW A S M K (el p 0) (el p 1) (el p 2) (el p 3)
theorem readyP (x y z t : W6) : vf Tryd.prog (E5 A S M E I Z K J) noL 39 [.a64 (p4 x y z t)] GE (fun r _ => r = .a64 (p16 (rdF A S M K (p4 x y z t)))) = (SV.a64 (p16 (rdF A S M K (p4 x y z t))) = SV.a64 (p16 (rdF A S M K (p4 x y z t)))) := by kernel_rfl
def dbF (A S M : W6 → W6 → W6) (J : W6 → W6 → W6 → W6 → W6) (p : W6) : W6 := dbW A S M J (el p 0) (el p 1) (el p 2) (el p 3)
theorem doubleP (x y z t : W6) : vf Tryd.prog (E5 A S M E I Z K J) noL 60 [.a64 (p4 x y z t)] GE (fun r _ => r = .a64 (p16 (dbF A S M J (p4 x y z t)))) = (SV.a64 (p16 (dbF A S M J (p4 x y z t))) = SV.a64 (p16 (dbF A S M J (p4 x y z t)))) := by kernel_rfl
def plF (A S M : W6 → W6 → W6) (J : W6 → W6 → W6 → W6 → W6) (p q : W6) : W6 := psW A S M J (el p 0) (el p 1) (el p 2) (el p 3) (el q 0) (el q 1) (el q 2) (el q 3)
theorem plusP (x y z t m n o q : W6) : vf Tryd.prog (E5 A S M E I Z K J) noL 38 [.a64 (p4 x y z t), .a64 (p4 m n o q)] GE (fun r _ => r = .a64 (p16 (plF A S M J (p4 x y z t) (p4 m n o q)))) = (SV.a64 (p16 (plF A S M J (p4 x y z t) (p4 m n o q))) = SV.a64 (p16 (plF A S M J (p4 x y z t) (p4 m n o q)))) := by kernel_rfl
end
theorem ready_gen (A S M : W6 → W6 → W6) (E : W6 → W6 → Bool) (I : W6 → W6) (Z : BitVec 32 → W6) (K : List (BitVec 8) → W6) (J : W6 → W6 → W6 → W6 → W6) (hE : EnvOk Tryd.prog (E5 A S M E I Z K J)) : POk Tryd.prog GE 39 (cP1 (rdF A S M K)) := pokP1 (E := E5 A S M E I Z K J) rfl hE (readyP A S M E I Z K J)
theorem double_gen (A S M : W6 → W6 → W6) (E : W6 → W6 → Bool) (I : W6 → W6) (Z : BitVec 32 → W6) (K : List (BitVec 8) → W6) (J : W6 → W6 → W6 → W6 → W6) (hE : EnvOk Tryd.prog (E5 A S M E I Z K J)) : POk Tryd.prog GE 60 (cP1 (dbF A S M J)) := pokP1 (E := E5 A S M E I Z K J) rfl hE (doubleP A S M E I Z K J)
theorem plusP_gen (A S M : W6 → W6 → W6) (E : W6 → W6 → Bool) (I : W6 → W6) (Z : BitVec 32 → W6) (K : List (BitVec 8) → W6) (J : W6 → W6 → W6 → W6 → W6) (hE : EnvOk Tryd.prog (E5 A S M E I Z K J)) : POk Tryd.prog GE 38 (cP2 (plF A S M J)) := pokP2 (E := E5 A S M E I Z K J) rfl hE (plusP A S M E I Z K J)
end Go.Proofs.YtdfghknonbmadaaDoor
