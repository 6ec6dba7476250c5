/-
  Multiples of points: what both, Both, and the document's Times and Both make. No statement is proved here.
-/
import Derived.Test.YtpdagpjjlnncbaaDoorEdwM
namespace Go.Proofs.YtpdagpjjlnncbaaDoor
open Go.RowKit Go.Lib Go.BigFrame
set_option linter.unusedVariables false
set_option linter.unusedSimpArgs false
set_option maxRecDepth 1000000
set_option maxHeartbeats 1000000

/-- Short names of what the walks rewrite by. -/
theorem pA {α : Type} (l : List α) (i : Nat) (x : α) : l.toArray.setIfInBounds i x = (l.set i x).toArray := List.setIfInBounds_toArray l i x
theorem pO {α : Type} (a b : α) (l : List α) : (a :: l).set 0 b = b :: l := rfl
theorem pS {α : Type} (a b : α) (l : List α) (n : Nat) : (a :: l).set (n + 1) b = a :: l.set n b := rfl
theorem bit_by32 (v i : Nat) (hi : i < 256) : bx (Ord.by32 v) i = v / 2 ^ i % 2 := by
  have h1 : byt (Ord.by32 v) (i / 8) = vb v (i / 8) := byt_by32 v (i / 8) (by omega)
  unfold bx
  rw [h1]
  unfold vb
  have h2 := dig_bit (k := 8) (r := i % 8) (by omega) v (i / 8)
  rw [Nat.pow_mul, show 8 * (i / 8) + i % 8 = i by omega] at h2
  exact h2
theorem bit_bn (v i : Nat) : bn v i = v / 2 ^ i % 2 := by
  unfold bn Ord.vb
  have h2 := dig_bit (k := 8) (r := i % 8) (by omega) v (i / 8)
  rw [Nat.pow_mul, show 8 * (i / 8) + i % 8 = i by omega] at h2
  exact h2
theorem bit_up (n m k : Nat) (hk : k < m) : n / 2 ^ (m - (k + 1)) = 2 * (n / 2 ^ (m - k)) + n / 2 ^ (m - 1 - k) % 2 := by
  rw [show m - k = (m - 1 - k) + 1 by omega, show m - (k + 1) = m - 1 - k by omega, Nat.pow_succ, ← Nat.div_div_eq_div_mul]
  generalize n / 2 ^ (m - 1 - k) = z
  omega
namespace Ed
theorem swap4 {a b c d : Pt} (ha : a.On) (hb : b.On) (hc : c.On) (hd : d.On) : add (add a b) (add c d) = add (add a c) (add b d) := by
  rw [add_assoc ha hb (add_on hc hd), ← add_assoc hb hc hd, add_comm b c, add_assoc hc hb hd, ← add_assoc ha hc (add_on hb hd)]
theorem nm_two {Q : Pt} (hQ : Q.On) (k : Nat) : nm (2 * k) Q = add (nm k Q) (nm k Q) := by rw [show 2 * k = k + k by omega, nm_add hQ]
/-- One step: all is doubled, and one of four is added. -/
theorem step {p b : Pt} (hp : p.On) (hb : b.On) (A B α β : Nat) : add (nm (2 * A + α) p) (nm (2 * B + β) b) = add (add (add (nm A p) (nm B b)) (add (nm A p) (nm B b))) (add (nm α p) (nm β b)) := by
  rw [nm_add hp, nm_add hb, nm_two hp, nm_two hb]
  have h1 := nm_on hp A
  have h2 := nm_on hb B
  have h3 := nm_on hp α
  have h4 := nm_on hb β
  rw [swap4 (add_on h1 h1) h3 (add_on h2 h2) h4, swap4 h1 h1 h2 h2]
end Ed
section
variable {Z : World → Prop}
/-- The four that are added, as points. -/
def r4 (q : Pq) (i : Nat) : Pq := if i = 0 then zq else if i = 1 then q else if i = 2 then bq else pls q (rdy bq)
theorem r4_is {q : Pq} {p : Ed.Pt} (h : Is q p) {α β : Nat} (ha : α = 0 ∨ α = 1) (hb : β = 0 ∨ β = 1) : Is (r4 q (2 * β + α)) (Ed.add (Ed.nm α p) (Ed.nm β Bp)) := by
  have z := Ed.zero_on
  have e1 : Ed.nm 1 p = p := Ed.nm_one h.on
  have e2 : Ed.nm 1 Bp = Bp := Ed.nm_one Bp_on
  have e0 : ∀ P, Ed.nm 0 P = Ed.zero := fun _ => rfl
  rcases ha with rfl | rfl <;> rcases hb with rfl | rfl
  · rw [e0, e0, Ed.add_zero z]; exact zq_is
  · rw [e0, e2, Ed.zero_add Bp_on]; exact bq_is
  · rw [e1, e0, Ed.add_zero h.on]; exact h
  · rw [e1, e2]; exact h.pls bq_is
/-- Where the sum stands behind k steps. -/
def st4 (q : Pq) (α β : Nat → Nat) : Nat → Pq
  | 0 => zq
  | k + 1 => pls (dbq (st4 q α β k)) (rdy (r4 q (2 * β k + α k)))
theorem st4_is {q : Pq} {p : Ed.Pt} (h : Is q p) (a b : Nat) (ha : a < 2 ^ 253) (hb : b < 2 ^ 253) : ∀ k, k ≤ 253 → Is (st4 q (fun k => a / 2 ^ (252 - k) % 2) (fun k => b / 2 ^ (252 - k) % 2) k) (Ed.add (Ed.nm (a / 2 ^ (253 - k)) p) (Ed.nm (b / 2 ^ (253 - k)) Bp))
  | 0, _ => by
    rw [Nat.sub_zero, Nat.div_eq_of_lt ha, Nat.div_eq_of_lt hb]
    have e : Ed.add (Ed.nm 0 p) (Ed.nm 0 Bp) = Ed.zero := Ed.add_zero Ed.zero_on
    rw [e]; exact zq_is
  | k + 1, hk => by
    have ih := st4_is h a b ha hb k (by omega)
    rw [bit_up a 253 k (by omega), bit_up b 253 k (by omega), Ed.step h.on Bp_on]
    exact ih.dbl.pls (r4_is h (Nat.mod_two_eq_zero_or_one _) (Nat.mod_two_eq_zero_or_one _))
theorem c_both (E : Env Z) {q : Pq} {p : Ed.Pt} (h : Is q p) {a b : Nat} (ha : a < 2 ^ 253) (hb : b < 2 ^ 253) : Ret Z 53 #[pq q, pq bq, .string (Ord.by32 a), .string (Ord.by32 b)] (pq (st4 q (fun k => a / 2 ^ (252 - k) % 2) (fun k => b / 2 ^ (252 - k) % 2) 253)) := by
  have hs := fun k hk => (st4_is h a b ha hb k hk).sm
  have hbit : ∀ v : Nat, ∀ k : Nat, k < 253 → Ret Z 81 #[.string (Ord.by32 v), .int .i64 (252 - (k : Int))] (.int .u8 ((v / 2 ^ (252 - k) % 2 : Nat) : Int)) := fun v k hk => by
    have := bit_r (Z := Z) (Ord.by32 v) (by32_size v) (252 - k) (by omega)
    rw [bit_by32 v _ (by omega), show ((252 - k : Nat) : Int) = 252 - (k : Int) by omega] at this
    exact this
  exact both_r E.keeps (st := st4 q (fun k => a / 2 ^ (252 - k) % 2) (fun k => b / 2 ^ (252 - k) % 2)) (db := fun k => dbq (st4 q (fun k => a / 2 ^ (252 - k) % 2) (fun k => b / 2 ^ (252 - k) % 2) k)) (d := fun i => rdy (r4 q i)) (s := pls q (rdy bq)) (α := fun k => a / 2 ^ (252 - k) % 2) (β := fun k => b / 2 ^ (252 - k) % 2)
    (c_zero E) (c_ready E zq_is.sm) (c_ready E h.sm) (c_ready E bq_is.sm) (c_sum E h bq_is) (c_ready E (h.pls bq_is).sm) (fun k hk => hbit b k hk) (fun k hk => hbit a k hk) (fun k => Nat.mod_two_eq_zero_or_one _) (fun k => Nat.mod_two_eq_zero_or_one _)
    (fun k hk => c_double E (hs k (by omega))) (fun k hk => c_plus E ((st4_is h a b ha hb k (by omega)).dbl).sm (rdy_sm _))
/-- Both, as a point. -/
def bt4 (q : Pq) (a b : Nat) : Pq := st4 q (fun k => a / 2 ^ (252 - k) % 2) (fun k => b / 2 ^ (252 - k) % 2) 253
theorem bt4_is {q : Pq} {p : Ed.Pt} (h : Is q p) {a b : Nat} (ha : a < 2 ^ 253) (hb : b < 2 ^ 253) : Is (bt4 q a b) (Ed.add (Ed.nm a p) (Ed.nm b Bp)) := by
  have := st4_is h a b ha hb 253 (Nat.le_refl _)
  rw [Nat.sub_self, Nat.pow_zero, Nat.div_one, Nat.div_one] at this
  exact this
end
theorem L_253 {a : Nat} (h : a < Ord.Lq) : a < 2 ^ 253 := by
  have : Ord.Lq < 2 ^ 253 := by rw [Ord.Lq_val]; decide
  omega
theorem c_Both {q : Pq} {p : Ed.Pt} (h : Is q p) {a b : Nat} (ha : a < Ord.Lq) (hb : b < Ord.Lq) : Ret Z3 21 #[pq q, wd a, wd b] (pq (bt4 q a b)) :=
  Both_r keeps3 (c_live env3 h) (c_base env3) (o_bytes ha) (o_bytes hb) (c_both env3 h (L_253 ha) (L_253 hb))
section
variable {Z : World → Prop}
def tm (r : Pr) (v : Nat) : Nat → Pr
  | 0 => zr
  | k + 1 => if bn v (255 - k) = 1 then rad (rad (tm r v k) (tm r v k)) r else rad (tm r v k) (tm r v k)
theorem tm_is {r : Pr} {p : Ed.Pt} (h : IsR r p) (v : Nat) (hv : v < 2 ^ 256) : ∀ k, k ≤ 256 → IsR (tm r v k) (Ed.nm (v / 2 ^ (256 - k)) p)
  | 0, _ => by
    rw [Nat.sub_zero, Nat.div_eq_of_lt hv]
    exact zr_is
  | k + 1, hk => by
    have ih := tm_is h v hv k (by omega)
    have h2 := ih.add ih
    rw [← Ed.nm_two h.on] at h2
    rw [bit_up v 256 k (by omega)]
    have hb := bit_bn v (255 - k)
    show IsR (if bn v (255 - k) = 1 then rad (rad (tm r v k) (tm r v k)) r else rad (tm r v k) (tm r v k)) _
    by_cases c : bn v (255 - k) = 1
    · rw [if_pos c]
      have h3 := h2.add h
      have e : v / 2 ^ (256 - 1 - k) % 2 = 1 := hb.symm.trans c
      rw [e]
      exact h3
    · rw [if_neg c]
      have e : v / 2 ^ (256 - 1 - k) % 2 = 0 := by rw [hb] at c; show v / 2 ^ (255 - k) % 2 = 0; omega
      rw [e, Nat.add_zero]
      exact h2
theorem d_times (E : Env Z) {r : Pr} {p : Ed.Pt} (h : IsR r p) {v : Nat} (hv : v < 2 ^ 256) : Ret Z 55 #[pr r, nbv v] (pr (tm r v 256)) := by
  have hs := fun k hk => tm_is h v hv k hk
  refine times_r E.keeps (st := tm r v) (dbl := fun k => rad (tm r v k) (tm r v k)) (d_zero E) (fun k hk => d_sum E (hs k (by omega)) (hs k (by omega))) (fun k hk hb => ?_) (fun k hk hb => ?_)
  · have := d_sum E ((hs k (by omega)).add (hs k (by omega))) h
    have e : tm r v (k + 1) = rad (rad (tm r v k) (tm r v k)) r := by
      show (if bn v (255 - k) = 1 then _ else _) = _
      rw [if_pos hb]
    rw [e]
    exact this
  · show (if bn v (255 - k) = 1 then _ else _) = _
    rw [if_neg (by omega)]
theorem tm_all {r : Pr} {p : Ed.Pt} (h : IsR r p) {v : Nat} (hv : v < 2 ^ 256) : IsR (tm r v 256) (Ed.nm v p) := by
  have := tm_is h v hv 256 (Nat.le_refl _)
  rw [Nat.sub_self, Nat.pow_zero, Nat.div_one] at this
  exact this
theorem d_both (E : Env Z) {r : Pr} {p : Ed.Pt} (h : IsR r p) {a b : Nat} (ha : a < 2 ^ 256) (hb : b < 2 ^ 256) : Ret Z 22 #[pr r, nbv a, nbv b] (pr (rad (tm r a 256) (tm br b 256))) :=
  RBoth_r E.keeps (d_times E h ha) (d_base E) (d_times E br_is hb) (d_sum E (tm_all h ha) (tm_all br_is hb))
end
end Go.Proofs.YtpdagpjjlnncbaaDoor
