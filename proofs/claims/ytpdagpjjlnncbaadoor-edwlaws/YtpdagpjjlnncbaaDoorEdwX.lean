/-
  The order of the base point; EdwLaws: what it answers. No statement is proved here.
-/
import Derived.Test.YtpdagpjjlnncbaaDoorEdwU
import Derived.Test.YtpdagpjjlnncbaaDoorEdwV
import Derived.Test.YtpdagpjjlnncbaaDoorEdwW
namespace Go.Proofs.YtpdagpjjlnncbaaDoor
open Go.RowKit Go.Lib Go.BigFrame
set_option linter.unusedVariables false
set_option linter.unusedSimpArgs false
set_option maxRecDepth 1000000
set_option maxHeartbeats 4000000

theorem L_x : (bt4 bq (Ord.Lq - 1) 1).x = 0 := by decide +kernel
theorem L_y : (bt4 bq (Ord.Lq - 1) 1).y = (bt4 bq (Ord.Lq - 1) 1).z := by decide +kernel
theorem Is.zero_of {q : Pq} {p : Ed.Pt} (h : Is q p) (hx : q.x = 0) (hy : q.y = q.z) : p = Ed.zero := by
  have h1 := h.x
  have h2 := h.y
  rw [hx] at h1
  rw [hy] at h2
  have e1 : p.x = 0 := by
    have h0 : Ed.fe 0 = 0 := rfl
    rw [h0] at h1
    rcases Ed.dom h1.symm with c | c
    · exact c
    · exact absurd c h.z
  have e2 : p.y = 1 := by
    refine Ed.cancel h.z ?_
    grind
  cases p
  simp only at e1 e2
  subst e1 e2
  rfl
theorem L_zero : Ed.nm Ord.Lq Bp = Ed.zero := by
  have l1 : Ord.Lq - 1 < Ord.Lq := by rw [Ord.Lq_val]; decide
  have l2 : 1 < Ord.Lq := by rw [Ord.Lq_val]; decide
  have h := (bt4_is bq_is (L_253 l1) (L_253 l2)).zero_of L_x L_y
  rw [← Ed.nm_add Bp_on, show Ord.Lq - 1 + 1 = Ord.Lq by omega] at h
  exact h
theorem nm_zero : ∀ n, Ed.nm n Ed.zero = Ed.zero
  | 0 => rfl
  | n + 1 => by
    rw [Ed.nm_add Ed.zero_on, nm_zero n, Ed.nm_one Ed.zero_on]
    exact Ed.add_zero Ed.zero_on
theorem nm_mod (n : Nat) : Ed.nm (n % Ord.Lq) Bp = Ed.nm n Bp := by
  have h : Ed.nm n Bp = Ed.nm (n / Ord.Lq * Ord.Lq + n % Ord.Lq) Bp := by rw [Nat.mul_comm, Nat.div_add_mod]
  rw [h, Ed.nm_add Bp_on, Ed.nm_mul Bp_on, L_zero, nm_zero, Ed.zero_add (Ed.nm_on Bp_on _)]
theorem e_1 (a b : Nat) : Ed.add (Ed.add (Ed.nm a Bp) (Ed.nm 0 Bp)) (Ed.add (Ed.nm 0 Bp) (Ed.nm b Bp)) = Ed.nm (a + b) Bp := by
  have e0 : Ed.nm 0 Bp = Ed.zero := rfl
  rw [e0, Ed.add_zero (Ed.nm_on Bp_on a), Ed.zero_add (Ed.nm_on Bp_on b), Ed.nm_add Bp_on]
theorem e_2 (a : Nat) : Ed.add (Ed.nm a Bp) (Ed.nm 0 Bp) = Ed.nm a Bp := Ed.add_zero (Ed.nm_on Bp_on a)
theorem e_3 (a b : Nat) : Ed.add (Ed.nm b (Ed.add (Ed.nm a Bp) (Ed.nm 0 Bp))) (Ed.nm 0 Bp) = Ed.nm (a * b) Bp := by
  rw [e_2, ← Ed.nm_mul Bp_on, Nat.mul_comm b a]
  exact e_2 _
theorem l_0 : 0 < Ord.Lq := by rw [Ord.Lq_val]; decide
theorem l_1 : 1 < Ord.Lq := by rw [Ord.Lq_val]; decide
theorem l_less : Ord.Lq - 1 < Ord.Lq := by rw [Ord.Lq_val]; decide
theorem o_one : Ret Z3 17 #[.string one32] (.tuple #[wd 1, .int .i64 0]) := by
  have := o_of one_fits
  rw [of_one] at this
  exact this
theorem o_less : Ret Z3 17 #[.string less32] (.tuple #[wd (Ord.Lq - 1), .int .i64 0]) := by
  have := o_of less_fits
  rw [of_less] at this
  exact this
theorem laws_any (r s t m n : ByteArray) : Ret Z3 6 #[.string r, .string s, .string t, .string m, .string n] (.bool true) := by
  obtain ⟨q1, e, H1, h1⟩ := dec_any r
  obtain ⟨q2, f, H2, h2⟩ := dec_any s
  obtain ⟨q3, g, H3, h3⟩ := dec_any t
  obtain ⟨a, h, H4, h4⟩ := of_any m
  obtain ⟨b, i, H5, h5⟩ := of_any n
  by_cases c4 : h = 0
  · subst c4
    obtain ⟨k4, rfl⟩ := h4 rfl
    have la := Ord.of_ltL m
    by_cases c5 : i = 0
    · subst c5
      obtain ⟨k5, rfl⟩ := h5 rfl
      have lb := Ord.of_ltL n
      generalize Ord.of m = a at *
      generalize Ord.of n = b at *
      have ix := bt4_is bq_is (L_253 la) (L_253 l_0)
      have iy := bt4_is bq_is (L_253 l_0) (L_253 lb)
      have ixy := bt4_is bq_is (L_253 la) (L_253 lb)
      have lv : (a * 1 + b) % Ord.Lq < Ord.Lq := Nat.mod_lt _ l_0
      have lw : (a * b + 0) % Ord.Lq < Ord.Lq := Nat.mod_lt _ l_0
      have iv := bt4_is bq_is (L_253 lv) (L_253 l_0)
      have iw := bt4_is bq_is (L_253 lw) (L_253 l_0)
      have iz := bt4_is ix (L_253 lb) (L_253 l_0)
      have il := bt4_is bq_is (L_253 l_less) (L_253 l_1)
      have E1 := c_eq env3 (ix.pls iy) ixy (by rw [e_1, Ed.nm_add Bp_on])
      have E2 := c_eq env3 (ix.pls iy) iv (by rw [e_1, e_2, nm_mod, Nat.mul_one])
      have E3 := c_eq env3 iz iw (by rw [e_3, e_2, nm_mod, Nat.add_zero])
      have E4 := c_eq env3 il zq_is (il.zero_of L_x L_y)
      by_cases c1 : e = 0
      · subst c1
        by_cases c2 : f = 0
        · subst c2
          by_cases c3 : g = 0
          · subst c3
            obtain ⟨p1, o1, rfl, rfl⟩ := h1 rfl
            obtain ⟨p2, o2, rfl, rfl⟩ := h2 rfl
            obtain ⟨p3, o3, rfl, rfl⟩ := h3 rfl
            have i1 := at_is o1
            have i2 := at_is o2
            have i3 := at_is o3
            exact laws_yy keeps3 H1 H2 H3 (c_sum env3 i1 i2) (c_sum env3 i2 i1) (c_eq env3 (i1.pls i2) (i2.pls i1) (Ed.add_comm _ _)) (c_sum env3 (i1.pls i2) i3) (c_sum env3 i2 i3) (c_sum env3 i1 (i2.pls i3)) (c_eq env3 ((i1.pls i2).pls i3) (i1.pls (i2.pls i3)) (Ed.add_assoc o1 o2 o3)) (c_zero env3) (c_sum env3 i1 zq_is) (c_eq env3 (i1.pls zq_is) i1 (Ed.add_zero o1)) (c_twice env3 i1) (c_sum env3 i1 i1) (c_eq env3 i1.dbl (i1.pls i1) rfl)
              H4 H5 o_one o_less (c_base env3) (c_Both bq_is la l_0) (c_Both bq_is l_0 lb) (c_sum env3 ix iy) (c_Both bq_is la lb) E1 (o_muladd la l_1 lb) (c_Both bq_is lv l_0) E2 (c_Both ix lb l_0) (o_muladd la lb l_0) (c_Both bq_is lw l_0) E3 (c_Both bq_is l_less l_1) E4 (c_alive env3)
          · exact laws_2y keeps3 H1 H2 H3 H4 H5 o_one o_less (c_base env3) (c_Both bq_is la l_0) (c_Both bq_is l_0 lb) (c_sum env3 ix iy) (c_Both bq_is la lb) E1 (o_muladd la l_1 lb) (c_Both bq_is lv l_0) E2 (c_Both ix lb l_0) (o_muladd la lb l_0) (c_Both bq_is lw l_0) E3 (c_Both bq_is l_less l_1) (c_zero env3) E4 (c_alive env3) (decide_eq_false c3)
        · exact laws_1y keeps3 H1 H2 H3 H4 H5 o_one o_less (c_base env3) (c_Both bq_is la l_0) (c_Both bq_is l_0 lb) (c_sum env3 ix iy) (c_Both bq_is la lb) E1 (o_muladd la l_1 lb) (c_Both bq_is lv l_0) E2 (c_Both ix lb l_0) (o_muladd la lb l_0) (c_Both bq_is lw l_0) E3 (c_Both bq_is l_less l_1) (c_zero env3) E4 (c_alive env3) (decide_eq_false c2)
      · exact laws_0y keeps3 H1 H2 H3 H4 H5 o_one o_less (c_base env3) (c_Both bq_is la l_0) (c_Both bq_is l_0 lb) (c_sum env3 ix iy) (c_Both bq_is la lb) E1 (o_muladd la l_1 lb) (c_Both bq_is lv l_0) E2 (c_Both ix lb l_0) (o_muladd la lb l_0) (c_Both bq_is lw l_0) E3 (c_Both bq_is l_less l_1) (c_zero env3) E4 (c_alive env3) (decide_eq_false c1)
    · by_cases c1 : e = 0
      · subst c1
        by_cases c2 : f = 0
        · subst c2
          by_cases c3 : g = 0
          · subst c3
            obtain ⟨p1, o1, rfl, rfl⟩ := h1 rfl
            obtain ⟨p2, o2, rfl, rfl⟩ := h2 rfl
            obtain ⟨p3, o3, rfl, rfl⟩ := h3 rfl
            have i1 := at_is o1
            have i2 := at_is o2
            have i3 := at_is o3
            exact laws_y1 keeps3 H1 H2 H3 (c_sum env3 i1 i2) (c_sum env3 i2 i1) (c_eq env3 (i1.pls i2) (i2.pls i1) (Ed.add_comm _ _)) (c_sum env3 (i1.pls i2) i3) (c_sum env3 i2 i3) (c_sum env3 i1 (i2.pls i3)) (c_eq env3 ((i1.pls i2).pls i3) (i1.pls (i2.pls i3)) (Ed.add_assoc o1 o2 o3)) (c_zero env3) (c_sum env3 i1 zq_is) (c_eq env3 (i1.pls zq_is) i1 (Ed.add_zero o1)) (c_twice env3 i1) (c_sum env3 i1 i1) (c_eq env3 i1.dbl (i1.pls i1) rfl)
              H4 H5 (c_alive env3) (decide_eq_false c5)
          · exact laws_21 keeps3 H1 H2 H3 H4 H5 (c_alive env3) (decide_eq_false c3) (decide_eq_false c5)
        · exact laws_11 keeps3 H1 H2 H3 H4 H5 (c_alive env3) (decide_eq_false c2) (decide_eq_false c5)
      · exact laws_01 keeps3 H1 H2 H3 H4 H5 (c_alive env3) (decide_eq_false c1) (decide_eq_false c5)
  · by_cases c1 : e = 0
    · subst c1
      by_cases c2 : f = 0
      · subst c2
        by_cases c3 : g = 0
        · subst c3
          obtain ⟨p1, o1, rfl, rfl⟩ := h1 rfl
          obtain ⟨p2, o2, rfl, rfl⟩ := h2 rfl
          obtain ⟨p3, o3, rfl, rfl⟩ := h3 rfl
          have i1 := at_is o1
          have i2 := at_is o2
          have i3 := at_is o3
          exact laws_y0 keeps3 H1 H2 H3 (c_sum env3 i1 i2) (c_sum env3 i2 i1) (c_eq env3 (i1.pls i2) (i2.pls i1) (Ed.add_comm _ _)) (c_sum env3 (i1.pls i2) i3) (c_sum env3 i2 i3) (c_sum env3 i1 (i2.pls i3)) (c_eq env3 ((i1.pls i2).pls i3) (i1.pls (i2.pls i3)) (Ed.add_assoc o1 o2 o3)) (c_zero env3) (c_sum env3 i1 zq_is) (c_eq env3 (i1.pls zq_is) i1 (Ed.add_zero o1)) (c_twice env3 i1) (c_sum env3 i1 i1) (c_eq env3 i1.dbl (i1.pls i1) rfl)
            H4 H5 (c_alive env3) (decide_eq_false c4)
        · exact laws_20 keeps3 H1 H2 H3 H4 H5 (c_alive env3) (decide_eq_false c3) (decide_eq_false c4)
      · exact laws_10 keeps3 H1 H2 H3 H4 H5 (c_alive env3) (decide_eq_false c2) (decide_eq_false c4)
    · exact laws_00 keeps3 H1 H2 H3 H4 H5 (c_alive env3) (decide_eq_false c1) (decide_eq_false c4)
end Go.Proofs.YtpdagpjjlnncbaaDoor
