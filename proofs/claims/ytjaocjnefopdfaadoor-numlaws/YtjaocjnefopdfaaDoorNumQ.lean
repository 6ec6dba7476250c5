/-
  The statements' own 'roots'. No statement is proved here.
-/
import Derived.Test.YtjaocjnefopdfaaDoorNumP
namespace Go.Proofs.YtjaocjnefopdfaaDoor
open Go.RowKit Go.Lib Go.BigFrame
set_option linter.unusedVariables false
set_option linter.unusedSimpArgs false
set_option maxRecDepth 1000000
set_option maxHeartbeats 1000000

theorem same_true {x y : Nat} (hx : x < 115792089237316195423570985008687907853269984665640564039457584007913129639936) (hy : y < 115792089237316195423570985008687907853269984665640564039457584007913129639936) (h : x = y) (W : World) : Calls Tryd.prog 15 #[wd x, wd y] W fun e w' => e = .returned (.bool true) ∧ Fr [] W w' := by
  have := same_any x y hx hy W
  rwa [decide_eq_true h] at this
theorem same_false {x y : Nat} (hx : x < 115792089237316195423570985008687907853269984665640564039457584007913129639936) (hy : y < 115792089237316195423570985008687907853269984665640564039457584007913129639936) (h : x ≠ y) (W : World) : Calls Tryd.prog 15 #[wd x, wd y] W fun e w' => e = .returned (.bool false) ∧ Fr [] W w' := by
  have := same_any x y hx hy W
  rwa [decide_eq_false h] at this
theorem odd_true {x : Nat} (hx : x < 115792089237316195423570985008687907853269984665640564039457584007913129639936) (h : x % 2 = 1) (W : World) : Calls Tryd.prog 17 #[wd x] W fun e w' => e = .returned (.bool true) ∧ Fr [] W w' := by
  have := odd_any x hx W
  rwa [decide_eq_true h] at this
theorem odd_false {x : Nat} (hx : x < 115792089237316195423570985008687907853269984665640564039457584007913129639936) (h : ¬ x % 2 = 1) (W : World) : Calls Tryd.prog 17 #[wd x] W fun e w' => e = .returned (.bool false) ∧ Fr [] W w' := by
  have := odd_any x hx W
  rwa [decide_eq_false h] at this
theorem root_is {a r : Nat} {odd k : Bool} (ha : a < Nt.P) (h1 : ro a odd = r) (h2 : ok a odd = k) (W : World) (h : PV W) : Calls Tryd.prog 25 #[wd a, .bool odd] W fun e w' => e = .returned (.tuple #[wd r, .bool k]) ∧ Fr [] W w' := by
  rw [← h1, ← h2]; exact root_any a odd ha W h
theorem mul_is {a b c : Nat} (ha : a < 115792089237316195423570985008687907853269984665640564039457584007913129639936) (hb : b < 115792089237316195423570985008687907853269984665640564039457584007913129639936) (h1 : a * b % Nt.P = c) (W : World) (h : PV W) : Calls Tryd.prog 22 #[wd a, wd b] W fun e w' => e = .returned (wd c) ∧ Fr [] W w' := by
  rw [← h1]; exact mul_any a b ha hb W h
theorem add_is {a b c : Nat} (ha : a < Nt.P) (hb : b < Nt.P) (h1 : (a + b) % Nt.P = c) (W : World) (h : PV W) : Calls Tryd.prog 18 #[wd a, wd b] W fun e w' => e = .returned (wd c) ∧ Fr [] W w' := by
  rw [← h1]; exact add_any a b ha hb W h
theorem z4 : 0 < 115792089237316195423570985008687907853269984665640564039457584007913129639936 := by decide

theorem roots_zero (a b p q u : Nat) (aP : a < Nt.P) (bP : b < Nt.P) (pP : p < Nt.P) (qP : q < Nt.P) (uP : u < Nt.P) (hb : (a + a) % Nt.P = b) (x1 : ro a false = p) (x2 : ok a false = true) (y1 : ro a true = q) (y2 : ok a true = false) (v1 : ro b false = u) (v2 : ok b false = true) (h0 : a = 0) (hp0 : p = 0) (w : World) (hP : PV w) :
    Calls Tryd.prog 29 #[wd a] w fun e w' => e = .returned (.bool true) ∧ Fr [] w w' := by
  have hP2 := hid (p := _) hP
  have a4 := lt4 aP
  have b4 := lt4 bP
  have p4 := lt4 pP
  have q4 := lt4 qP
  have u4 := lt4 uP
  have K1 := add_is aP aP hb
  have K2 := root_is aP x1 x2
  have K3 := root_is aP y1 y2
  have K4 := root_is bP v1 v2
  have K5 := same_true a4 z4 h0
  have K6 := same_true p4 z4 hp0
  obtain ⟨c0, c1, c2, c3, -, -, -, -, -, wc⟩ := wd_open (a) a4
  obtain ⟨d0, d1, d2, d3, -, -, -, -, -, wd_d⟩ := wd_open (b) b4
  obtain ⟨f0, f1, f2, f3, -, -, -, -, -, wf⟩ := wd_open (p) p4
  obtain ⟨g0, g1, g2, g3, -, -, -, -, -, wg⟩ := wd_open (q) q4
  obtain ⟨j0, j1, j2, j3, -, -, -, -, -, wj⟩ := wd_open (u) u4
  simp only [wc, wd_d, wf, wg, wj, ← wd_0] at K1
  simp only [wc, wd_d, wf, wg, wj, ← wd_0] at K2
  simp only [wc, wd_d, wf, wg, wj, ← wd_0] at K3
  simp only [wc, wd_d, wf, wg, wj, ← wd_0] at K4
  simp only [wc, wd_d, wf, wg, wj, ← wd_0] at K5
  simp only [wc, wd_d, wf, wg, wj, ← wd_0] at K6
  rw [wc]
  have H1 := hid (p := _) K1
  have H2 := hid (p := _) K2
  have H3 := hid (p := _) K3
  have H4 := hid (p := _) K4
  have H5 := hid (p := _) K5
  have H6 := hid (p := _) K6
  clear K1 K2 K3 K4 K5 K6 wc wd_d wf wg wj hP
  clear h0 hp0 a4 b4 p4 q4 u4 x1 x2 y1 y2 v1 v2 hb aP bP pP qP uP
  go_enter Tryd.func29, Tryd.ntmps29
  go_wp2_with (first | (go_at_call 18; refine (H1.out _ (hP2.out.fr (((Fr.refl [] w).alloc _).alloc _))).mono ?_; rintro e V1 ⟨rfl, hF⟩; have A1 := ((L4.new w 28 _ _ _ _).alloc _).fr hF; have Z1 := (L4.new1 w _ 28 _ _ _ _).fr hF; have F1 := (((Fr.refl [] w).alloc _).alloc _).trans0 hF; obtain ⟨_, _, _, _, _, _, _, _, _, _⟩ := A1.all; clear hF) | (go_at_call 25; first | (with_reducible refine (H2.out _ (hP2.out.fr (F1.alloc _))).mono ?_; rintro e V2 ⟨rfl, hF⟩; have A2 := (A1.alloc _).fr hF; have Z2 := (Z1.alloc _).fr hF; have B2 := (L4.new V1 28 _ _ _ _).fr hF; have F2 := (F1.alloc _).trans0 hF; obtain ⟨_, _, _, _, _, _, _, _, _, _⟩ := A2.all; clear hF A1 Z1 F1) | (with_reducible refine (H3.out _ (hP2.out.fr (F2.alloc _))).mono ?_; rintro e V3 ⟨rfl, hF⟩; have A3 := (A2.alloc _).fr hF; have Z3 := (Z2.alloc _).fr hF; have B3 := (B2.alloc _).fr hF; have P3 := (L4.new V2 28 _ _ _ _).fr hF; have F3 := (F2.alloc _).trans0 hF; obtain ⟨_, _, _, _, _, _, _, _, _, _⟩ := B3.all; clear hF A2 Z2 B2 F2) | (with_reducible refine (H4.out _ (hP2.out.fr (F3.alloc _))).mono ?_; rintro e V4 ⟨rfl, hF⟩; have A4 := (A3.alloc _).fr hF; have Z4 := (Z3.alloc _).fr hF; have B4 := (B3.alloc _).fr hF; have P4 := (P3.alloc _).fr hF; have Q4 := (L4.new V3 28 _ _ _ _).fr hF; have F4 := (F3.alloc _).trans0 hF; obtain ⟨_, _, _, _, _, _, _, _, _, _⟩ := A4.all; obtain ⟨_, _, _, _, _, _, _, _, _, _⟩ := Z4.all; clear hF A3 Z3 B3 P3 F3)) | (go_at_call 15; first | (with_reducible refine (H5.out _).mono ?_; rintro e V5 ⟨rfl, hF⟩; have A5 := (A4.alloc _).fr hF; have Z5 := (Z4.alloc _).fr hF; have B5 := (B4.alloc _).fr hF; have P5 := (P4.alloc _).fr hF; have Q5 := (Q4.alloc _).fr hF; have U5 := (L4.new V4 28 _ _ _ _).fr hF; have F5 := (F4.alloc _).trans0 hF; clear hF A4 Z4 B4 P4 Q4 F4; obtain ⟨_, _, _, _, _, _, _, _, _, _⟩ := P5.all; obtain ⟨_, _, _, _, _, _, _, _, _, _⟩ := Z5.all) | (with_reducible refine (H6.out _).mono ?_; rintro e V6 ⟨rfl, hF⟩; have F6 := F5.trans0 hF; clear hF)))
  go_ret
  exact ⟨rfl, F6⟩

theorem roots_has (a b p q u : Nat) (aP : a < Nt.P) (bP : b < Nt.P) (pP : p < Nt.P) (qP : q < Nt.P) (uP : u < Nt.P) (hb : (a + a) % Nt.P = b) (x1 : ro a false = p) (x2 : ok a false = true) (y1 : ro a true = q) (y2 : ok a true = true) (v1 : ro b false = u) (v2 : ok b false = false) (h0 : a ≠ 0) (k1 : p * p % Nt.P = a) (k2 : q * q % Nt.P = a) (k3 : (p + q) % Nt.P = 0) (k4 : ¬ p % 2 = 1) (k5 : q % 2 = 1) (w : World) (hP : PV w) :
    Calls Tryd.prog 29 #[wd a] w fun e w' => e = .returned (.bool true) ∧ Fr [] w w' := by
  have hP2 := hid (p := _) hP
  have a4 := lt4 aP
  have b4 := lt4 bP
  have p4 := lt4 pP
  have q4 := lt4 qP
  have u4 := lt4 uP
  have K1 := add_is aP aP hb
  have K2 := root_is aP x1 x2
  have K3 := root_is aP y1 y2
  have K4 := root_is bP v1 v2
  have K5 := same_false a4 z4 h0
  have K6 := mul_is p4 p4 k1
  have K7 := mul_is q4 q4 k2
  have K8 := same_true a4 a4 rfl
  have K9 := add_is pP qP k3
  have K10 := same_true z4 z4 rfl
  have K11 := odd_false p4 k4
  have K12 := odd_true q4 k5
  obtain ⟨c0, c1, c2, c3, -, -, -, -, -, wc⟩ := wd_open (a) a4
  obtain ⟨d0, d1, d2, d3, -, -, -, -, -, wd_d⟩ := wd_open (b) b4
  obtain ⟨f0, f1, f2, f3, -, -, -, -, -, wf⟩ := wd_open (p) p4
  obtain ⟨g0, g1, g2, g3, -, -, -, -, -, wg⟩ := wd_open (q) q4
  obtain ⟨j0, j1, j2, j3, -, -, -, -, -, wj⟩ := wd_open (u) u4
  simp only [wc, wd_d, wf, wg, wj, ← wd_0] at K1
  simp only [wc, wd_d, wf, wg, wj, ← wd_0] at K2
  simp only [wc, wd_d, wf, wg, wj, ← wd_0] at K3
  simp only [wc, wd_d, wf, wg, wj, ← wd_0] at K4
  simp only [wc, wd_d, wf, wg, wj, ← wd_0] at K5
  simp only [wc, wd_d, wf, wg, wj, ← wd_0] at K6
  simp only [wc, wd_d, wf, wg, wj, ← wd_0] at K7
  simp only [wc, wd_d, wf, wg, wj, ← wd_0] at K8
  simp only [wc, wd_d, wf, wg, wj, ← wd_0] at K9
  simp only [wc, wd_d, wf, wg, wj, ← wd_0] at K10
  simp only [wc, wd_d, wf, wg, wj, ← wd_0] at K11
  simp only [wc, wd_d, wf, wg, wj, ← wd_0] at K12
  rw [wc]
  have H1 := hid (p := _) K1
  have H2 := hid (p := _) K2
  have H3 := hid (p := _) K3
  have H4 := hid (p := _) K4
  have H5 := hid (p := _) K5
  have H6 := hid (p := _) K6
  have H7 := hid (p := _) K7
  have H8 := hid (p := _) K8
  have H9 := hid (p := _) K9
  have H10 := hid (p := _) K10
  have H11 := hid (p := _) K11
  have H12 := hid (p := _) K12
  clear K1 K2 K3 K4 K5 K6 K7 K8 K9 K10 K11 K12 wc wd_d wf wg wj hP
  clear h0 k1 k2 k3 k4 k5 a4 b4 p4 q4 u4 x1 x2 y1 y2 v1 v2 hb aP bP pP qP uP
  go_enter Tryd.func29, Tryd.ntmps29
  go_wp2_with (first | (go_at_call 18; refine (H1.out _ (hP2.out.fr (((Fr.refl [] w).alloc _).alloc _))).mono ?_; rintro e V1 ⟨rfl, hF⟩; have A1 := ((L4.new w 28 _ _ _ _).alloc _).fr hF; have Z1 := (L4.new1 w _ 28 _ _ _ _).fr hF; have F1 := (((Fr.refl [] w).alloc _).alloc _).trans0 hF; obtain ⟨_, _, _, _, _, _, _, _, _, _⟩ := A1.all; clear hF) | (go_at_call 25; first | (with_reducible refine (H2.out _ (hP2.out.fr (F1.alloc _))).mono ?_; rintro e V2 ⟨rfl, hF⟩; have A2 := (A1.alloc _).fr hF; have Z2 := (Z1.alloc _).fr hF; have B2 := (L4.new V1 28 _ _ _ _).fr hF; have F2 := (F1.alloc _).trans0 hF; obtain ⟨_, _, _, _, _, _, _, _, _, _⟩ := A2.all; clear hF A1 Z1 F1) | (with_reducible refine (H3.out _ (hP2.out.fr (F2.alloc _))).mono ?_; rintro e V3 ⟨rfl, hF⟩; have A3 := (A2.alloc _).fr hF; have Z3 := (Z2.alloc _).fr hF; have B3 := (B2.alloc _).fr hF; have P3 := (L4.new V2 28 _ _ _ _).fr hF; have F3 := (F2.alloc _).trans0 hF; obtain ⟨_, _, _, _, _, _, _, _, _, _⟩ := B3.all; clear hF A2 Z2 B2 F2) | (with_reducible refine (H4.out _ (hP2.out.fr (F3.alloc _))).mono ?_; rintro e V4 ⟨rfl, hF⟩; have A4 := (A3.alloc _).fr hF; have Z4 := (Z3.alloc _).fr hF; have B4 := (B3.alloc _).fr hF; have P4 := (P3.alloc _).fr hF; have Q4 := (L4.new V3 28 _ _ _ _).fr hF; have F4 := (F3.alloc _).trans0 hF; obtain ⟨_, _, _, _, _, _, _, _, _, _⟩ := A4.all; obtain ⟨_, _, _, _, _, _, _, _, _, _⟩ := Z4.all; clear hF A3 Z3 B3 P3 F3)) | (go_at_call 15; first | (with_reducible refine (H5.out _).mono ?_; rintro e V5 ⟨rfl, hF⟩; have A5 := (A4.alloc _).fr hF; have Z5 := (Z4.alloc _).fr hF; have B5 := (B4.alloc _).fr hF; have P5 := (P4.alloc _).fr hF; have Q5 := (Q4.alloc _).fr hF; have U5 := (L4.new V4 28 _ _ _ _).fr hF; have F5 := (F4.alloc _).trans0 hF; clear hF A4 Z4 B4 P4 Q4 F4; obtain ⟨_, _, _, _, _, _, _, _, _, _⟩ := P5.all; obtain ⟨_, _, _, _, _, _, _, _, _, _⟩ := Z5.all)))
  generalize V1.heap.size = nb at *
  generalize V2.heap.size = np at *
  generalize V3.heap.size = nq at *
  generalize V4.heap.size = nu at *
  have HP5 := hid (p := _) (hP2.out.fr F5)
  obtain ⟨_, _, _, _, _, _, _, _, _, _⟩ := A5.all
  obtain ⟨_, _, _, _, _, _, _, _, _, _⟩ := B5.all
  obtain ⟨_, _, _, _, _, _, _, _, _, _⟩ := P5.all
  obtain ⟨_, _, _, _, _, _, _, _, _, _⟩ := Q5.all
  obtain ⟨_, _, _, _, _, _, _, _, _, _⟩ := U5.all
  obtain ⟨_, _, _, _, _, _, _, _, _, _⟩ := Z5.all
  refine wp_region_ext (by kernel_rfl) (by kernel_rfl) ?_
  repeat (go_big_quiet_step (first | with_reducible exact Calls.ext_pv HP5.out H6.out | with_reducible exact Calls.ext_pv HP5.out H7.out | with_reducible exact Calls.ext_of (H8.out _) | with_reducible exact Calls.ext_pv HP5.out H9.out | with_reducible exact Calls.ext_of (H10.out _) | with_reducible exact Calls.ext_of (H11.out _) | with_reducible exact Calls.ext_of (H12.out _)))
  refine wpQuiet_nil ?_
  rintro _ ⟨xq, rfl⟩
  go_wp2
  go_ret
  exact ⟨rfl, F5.ext xq⟩

theorem roots_not (a b p q u : Nat) (aP : a < Nt.P) (bP : b < Nt.P) (pP : p < Nt.P) (qP : q < Nt.P) (uP : u < Nt.P) (hb : (a + a) % Nt.P = b) (x1 : ro a false = p) (x2 : ok a false = false) (y1 : ro a true = q) (y2 : ok a true = false) (v1 : ro b false = u) (v2 : ok b false = true) (h0 : a ≠ 0) (k1 : u * u % Nt.P = b) (k4 : ¬ u % 2 = 1) (w : World) (hP : PV w) :
    Calls Tryd.prog 29 #[wd a] w fun e w' => e = .returned (.bool true) ∧ Fr [] w w' := by
  have hP2 := hid (p := _) hP
  have a4 := lt4 aP
  have b4 := lt4 bP
  have p4 := lt4 pP
  have q4 := lt4 qP
  have u4 := lt4 uP
  have K1 := add_is aP aP hb
  have K2 := root_is aP x1 x2
  have K3 := root_is aP y1 y2
  have K4 := root_is bP v1 v2
  have K5 := same_false a4 z4 h0
  have K6 := mul_is u4 u4 k1
  have K7 := same_true b4 b4 rfl
  have K8 := odd_false u4 k4
  obtain ⟨c0, c1, c2, c3, -, -, -, -, -, wc⟩ := wd_open (a) a4
  obtain ⟨d0, d1, d2, d3, -, -, -, -, -, wd_d⟩ := wd_open (b) b4
  obtain ⟨f0, f1, f2, f3, -, -, -, -, -, wf⟩ := wd_open (p) p4
  obtain ⟨g0, g1, g2, g3, -, -, -, -, -, wg⟩ := wd_open (q) q4
  obtain ⟨j0, j1, j2, j3, -, -, -, -, -, wj⟩ := wd_open (u) u4
  simp only [wc, wd_d, wf, wg, wj, ← wd_0] at K1
  simp only [wc, wd_d, wf, wg, wj, ← wd_0] at K2
  simp only [wc, wd_d, wf, wg, wj, ← wd_0] at K3
  simp only [wc, wd_d, wf, wg, wj, ← wd_0] at K4
  simp only [wc, wd_d, wf, wg, wj, ← wd_0] at K5
  simp only [wc, wd_d, wf, wg, wj, ← wd_0] at K6
  simp only [wc, wd_d, wf, wg, wj, ← wd_0] at K7
  simp only [wc, wd_d, wf, wg, wj, ← wd_0] at K8
  rw [wc]
  have H1 := hid (p := _) K1
  have H2 := hid (p := _) K2
  have H3 := hid (p := _) K3
  have H4 := hid (p := _) K4
  have H5 := hid (p := _) K5
  have H6 := hid (p := _) K6
  have H7 := hid (p := _) K7
  have H8 := hid (p := _) K8
  clear K1 K2 K3 K4 K5 K6 K7 K8 wc wd_d wf wg wj hP
  clear h0 k1 k4 a4 b4 p4 q4 u4 x1 x2 y1 y2 v1 v2 hb aP bP pP qP uP
  go_enter Tryd.func29, Tryd.ntmps29
  go_wp2_with (first | (go_at_call 18; refine (H1.out _ (hP2.out.fr (((Fr.refl [] w).alloc _).alloc _))).mono ?_; rintro e V1 ⟨rfl, hF⟩; have A1 := ((L4.new w 28 _ _ _ _).alloc _).fr hF; have Z1 := (L4.new1 w _ 28 _ _ _ _).fr hF; have F1 := (((Fr.refl [] w).alloc _).alloc _).trans0 hF; obtain ⟨_, _, _, _, _, _, _, _, _, _⟩ := A1.all; clear hF) | (go_at_call 25; first | (with_reducible refine (H2.out _ (hP2.out.fr (F1.alloc _))).mono ?_; rintro e V2 ⟨rfl, hF⟩; have A2 := (A1.alloc _).fr hF; have Z2 := (Z1.alloc _).fr hF; have B2 := (L4.new V1 28 _ _ _ _).fr hF; have F2 := (F1.alloc _).trans0 hF; obtain ⟨_, _, _, _, _, _, _, _, _, _⟩ := A2.all; clear hF A1 Z1 F1) | (with_reducible refine (H3.out _ (hP2.out.fr (F2.alloc _))).mono ?_; rintro e V3 ⟨rfl, hF⟩; have A3 := (A2.alloc _).fr hF; have Z3 := (Z2.alloc _).fr hF; have B3 := (B2.alloc _).fr hF; have P3 := (L4.new V2 28 _ _ _ _).fr hF; have F3 := (F2.alloc _).trans0 hF; obtain ⟨_, _, _, _, _, _, _, _, _, _⟩ := B3.all; clear hF A2 Z2 B2 F2) | (with_reducible refine (H4.out _ (hP2.out.fr (F3.alloc _))).mono ?_; rintro e V4 ⟨rfl, hF⟩; have A4 := (A3.alloc _).fr hF; have Z4 := (Z3.alloc _).fr hF; have B4 := (B3.alloc _).fr hF; have P4 := (P3.alloc _).fr hF; have Q4 := (L4.new V3 28 _ _ _ _).fr hF; have F4 := (F3.alloc _).trans0 hF; obtain ⟨_, _, _, _, _, _, _, _, _, _⟩ := A4.all; obtain ⟨_, _, _, _, _, _, _, _, _, _⟩ := Z4.all; clear hF A3 Z3 B3 P3 F3)) | (go_at_call 15; first | (with_reducible refine (H5.out _).mono ?_; rintro e V5 ⟨rfl, hF⟩; have A5 := (A4.alloc _).fr hF; have Z5 := (Z4.alloc _).fr hF; have B5 := (B4.alloc _).fr hF; have P5 := (P4.alloc _).fr hF; have Q5 := (Q4.alloc _).fr hF; have U5 := (L4.new V4 28 _ _ _ _).fr hF; have F5 := (F4.alloc _).trans0 hF; clear hF A4 Z4 B4 P4 Q4 F4; obtain ⟨_, _, _, _, _, _, _, _, _, _⟩ := P5.all; obtain ⟨_, _, _, _, _, _, _, _, _, _⟩ := Z5.all)))
  generalize V1.heap.size = nb at *
  generalize V2.heap.size = np at *
  generalize V3.heap.size = nq at *
  generalize V4.heap.size = nu at *
  have HP5 := hid (p := _) (hP2.out.fr F5)
  obtain ⟨_, _, _, _, _, _, _, _, _, _⟩ := A5.all
  obtain ⟨_, _, _, _, _, _, _, _, _, _⟩ := B5.all
  obtain ⟨_, _, _, _, _, _, _, _, _, _⟩ := P5.all
  obtain ⟨_, _, _, _, _, _, _, _, _, _⟩ := Q5.all
  obtain ⟨_, _, _, _, _, _, _, _, _, _⟩ := U5.all
  obtain ⟨_, _, _, _, _, _, _, _, _, _⟩ := Z5.all
  refine wp_region_ext (by kernel_rfl) (by kernel_rfl) ?_
  repeat (go_big_quiet_step (first | with_reducible exact Calls.ext_pv HP5.out H6.out | with_reducible exact Calls.ext_of (H7.out _) | with_reducible exact Calls.ext_of (H8.out _)))
  refine wpQuiet_nil ?_
  rintro _ ⟨xq, rfl⟩
  go_wp2
  go_ret
  exact ⟨rfl, F5.ext xq⟩

theorem roots_any (a : Nat) (ha : a < Nt.P) (w : World) (hP : PV w) : Calls Tryd.prog 29 #[wd a] w fun e w' => e = .returned (.bool true) ∧ Fr [] w w' := by
  have hbP : (a + a) % Nt.P < Nt.P := Nat.mod_lt _ P_pos
  by_cases h0 : a = 0
  · have hb0 : (a + a) % Nt.P = 0 := by rw [h0]; exact Nat.zero_mod _
    exact roots_zero a _ _ _ _ ha hbP (ro_ltP a false) (ro_ltP a true) (ro_ltP _ false) rfl rfl (ok_zero a false h0) rfl (ok_zero a true h0) rfl (ok_zero _ false hb0) h0 ((ro_yes (ok_zero a false h0)).trans (rs_zero a false h0)) w hP
  · have hpos : 0 < a := Nat.pos_of_ne_zero h0
    by_cases h : Nt.has a
    · have hn : ¬ Nt.has ((a + a) % Nt.P) := fun h2 => (Nt.has_twice hpos ha).1 h2 h
      have o1 := ok_has false hpos h
      have o2 := ok_has true hpos h
      have e1 := ro_yes o1
      have e2 := ro_yes o2
      have q1 : rs a false * rs a false % Nt.P = a := (rs_sq a false).trans h
      have q2 : rs a true * rs a true % Nt.P = a := (rs_sq a true).trans h
      have r1 := rs_par false (rt_pos hpos h)
      have r2 := rs_par true (rt_pos hpos h)
      exact roots_has a _ _ _ _ ha hbP (rs_ltP a false) (rs_ltP a true) (ro_ltP _ false) rfl e1 o1 e2 o2 rfl (ok_not false hn) h0 q1 q2 (two_roots a) (of_decide_eq_false r1) (of_decide_eq_true r2) w hP
    · have hb : Nt.has ((a + a) % Nt.P) := (Nt.has_twice hpos ha).2 h
      have hbpos : 0 < (a + a) % Nt.P := by
        apply Nat.pos_of_ne_zero
        intro e
        have hd : Nt.P ∣ 2 * a := by rw [Nat.two_mul]; exact Nat.dvd_of_mod_eq_zero e
        have hp := Nt.P_two
        cases Nt.prime.or hd with
        | inl h => exact absurd (Nat.le_of_dvd (by omega) h) (by omega)
        | inr h => exact Nt.not_dvd hpos ha h
      have o3 := ok_has false hbpos hb
      have r3 := rs_par false (rt_pos hbpos hb)
      exact roots_not a _ _ _ _ ha hbP (ro_ltP a false) (ro_ltP a true) (rs_ltP _ false) rfl rfl (ok_not false h) rfl (ok_not true h) (ro_yes o3) o3 h0 ((rs_sq _ false).trans hb) (of_decide_eq_false r3) w hP

end Go.Proofs.YtjaocjnefopdfaaDoor
