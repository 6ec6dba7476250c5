/-
  Package num: fold, times. No statement is proved here.
-/
import Derived.Test.YtpdagpjjlnncbaaDoorLast
namespace Go.Proofs.YtpdagpjjlnncbaaDoor
open Go.RowKit Go.Lib Go.BigFrame
set_option linter.unusedVariables false
set_option linter.unusedSimpArgs false
set_option maxRecDepth 1000000
set_option maxHeartbeats 4000000

theorem hid {p : Prop} (h : p) : Hid p := h
theorem fold_lin {v a0 a1 a2 a3 x s0 s1 s2 c0 c1 c2 h l : Nat} (ev : v = a0 + 18446744073709551616 * a1 + 340282366920938463463374607431768211456 * a2 + 6277101735386680763835789423207666416102355444464034512896 * a3) (e3 : a3 = l + 9223372036854775808 * h)
    (z0 : s0 + 18446744073709551616 * c0 = a0 + x) (z1 : s1 + 18446744073709551616 * c1 = a1 + c0) (z2 : s2 + 18446744073709551616 * c2 = a2 + c1) : v + x = (s0 + 18446744073709551616 * s1 + 340282366920938463463374607431768211456 * s2 + 6277101735386680763835789423207666416102355444464034512896 * (l + c2)) + 57896044618658097711785492504343953926634992332820282019728792003956564819968 * h := by omega
theorem fold_gen2 {v top h p m r m2 : Nat} (hm : m = p + 19) (hlin : v + 19 * (2 * top + h) = r + m * h) (h2 : m2 = 2 * m) : r % p = (v + m2 * top) % p := by
  have e : v + m2 * top = r + p * (h + 2 * top) := by
    subst hm
    subst h2
    have e1 : (p + 19) * h = p * h + 19 * h := Nat.add_mul _ _ _
    have e2 : 2 * (p + 19) * top = 2 * (p * top) + 38 * top := by rw [Nat.mul_assoc, Nat.add_mul]; omega
    have e3 : p * (h + 2 * top) = p * h + 2 * (p * top) := by rw [Nat.mul_add, Nat.mul_left_comm]
    rw [e1] at hlin
    rw [e2, e3]
    generalize p * h = X at *
    generalize p * top = Y at *
    omega
  rw [e, Nat.add_mul_mod_self_left]
theorem fold_any (v top : Nat) (hv : v < 115792089237316195423570985008687907853269984665640564039457584007913129639936) (ht : top ≤ 100) (w : World) (hP : PV w) : Calls Tryd.prog 86 #[wd v, .int .u64 (top : Nat)] w fun e w' => e = .returned (wd ((v + 115792089237316195423570985008687907853269984665640564039457584007913129639936 * top) % Nt.P)) ∧ Fr [] w w' := by
  have hP2 := hid (p := _) hP
  obtain ⟨a0, a1, a2, a3, p0, p1, p2, p3, ea, wa⟩ := wd_open v hv
  have hh : a3 / 9223372036854775808 < 2 := by omega
  have e3 : a3 = a3 % 9223372036854775808 + 9223372036854775808 * (a3 / 9223372036854775808) := by omega
  have f1 := or_over top _ (by omega) hh
  have f2 := and_low a3 p3
  have f0 : ((a3 : Int) / 9223372036854775808) = ((a3 / 9223372036854775808 : Nat) : Int) := by omega
  have hl : a3 % 9223372036854775808 < 9223372036854775808 := by omega
  generalize a3 / 9223372036854775808 = h at *
  generalize a3 % 9223372036854775808 = l at *
  have g1 : IntKind.u64.wrap ((top : Int) * 2) = ((2 * top : Nat) : Int) := by rw [IntKind.wrap_u64]; omega
  have g1b : IntKind.u64.wrap (2 * (top : Int)) = ((2 * top : Nat) : Int) := by rw [IntKind.wrap_u64]; omega
  have g2 : IntKind.u64.wrap (19 * ((2 * top + h : Nat) : Int)) = ((19 * (2 * top + h) : Nat) : Int) := by rw [IntKind.wrap_u64]; omega
  obtain ⟨s0, c0, x0, y0, z0, K0⟩ := add64_0 a0 (19 * (2 * top + h)) p0 (by omega)
  obtain ⟨s1, c1, x1, y1, z1, K1⟩ := add64_z a1 c0 p1 y0
  obtain ⟨s2, c2, x2, y2, z2, K2⟩ := add64_z a2 c1 p2 y1
  have g3 : IntKind.u64.wrap ((l : Int) + (c2 : Int)) = ((l + c2 : Nat) : Int) := by rw [IntKind.wrap_u64]; omega
  have hlin := fold_lin ea e3 z0 z1 z2
  have hr := wd_of (v := s0 + 18446744073709551616 * s1 + 340282366920938463463374607431768211456 * s2 + 6277101735386680763835789423207666416102355444464034512896 * (l + c2)) x0 x1 x2 (show l + c2 < 18446744073709551616 by omega) rfl
  have hlt : s0 + 18446744073709551616 * s1 + 340282366920938463463374607431768211456 * s2 + 6277101735386680763835789423207666416102355444464034512896 * (l + c2) < 2 * Nt.P := by have := P_two_lt; omega
  have hmod : (s0 + 18446744073709551616 * s1 + 340282366920938463463374607431768211456 * s2 + 6277101735386680763835789423207666416102355444464034512896 * (l + c2)) % Nt.P = (v + 115792089237316195423570985008687907853269984665640564039457584007913129639936 * top) % Nt.P := by
    have hp := P_two_lt
    generalize s0 + 18446744073709551616 * s1 + 340282366920938463463374607431768211456 * s2 + 6277101735386680763835789423207666416102355444464034512896 * (l + c2) = r at *
    exact fold_gen2 (p := Nt.P) (m := 57896044618658097711785492504343953926634992332820282019728792003956564819968) (by omega) hlin (by omega)
  have KB := fun W (h : PV W) => below_any _ hlt W h
  rw [hmod, ← hr] at KB
  obtain ⟨t0, t1, t2, t3, _, _, _, _, et, wt⟩ := wd_open ((v + 115792089237316195423570985008687907853269984665640564039457584007913129639936 * top) % Nt.P) (Nat.lt_of_lt_of_le (Nat.mod_lt _ (by have := P_two_lt; omega)) (by have := P_two_lt; omega))
  rw [wt] at KB
  rw [wa, wt]
  have HB := hid (p := _) KB
  clear KB hmod hlt hr hlin z0 z1 z2 e3 ea et wa wt hl hh x0 x1 x2 y0 y1 y2 p0 p1 p2 p3 hP hv
  have f3 : (2 * top : Int) = ((2 * top : Nat) : Int) := by omega
  generalize hA : 2 * top + h = A at *
  generalize hB : 2 * top = B at *
  generalize hC : 19 * A = C at *
  generalize hD : l + c2 = D at *
  clear hA hC hD
  go_enter Tryd.func86, Tryd.ntmps86
  go_wp2_with (first | simp only [K0, K1, K2] | (go_at_call 89; refine (HB.out _ (hP2.out.fr (((Fr.refl [] w).alloc _).alloc _))).mono ?_; rintro e V ⟨rfl, hF⟩; have B := (L4.new1 w _ 25 _ _ _ _).fr hF; have F := (((Fr.refl [] w).alloc _).alloc _).trans0 hF; obtain ⟨b0c, b1c, b2c, b3c, b4c, b5c, b6c, b7c, b8c, b9c⟩ := B.all; clear hF))
  simp [bodyPost, results, Tryd.results86, go_sem, *]
  exact F.set4 (by omega) _ _ _ _

end Go.Proofs.YtpdagpjjlnncbaaDoor
namespace Go.Proofs.YtpdagpjjlnncbaaDoor
open Go.RowKit Go.Lib Go.BigFrame
set_option linter.unusedVariables false
set_option linter.unusedSimpArgs false
set_option maxRecDepth 1000000
set_option maxHeartbeats 4000000

theorem row_0 (x b0 b1 b2 b3 : Nat) (hx : x < 18446744073709551616) (h0 : b0 < 18446744073709551616) (h1 : b1 < 18446744073709551616) (h2 : b2 < 18446744073709551616) (h3 : b3 < 18446744073709551616) :
    ∃ r0 r1 r2 r3 c : Nat, r0 < 18446744073709551616 ∧ r1 < 18446744073709551616 ∧ r2 < 18446744073709551616 ∧ r3 < 18446744073709551616 ∧ c < 18446744073709551616 ∧ r0 + 18446744073709551616 * r1 + 340282366920938463463374607431768211456 * r2 + 6277101735386680763835789423207666416102355444464034512896 * r3 + 115792089237316195423570985008687907853269984665640564039457584007913129639936 * c = x * (b0 + 18446744073709551616 * b1 + 340282366920938463463374607431768211456 * b2 + 6277101735386680763835789423207666416102355444464034512896 * b3) ∧
      ∀ w : World, Calls Tryd.prog 94 #[.int .u64 (x : Nat), .int .u64 (b0 : Nat), .int .u64 (b1 : Nat), .int .u64 (b2 : Nat), .int .u64 (b3 : Nat), .int .u64 0, .int .u64 0, .int .u64 0, .int .u64 0] w fun e w' => e = .returned (.tuple #[.int .u64 (r0 : Nat), .int .u64 (r1 : Nat), .int .u64 (r2 : Nat), .int .u64 (r3 : Nat), .int .u64 (c : Nat)]) ∧ w' = w :=
  row_any x b0 b1 b2 b3 0 0 0 0 hx h0 h1 h2 h3 (by decide) (by decide) (by decide) (by decide)
theorem row_38 (b0 b1 b2 b3 s0 s1 s2 s3 : Nat) (h0 : b0 < 18446744073709551616) (h1 : b1 < 18446744073709551616) (h2 : b2 < 18446744073709551616) (h3 : b3 < 18446744073709551616) (k0 : s0 < 18446744073709551616) (k1 : s1 < 18446744073709551616) (k2 : s2 < 18446744073709551616) (k3 : s3 < 18446744073709551616) :
    ∃ r0 r1 r2 r3 c : Nat, r0 < 18446744073709551616 ∧ r1 < 18446744073709551616 ∧ r2 < 18446744073709551616 ∧ r3 < 18446744073709551616 ∧ c < 18446744073709551616 ∧ r0 + 18446744073709551616 * r1 + 340282366920938463463374607431768211456 * r2 + 6277101735386680763835789423207666416102355444464034512896 * r3 + 115792089237316195423570985008687907853269984665640564039457584007913129639936 * c = 38 * (b0 + 18446744073709551616 * b1 + 340282366920938463463374607431768211456 * b2 + 6277101735386680763835789423207666416102355444464034512896 * b3) + (s0 + 18446744073709551616 * s1 + 340282366920938463463374607431768211456 * s2 + 6277101735386680763835789423207666416102355444464034512896 * s3) ∧
      ∀ w : World, Calls Tryd.prog 94 #[.int .u64 38, .int .u64 (b0 : Nat), .int .u64 (b1 : Nat), .int .u64 (b2 : Nat), .int .u64 (b3 : Nat), .int .u64 (s0 : Nat), .int .u64 (s1 : Nat), .int .u64 (s2 : Nat), .int .u64 (s3 : Nat)] w fun e w' => e = .returned (.tuple #[.int .u64 (r0 : Nat), .int .u64 (r1 : Nat), .int .u64 (r2 : Nat), .int .u64 (r3 : Nat), .int .u64 (c : Nat)]) ∧ w' = w :=
  row_any 38 b0 b1 b2 b3 s0 s1 s2 s3 (by decide) h0 h1 h2 h3 k0 k1 k2 k3
theorem prod_split (a0 a1 a2 a3 b m m2 m3 : Nat) : (a0 + m * a1 + m2 * a2 + m3 * a3) * b = a0 * b + m * (a1 * b) + m2 * (a2 * b) + m3 * (a3 * b) := by
  rw [Nat.add_mul, Nat.add_mul, Nat.add_mul, Nat.mul_assoc, Nat.mul_assoc, Nat.mul_assoc]
theorem times_gen {x l h p m r t : Nat} (hm : m = 2 * p + 38) (hx : x = l + m * h) (hr : r + m * t = 38 * h + l) : (r + m * t) % p = x % p := by
  have e : x = r + m * t + p * (2 * h) := by
    have e1 : m * h = p * (2 * h) + 38 * h := by rw [hm, Nat.add_mul, Nat.mul_left_comm, Nat.mul_assoc]
    omega
  rw [e, Nat.add_mul_mod_self_left]
theorem times_lin {x X0 X1 X2 X3 l0 l1 l2 l3 h0 h1 h2 h3 k0 k1 k2 k3 m0 m1 m2 m3 n0 n1 n2 n3 : Nat} (hx : x = X0 + 18446744073709551616 * X1 + 340282366920938463463374607431768211456 * X2 + 6277101735386680763835789423207666416102355444464034512896 * X3)
    (e0 : l0 + 18446744073709551616 * h0 + 340282366920938463463374607431768211456 * h1 + 6277101735386680763835789423207666416102355444464034512896 * h2 + 115792089237316195423570985008687907853269984665640564039457584007913129639936 * h3 = X0) (e1 : l1 + 18446744073709551616 * k0 + 340282366920938463463374607431768211456 * k1 + 6277101735386680763835789423207666416102355444464034512896 * k2 + 115792089237316195423570985008687907853269984665640564039457584007913129639936 * k3 = X1 + (h0 + 18446744073709551616 * h1 + 340282366920938463463374607431768211456 * h2 + 6277101735386680763835789423207666416102355444464034512896 * h3))
    (e2 : l2 + 18446744073709551616 * m0 + 340282366920938463463374607431768211456 * m1 + 6277101735386680763835789423207666416102355444464034512896 * m2 + 115792089237316195423570985008687907853269984665640564039457584007913129639936 * m3 = X2 + (k0 + 18446744073709551616 * k1 + 340282366920938463463374607431768211456 * k2 + 6277101735386680763835789423207666416102355444464034512896 * k3)) (e3 : l3 + 18446744073709551616 * n0 + 340282366920938463463374607431768211456 * n1 + 6277101735386680763835789423207666416102355444464034512896 * n2 + 115792089237316195423570985008687907853269984665640564039457584007913129639936 * n3 = X3 + (m0 + 18446744073709551616 * m1 + 340282366920938463463374607431768211456 * m2 + 6277101735386680763835789423207666416102355444464034512896 * m3)) :
    x = (l0 + 18446744073709551616 * l1 + 340282366920938463463374607431768211456 * l2 + 6277101735386680763835789423207666416102355444464034512896 * l3) + 115792089237316195423570985008687907853269984665640564039457584007913129639936 * (n0 + 18446744073709551616 * n1 + 340282366920938463463374607431768211456 * n2 + 6277101735386680763835789423207666416102355444464034512896 * n3) := by omega
theorem top_lt {r t h l : Nat} (hh : h < 115792089237316195423570985008687907853269984665640564039457584007913129639936) (hl : l < 115792089237316195423570985008687907853269984665640564039457584007913129639936) (hr : r + 115792089237316195423570985008687907853269984665640564039457584007913129639936 * t = 38 * h + l) : t ≤ 100 := by omega
theorem times_any (a b : Nat) (ha : a < 115792089237316195423570985008687907853269984665640564039457584007913129639936) (hb : b < 115792089237316195423570985008687907853269984665640564039457584007913129639936) (w : World) (hP : PV w) : Calls Tryd.prog 75 #[wd a, wd b] w fun e w' => e = .returned (wd (a * b % Nt.P)) ∧ Fr [] w w' := by
  have hP2 := hid (p := _) hP
  obtain ⟨a0, a1, a2, a3, p0, p1, p2, p3, ea, wa⟩ := wd_open a ha
  obtain ⟨b0, b1, b2, b3, q0, q1, q2, q3, eb, wb⟩ := wd_open b hb
  obtain ⟨l0, h0, h1, h2, h3, x0, y00, y01, y02, y03, e0, K0⟩ := row_0 a0 b0 b1 b2 b3 p0 q0 q1 q2 q3
  obtain ⟨l1, k0, k1, k2, k3, x1, y10, y11, y12, y13, e1, K1⟩ := row_any a1 b0 b1 b2 b3 h0 h1 h2 h3 p1 q0 q1 q2 q3 y00 y01 y02 y03
  obtain ⟨l2, m0, m1, m2, m3, x2, y20, y21, y22, y23, e2, K2⟩ := row_any a2 b0 b1 b2 b3 k0 k1 k2 k3 p2 q0 q1 q2 q3 y10 y11 y12 y13
  obtain ⟨l3, n0, n1, n2, n3, x3, y30, y31, y32, y33, e3, K3⟩ := row_any a3 b0 b1 b2 b3 m0 m1 m2 m3 p3 q0 q1 q2 q3 y20 y21 y22 y23
  obtain ⟨r0, r1, r2, r3, top, z0, z1, z2, z3, z4, e4, K4⟩ := row_38 n0 n1 n2 n3 l0 l1 l2 l3 y30 y31 y32 y33 x0 x1 x2 x3
  rw [← eb] at e0 e1 e2 e3
  have hsp := prod_split a0 a1 a2 a3 b 18446744073709551616 340282366920938463463374607431768211456 6277101735386680763835789423207666416102355444464034512896
  rw [← ea] at hsp
  have hlin := times_lin hsp e0 e1 e2 e3
  have ht := top_lt (val_lt y30 y31 y32 y33) (val_lt x0 x1 x2 x3) e4
  have hmod := times_gen P_two_lt hlin e4
  have hr := wd_of (v := r0 + 18446744073709551616 * r1 + 340282366920938463463374607431768211456 * r2 + 6277101735386680763835789423207666416102355444464034512896 * r3) z0 z1 z2 z3 rfl
  have KF := fun W (h : PV W) => fold_any _ top (val_lt z0 z1 z2 z3) ht W h
  rw [hmod, ← hr] at KF
  obtain ⟨t0, t1, t2, t3, _, _, _, _, et, wt⟩ := wd_open (a * b % Nt.P) (Nat.lt_of_lt_of_le (Nat.mod_lt _ (by have := P_two_lt; omega)) (by have := P_two_lt; omega))
  rw [wt] at KF
  rw [wa, wb, wt]
  have HF := hid (p := _) KF
  have H0 := hid (p := _) K0
  have H1 := hid (p := _) K1
  have H2 := hid (p := _) K2
  have H3 := hid (p := _) K3
  have H4 := hid (p := _) K4
  clear KF K0 K1 K2 K3 K4 hr hmod ht hlin hsp e0 e1 e2 e3 e4 ea eb wa wb et wt p0 p1 p2 p3 q0 q1 q2 q3 x0 x1 x2 x3 y00 y01 y02 y03 y10 y11 y12 y13 y20 y21 y22 y23 y30 y31 y32 y33 z0 z1 z2 z3 z4 ha hb hP
  go_enter Tryd.func75, Tryd.ntmps75
  go_wp2_with (first | (go_at_call 94; first | (with_reducible refine (H0.out _).mono ?_; rintro e w' ⟨rfl, rfl⟩) | (with_reducible refine (H1.out _).mono ?_; rintro e w' ⟨rfl, rfl⟩) | (with_reducible refine (H2.out _).mono ?_; rintro e w' ⟨rfl, rfl⟩) | (with_reducible refine (H3.out _).mono ?_; rintro e w' ⟨rfl, rfl⟩) | (with_reducible refine (H4.out _).mono ?_; rintro e w' ⟨rfl, rfl⟩)) | (go_at_call 86; refine (HF.out _ (hP2.out.fr ((((Fr.refl [] w).alloc _).alloc _).alloc _))).mono ?_; rintro e V ⟨rfl, hF⟩; have B := (L4.new2 w _ _ 25 _ _ _ _).fr hF; have F := ((((Fr.refl [] w).alloc _).alloc _).alloc _).trans0 hF; obtain ⟨b0c, b1c, b2c, b3c, b4c, b5c, b6c, b7c, b8c, b9c⟩ := B.all; clear hF))
  simp [bodyPost, results, Tryd.results75, go_sem, *]
  exact F.set4 (by omega) _ _ _ _

end Go.Proofs.YtpdagpjjlnncbaaDoor
