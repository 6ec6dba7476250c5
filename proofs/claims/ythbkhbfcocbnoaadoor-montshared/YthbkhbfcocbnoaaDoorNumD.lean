/-
  Package num: fold, times. No statement is proved here.
-/
import Derived.Test.YthbkhbfcocbnoaaDoorNumC
namespace Go.Proofs.YthbkhbfcocbnoaaDoor
open Go.RowKit Go.Lib Go.BigFrame
set_option linter.unusedVariables false
set_option linter.unusedSimpArgs false
set_option maxRecDepth 1000000
set_option maxHeartbeats 4000000

theorem hid {p : Prop} (h : p) : Hid p := h
theorem fold_lin {v a0 a1 a2 a3 x s0 s1 s2 c0 c1 c2 h l : Nat} (ev : v = a0 + 18446744073709551616 * a1 + 340282366920938463463374607431768211456 * a2 + 6277101735386680763835789423207666416102355444464034512896 * a3) (e3 : a3 = l + 9223372036854775808 * h)
    (z0 : s0 + 18446744073709551616 * c0 = a0 + x) (z1 : s1 + 18446744073709551616 * c1 = a1 + c0) (z2 : s2 + 18446744073709551616 * c2 = a2 + c1) : v + x = (s0 + 18446744073709551616 * s1 + 340282366920938463463374607431768211456 * s2 + 6277101735386680763835789423207666416102355444464034512896 * (l + c2)) + 57896044618658097711785492504343953926634992332820282019728792003956564819968 * h := by omega
theorem fold_gen2 {v top h p m r m2 : Nat} (hm : m = p + 19) (hlin : v + 19 * (2 * top + h) = r + m * h) (h2 : m2 = 2 * m) : r % p = (v + m2 * top) % p := by
  have e : v + m2 * top = r + p * (h + 2 * top) := by
    subst hm
    subst h2
    have e1 : (p + 19) * h = p * h + 19 * h := Nat.add_mul _ _ _
    have e2 : 2 * (p + 19) * top = 2 * (p * top) + 38 * top := by rw [Nat.mul_assoc, Nat.add_mul]; omega
    have e3 : p * (h + 2 * top) = p * h + 2 * (p * top) := by rw [Nat.mul_add, Nat.mul_left_comm]
    rw [e1] at hlin
    rw [e2, e3]
    generalize p * h = X at *
    generalize p * top = Y at *
    omega
  rw [e, Nat.add_mul_mod_self_left]
theorem fold_any (v top : Nat) (hv : v < 115792089237316195423570985008687907853269984665640564039457584007913129639936) (ht : top ≤ 100) (w : World) (hP : PV w) : Calls Tryd.prog 40 #[wd v, .int .u64 (top : Nat)] w fun e w' => e = .returned (wd ((v + 115792089237316195423570985008687907853269984665640564039457584007913129639936 * top) % Nt.P)) ∧ Fr [] w w' := by
  have hP2 := hid (p := _) hP
  obtain ⟨a0, a1, a2, a3, p0, p1, p2, p3, ea, wa⟩ := wd_open v hv
  have hh : a3 / 9223372036854775808 < 2 := by omega
  have e3 : a3 = a3 % 9223372036854775808 + 9223372036854775808 * (a3 / 9223372036854775808) := by omega
  have f1 := or_over top _ (by omega) hh
  have f2 := and_low a3 p3
  have f0 : ((a3 : Int) / 9223372036854775808) = ((a3 / 9223372036854775808 : Nat) : Int) := by omega
  have hl : a3 % 9223372036854775808 < 9223372036854775808 := by omega
  generalize a3 / 9223372036854775808 = h at *
  generalize a3 % 9223372036854775808 = l at *
  have g1 : IntKind.u64.wrap ((top : Int) * 2) = ((2 * top : Nat) : Int) := by rw [IntKind.wrap_u64]; omega
  have g1b : IntKind.u64.wrap (2 * (top : Int)) = ((2 * top : Nat) : Int) := by rw [IntKind.wrap_u64]; omega
  have g2 : IntKind.u64.wrap (19 * ((2 * top + h : Nat) : Int)) = ((19 * (2 * top + h) : Nat) : Int) := by rw [IntKind.wrap_u64]; omega
  obtain ⟨s0, c0, x0, y0, z0, K0⟩ := add64_0 a0 (19 * (2 * top + h)) p0 (by omega)
  obtain ⟨s1, c1, x1, y1, z1, K1⟩ := add64_z a1 c0 p1 y0
  obtain ⟨s2, c2, x2, y2, z2, K2⟩ := add64_z a2 c1 p2 y1
  have g3 : IntKind.u64.wrap ((l : Int) + (c2 : Int)) = ((l + c2 : Nat) : Int) := by rw [IntKind.wrap_u64]; omega
  have hlin := fold_lin ea e3 z0 z1 z2
  have hr := wd_of (v := s0 + 18446744073709551616 * s1 + 340282366920938463463374607431768211456 * s2 + 6277101735386680763835789423207666416102355444464034512896 * (l + c2)) x0 x1 x2 (show l + c2 < 18446744073709551616 by omega) rfl
  have hlt : s0 + 18446744073709551616 * s1 + 340282366920938463463374607431768211456 * s2 + 6277101735386680763835789423207666416102355444464034512896 * (l + c2) < 2 * Nt.P := by have := P_two_lt; omega
  have hmod : (s0 + 18446744073709551616 * s1 + 340282366920938463463374607431768211456 * s2 + 6277101735386680763835789423207666416102355444464034512896 * (l + c2)) % Nt.P = (v + 115792089237316195423570985008687907853269984665640564039457584007913129639936 * top) % Nt.P := by
    have hp := P_two_lt
    generalize s0 + 18446744073709551616 * s1 + 340282366920938463463374607431768211456 * s2 + 6277101735386680763835789423207666416102355444464034512896 * (l + c2) = r at *
    exact fold_gen2 (p := Nt.P) (m := 57896044618658097711785492504343953926634992332820282019728792003956564819968) (by omega) hlin (by omega)
  have KB := fun W (h : PV W) => below_any _ hlt W h
  rw [hmod, ← hr] at KB
  obtain ⟨t0, t1, t2, t3, _, _, _, _, et, wt⟩ := wd_open ((v + 115792089237316195423570985008687907853269984665640564039457584007913129639936 * top) % Nt.P) (Nat.lt_of_lt_of_le (Nat.mod_lt _ (by have := P_two_lt; omega)) (by have := P_two_lt; omega))
  rw [wt] at KB
  rw [wa, wt]
  have HB := hid (p := _) KB
  clear KB hmod hlt hr hlin z0 z1 z2 e3 ea et wa wt hl hh x0 x1 x2 y0 y1 y2 p0 p1 p2 p3 hP hv
  have f3 : (2 * top : Int) = ((2 * top : Nat) : Int) := by omega
  generalize hA : 2 * top + h = A at *
  generalize hB : 2 * top = B at *
  generalize hC : 19 * A = C at *
  generalize hD : l + c2 = D at *
  clear hA hC hD
  go_enter Tryd.func40, Tryd.ntmps40
  go_wp2_with (first | simp only [K0, K1, K2] | (go_at_call 51; refine (HB.out _ (hP2.out.fr (((Fr.refl [] w).alloc _).alloc _))).mono ?_; rintro e V ⟨rfl, hF⟩; have B := (L4.new1 w _ 41 _ _ _ _).fr hF; have F := (((Fr.refl [] w).alloc _).alloc _).trans0 hF; obtain ⟨b0c, b1c, b2c, b3c, b4c, b5c, b6c, b7c, b8c, b9c⟩ := B.all; clear hF))
  simp [bodyPost, results, Tryd.results40, go_sem, *]
  exact F.set4 (by omega) _ _ _ _

end Go.Proofs.YthbkhbfcocbnoaaDoor
