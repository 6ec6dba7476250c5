/-
  Words of package num: row, and four words as one number: plus, minus, pick, alike, mask, lowest. No statement is proved here.
-/
import Derived.Test.YtpdagpjjlnncbaaDoorBase
import Derived.Laws.BitsAllLaws
namespace Go.Proofs.YtpdagpjjlnncbaaDoor
open Go.RowKit Go.Lib
set_option linter.unusedVariables false
set_option linter.unusedSimpArgs false
set_option maxRecDepth 1000000
set_option maxHeartbeats 4000000

theorem step_0 (x y s : Nat) (hx : x < 18446744073709551616) (hy : y < 18446744073709551616) (hs : s < 18446744073709551616) : ∃ l h : Nat, l < 18446744073709551616 ∧ h < 18446744073709551616 ∧ l + 18446744073709551616 * h = x * y + s ∧ ∀ w : World, Calls Tryd.prog 100 #[.int .u64 (x : Nat), .int .u64 (y : Nat), .int .u64 (s : Nat), .int .u64 0] w fun e w' => e = .returned (.tuple #[.int .u64 (l : Nat), .int .u64 (h : Nat)]) ∧ w' = w := step_any x y s 0 hx hy hs (by decide)
/-- row: x times four words and four words more, in five. -/
theorem row_any (x b0 b1 b2 b3 s0 s1 s2 s3 : Nat) (hx : x < 18446744073709551616) (h0 : b0 < 18446744073709551616) (h1 : b1 < 18446744073709551616) (h2 : b2 < 18446744073709551616) (h3 : b3 < 18446744073709551616) (k0 : s0 < 18446744073709551616) (k1 : s1 < 18446744073709551616) (k2 : s2 < 18446744073709551616) (k3 : s3 < 18446744073709551616) :
    ∃ r0 r1 r2 r3 c : Nat, r0 < 18446744073709551616 ∧ r1 < 18446744073709551616 ∧ r2 < 18446744073709551616 ∧ r3 < 18446744073709551616 ∧ c < 18446744073709551616 ∧ r0 + 18446744073709551616 * r1 + 340282366920938463463374607431768211456 * r2 + 6277101735386680763835789423207666416102355444464034512896 * r3 + 115792089237316195423570985008687907853269984665640564039457584007913129639936 * c = x * (b0 + 18446744073709551616 * b1 + 340282366920938463463374607431768211456 * b2 + 6277101735386680763835789423207666416102355444464034512896 * b3) + (s0 + 18446744073709551616 * s1 + 340282366920938463463374607431768211456 * s2 + 6277101735386680763835789423207666416102355444464034512896 * s3) ∧
      ∀ w : World, Calls Tryd.prog 94 #[.int .u64 (x : Nat), .int .u64 (b0 : Nat), .int .u64 (b1 : Nat), .int .u64 (b2 : Nat), .int .u64 (b3 : Nat), .int .u64 (s0 : Nat), .int .u64 (s1 : Nat), .int .u64 (s2 : Nat), .int .u64 (s3 : Nat)] w fun e w' => e = .returned (.tuple #[.int .u64 (r0 : Nat), .int .u64 (r1 : Nat), .int .u64 (r2 : Nat), .int .u64 (r3 : Nat), .int .u64 (c : Nat)]) ∧ w' = w := by
  obtain ⟨r0, c0, p0, q0, e0, K0⟩ := step_0 x b0 s0 hx h0 k0
  obtain ⟨r1, c1, p1, q1, e1, K1⟩ := step_any x b1 s1 c0 hx h1 k1 q0
  obtain ⟨r2, c2, p2, q2, e2, K2⟩ := step_any x b2 s2 c1 hx h2 k2 q1
  obtain ⟨r3, c3, p3, q3, e3, K3⟩ := step_any x b3 s3 c2 hx h3 k3 q2
  refine ⟨r0, r1, r2, r3, c3, p0, p1, p2, p3, q3, ?_, fun w => ?_⟩
  · rw [Nat.mul_add, Nat.mul_add, Nat.mul_add, Nat.mul_left_comm x 18446744073709551616, Nat.mul_left_comm x 340282366920938463463374607431768211456, Nat.mul_left_comm x 6277101735386680763835789423207666416102355444464034512896]
    generalize x * b0 = y0 at *
    generalize x * b1 = y1 at *
    generalize x * b2 = y2 at *
    generalize x * b3 = y3 at *
    omega
  · clear e0 e1 e2 e3 p0 p1 p2 p3 q0 q1 q2 q3 hx h0 h1 h2 h3 k0 k1 k2 k3
    go_enter Tryd.func94, Tryd.ntmps94
    go_wp2_with (go_at_call 100; first | (with_reducible refine (K0 _).mono ?_; rintro e w' ⟨rfl, rfl⟩) | (with_reducible refine (K1 _).mono ?_; rintro e w' ⟨rfl, rfl⟩) | (with_reducible refine (K2 _).mono ?_; rintro e w' ⟨rfl, rfl⟩) | (with_reducible refine (K3 _).mono ?_; rintro e w' ⟨rfl, rfl⟩))
    simp [bodyPost, results, Tryd.results94, go_sem]

/-- Four words: a number below 2^256. -/
def wd (v : Nat) : Value := .agg #[.int .u64 ((v % 18446744073709551616 : Nat) : Int), .int .u64 ((v / 18446744073709551616 % 18446744073709551616 : Nat) : Int), .int .u64 ((v / 340282366920938463463374607431768211456 % 18446744073709551616 : Nat) : Int), .int .u64 ((v / 6277101735386680763835789423207666416102355444464034512896 % 18446744073709551616 : Nat) : Int)]
theorem wd_open (v : Nat) (h : v < 115792089237316195423570985008687907853269984665640564039457584007913129639936) : ∃ a0 a1 a2 a3 : Nat, a0 < 18446744073709551616 ∧ a1 < 18446744073709551616 ∧ a2 < 18446744073709551616 ∧ a3 < 18446744073709551616 ∧ v = a0 + 18446744073709551616 * a1 + 340282366920938463463374607431768211456 * a2 + 6277101735386680763835789423207666416102355444464034512896 * a3 ∧ wd v = .agg #[.int .u64 (a0 : Nat), .int .u64 (a1 : Nat), .int .u64 (a2 : Nat), .int .u64 (a3 : Nat)] :=
  ⟨v % 18446744073709551616, v / 18446744073709551616 % 18446744073709551616, v / 340282366920938463463374607431768211456 % 18446744073709551616, v / 6277101735386680763835789423207666416102355444464034512896 % 18446744073709551616, by omega, by omega, by omega, by omega, by omega, rfl⟩
theorem wd_of {v a0 a1 a2 a3 : Nat} (h0 : a0 < 18446744073709551616) (h1 : a1 < 18446744073709551616) (h2 : a2 < 18446744073709551616) (h3 : a3 < 18446744073709551616) (h : v = a0 + 18446744073709551616 * a1 + 340282366920938463463374607431768211456 * a2 + 6277101735386680763835789423207666416102355444464034512896 * a3) : Value.agg #[.int .u64 (a0 : Nat), .int .u64 (a1 : Nat), .int .u64 (a2 : Nat), .int .u64 (a3 : Nat)] = wd v := by
  have e0 : v % 18446744073709551616 = a0 := by omega
  have e1 : v / 18446744073709551616 % 18446744073709551616 = a1 := by omega
  have e2 : v / 340282366920938463463374607431768211456 % 18446744073709551616 = a2 := by omega
  have e3 : v / 6277101735386680763835789423207666416102355444464034512896 % 18446744073709551616 = a3 := by omega
  rw [wd, e0, e1, e2, e3]

theorem val_lt {a0 a1 a2 a3 : Nat} (h0 : a0 < 18446744073709551616) (h1 : a1 < 18446744073709551616) (h2 : a2 < 18446744073709551616) (h3 : a3 < 18446744073709551616) : a0 + 18446744073709551616 * a1 + 340282366920938463463374607431768211456 * a2 + 6277101735386680763835789423207666416102355444464034512896 * a3 < 115792089237316195423570985008687907853269984665640564039457584007913129639936 := by omega
theorem add_w {a b a0 a1 a2 a3 b0 b1 b2 b3 s0 s1 s2 s3 c0 c1 c2 c3 : Nat} (ea : a = a0 + 18446744073709551616 * a1 + 340282366920938463463374607431768211456 * a2 + 6277101735386680763835789423207666416102355444464034512896 * a3) (eb : b = b0 + 18446744073709551616 * b1 + 340282366920938463463374607431768211456 * b2 + 6277101735386680763835789423207666416102355444464034512896 * b3)
    (h0 : s0 + 18446744073709551616 * c0 = a0 + b0) (h1 : s1 + 18446744073709551616 * c1 = a1 + b1 + c0) (h2 : s2 + 18446744073709551616 * c2 = a2 + b2 + c1) (h3 : s3 + 18446744073709551616 * c3 = a3 + b3 + c2) : a + b = (s0 + 18446744073709551616 * s1 + 340282366920938463463374607431768211456 * s2 + 6277101735386680763835789423207666416102355444464034512896 * s3) + 115792089237316195423570985008687907853269984665640564039457584007913129639936 * c3 := by omega
theorem sub_w {a b a0 a1 a2 a3 b0 b1 b2 b3 s0 s1 s2 s3 c0 c1 c2 c3 : Nat} (ea : a = a0 + 18446744073709551616 * a1 + 340282366920938463463374607431768211456 * a2 + 6277101735386680763835789423207666416102355444464034512896 * a3) (eb : b = b0 + 18446744073709551616 * b1 + 340282366920938463463374607431768211456 * b2 + 6277101735386680763835789423207666416102355444464034512896 * b3)
    (h0 : s0 + b0 = a0 + 18446744073709551616 * c0) (h1 : s1 + b1 + c0 = a1 + 18446744073709551616 * c1) (h2 : s2 + b2 + c1 = a2 + 18446744073709551616 * c2) (h3 : s3 + b3 + c2 = a3 + 18446744073709551616 * c3) : (s0 + 18446744073709551616 * s1 + 340282366920938463463374607431768211456 * s2 + 6277101735386680763835789423207666416102355444464034512896 * s3) + b = a + 115792089237316195423570985008687907853269984665640564039457584007913129639936 * c3 := by omega
theorem sub_v {a b v c : Nat} (hv : v < 115792089237316195423570985008687907853269984665640564039457584007913129639936) (ha : a < 115792089237316195423570985008687907853269984665640564039457584007913129639936) (hb : b < 115792089237316195423570985008687907853269984665640564039457584007913129639936) (hc : c ≤ 1) (h : v + b = a + 115792089237316195423570985008687907853269984665640564039457584007913129639936 * c) : (a + 115792089237316195423570985008687907853269984665640564039457584007913129639936 - b) % 115792089237316195423570985008687907853269984665640564039457584007913129639936 = v ∧ (if a < b then 1 else 0) = c := by
  have : c = 0 ∨ c = 1 := by omega
  rcases this with rfl | rfl
  · have e : a + 115792089237316195423570985008687907853269984665640564039457584007913129639936 - b = v + 115792089237316195423570985008687907853269984665640564039457584007913129639936 := by omega
    rw [e, Nat.add_mod_right, Nat.mod_eq_of_lt hv, if_neg (by omega)]
    exact ⟨rfl, rfl⟩
  · have e : a + 115792089237316195423570985008687907853269984665640564039457584007913129639936 - b = v := by omega
    rw [e, Nat.mod_eq_of_lt hv, if_pos (by omega)]
    exact ⟨rfl, rfl⟩

theorem plus_any (a b : Nat) (ha : a < 115792089237316195423570985008687907853269984665640564039457584007913129639936) (hb : b < 115792089237316195423570985008687907853269984665640564039457584007913129639936) (w : World) : Calls Tryd.prog 87 #[wd a, wd b] w fun e w' => e = .returned (wd ((a + b) % 115792089237316195423570985008687907853269984665640564039457584007913129639936)) ∧ Fr [] w w' := by
  obtain ⟨a0, a1, a2, a3, p0, p1, p2, p3, ea, wa⟩ := wd_open a ha
  obtain ⟨b0, b1, b2, b3, q0, q1, q2, q3, eb, wb⟩ := wd_open b hb
  obtain ⟨s0, c0, x0, y0, z0, K0⟩ := add64_0 a0 b0 p0 q0
  obtain ⟨s1, c1, x1, y1, z1, K1⟩ := add64 a1 b1 c0 p1 q1 y0
  obtain ⟨s2, c2, x2, y2, z2, K2⟩ := add64 a2 b2 c1 p2 q2 y1
  obtain ⟨s3, c3, x3, y3, z3, K3⟩ := add64 a3 b3 c2 p3 q3 y2
  have hr := wd_of (v := (a + b) % 115792089237316195423570985008687907853269984665640564039457584007913129639936) x0 x1 x2 x3 (by rw [add_w ea eb z0 z1 z2 z3, Nat.add_mul_mod_self_left, Nat.mod_eq_of_lt (val_lt x0 x1 x2 x3)])
  rw [wa, wb, ← hr]
  clear hr wa wb ea eb ha hb p0 p1 p2 p3 q0 q1 q2 q3 x0 x1 x2 x3 y0 y1 y2 y3 z0 z1 z2 z3
  go_enter Tryd.func87, Tryd.ntmps87
  go_wp2_with (simp only [K0, K1, K2, K3])
  simp [bodyPost, results, Tryd.results87, go_sem]
  exact (((Fr.refl [] w).alloc _).alloc _).alloc _


/-- The borrow of a difference. -/
def bo (a b : Nat) : Nat := if a < b then 1 else 0
theorem minus_any (a b : Nat) (ha : a < 115792089237316195423570985008687907853269984665640564039457584007913129639936) (hb : b < 115792089237316195423570985008687907853269984665640564039457584007913129639936) (w : World) : Calls Tryd.prog 62 #[wd a, wd b] w fun e w' => e = .returned (.tuple #[wd ((a + 115792089237316195423570985008687907853269984665640564039457584007913129639936 - b) % 115792089237316195423570985008687907853269984665640564039457584007913129639936), .int .u64 (bo a b : Nat)]) ∧ Fr [] w w' := by
  obtain ⟨a0, a1, a2, a3, p0, p1, p2, p3, ea, wa⟩ := wd_open a ha
  obtain ⟨b0, b1, b2, b3, q0, q1, q2, q3, eb, wb⟩ := wd_open b hb
  obtain ⟨s0, c0, x0, y0, z0, K0⟩ := sub64_0 a0 b0 p0 q0
  obtain ⟨s1, c1, x1, y1, z1, K1⟩ := sub64 a1 b1 c0 p1 q1 y0
  obtain ⟨s2, c2, x2, y2, z2, K2⟩ := sub64 a2 b2 c1 p2 q2 y1
  obtain ⟨s3, c3, x3, y3, z3, K3⟩ := sub64 a3 b3 c2 p3 q3 y2
  have hd := sub_v (val_lt x0 x1 x2 x3) ha hb y3 (sub_w ea eb z0 z1 z2 z3)
  have hr := wd_of (v := (a + 115792089237316195423570985008687907853269984665640564039457584007913129639936 - b) % 115792089237316195423570985008687907853269984665640564039457584007913129639936) x0 x1 x2 x3 hd.1
  have hc : bo a b = c3 := hd.2
  rw [wa, wb, ← hr, hc]
  clear hd hc hr wa wb ea eb ha hb p0 p1 p2 p3 q0 q1 q2 q3 x0 x1 x2 x3 y0 y1 y2 y3 z0 z1 z2 z3
  go_enter Tryd.func62, Tryd.ntmps62
  go_wp2_with (simp only [K0, K1, K2, K3])
  simp [bodyPost, results, Tryd.results62, go_sem]
  exact (((Fr.refl [] w).alloc _).alloc _).alloc _

theorem xx (a b : Nat) (ha : a < 18446744073709551616) (hb : b < 18446744073709551616) : bits .xor .u64 (a : Int) (b : Int) = ((a ^^^ b : Nat) : Int) := bits_xor_u64_nat a b ha hb
theorem xlt {a b : Nat} (ha : a < 18446744073709551616) (hb : b < 18446744073709551616) : a ^^^ b < 18446744073709551616 := Nat.xor_lt_two_pow (n := 64) ha hb
theorem aones (a : Nat) (ha : a < 18446744073709551616) : bits .and .u64 18446744073709551615 (a : Int) = (a : Int) := by
  have h := bits_and_u64_nat 18446744073709551615 a (by decide) ha
  have e : 18446744073709551615 &&& a = a := by
    rw [Nat.and_comm]; exact (Nat.and_two_pow_sub_one_eq_mod a 64).trans (Nat.mod_eq_of_lt ha)
  rw [e] at h
  exact h
theorem azero (a : Nat) (ha : a < 18446744073709551616) : bits .and .u64 0 (a : Int) = 0 := by
  have h := bits_and_u64_nat 0 a (by decide) ha
  rw [Nat.zero_and] at h
  exact h
theorem xzero (a : Nat) (ha : a < 18446744073709551616) : bits .xor .u64 (a : Int) 0 = (a : Int) := by
  have h := bits_xor_u64_nat a 0 ha (by decide)
  rw [Nat.xor_zero] at h
  exact h
theorem xback (a b : Nat) (ha : a < 18446744073709551616) (hb : b < 18446744073709551616) : bits .xor .u64 (a : Int) ((a ^^^ b : Nat) : Int) = (b : Int) := by
  have h := bits_xor_u64_nat a (a ^^^ b) ha (xlt ha hb)
  rw [← Nat.xor_assoc, Nat.xor_self, Nat.zero_xor] at h
  exact h
theorem pick_yes (a b : Nat) (ha : a < 115792089237316195423570985008687907853269984665640564039457584007913129639936) (hb : b < 115792089237316195423570985008687907853269984665640564039457584007913129639936) (w : World) : Calls Tryd.prog 88 #[.int .u64 18446744073709551615, wd a, wd b] w fun e w' => e = .returned (wd b) ∧ Fr [] w w' := by
  obtain ⟨a0, a1, a2, a3, p0, p1, p2, p3, ea, wa⟩ := wd_open a ha
  obtain ⟨b0, b1, b2, b3, q0, q1, q2, q3, eb, wb⟩ := wd_open b hb
  have f0 := xx a0 b0 p0 q0
  have f1 := xx a1 b1 p1 q1
  have f2 := xx a2 b2 p2 q2
  have f3 := xx a3 b3 p3 q3
  have g0 := aones _ (xlt p0 q0)
  have g1 := aones _ (xlt p1 q1)
  have g2 := aones _ (xlt p2 q2)
  have g3 := aones _ (xlt p3 q3)
  have k0 := xback a0 b0 p0 q0
  have k1 := xback a1 b1 p1 q1
  have k2 := xback a2 b2 p2 q2
  have k3 := xback a3 b3 p3 q3
  rw [wa, wb]
  clear wa wb ea eb ha hb p0 p1 p2 p3 q0 q1 q2 q3
  generalize a0 ^^^ b0 = x0 at *
  generalize a1 ^^^ b1 = x1 at *
  generalize a2 ^^^ b2 = x2 at *
  generalize a3 ^^^ b3 = x3 at *
  go_enter Tryd.func88, Tryd.ntmps88
  go_wp2
  simp [bodyPost, results, Tryd.results88, go_sem, f0, f1, f2, f3, g0, g1, g2, g3, k0, k1, k2, k3]
  exact (((Fr.refl [] w).alloc _).alloc _).alloc _
theorem pick_no (a b : Nat) (ha : a < 115792089237316195423570985008687907853269984665640564039457584007913129639936) (hb : b < 115792089237316195423570985008687907853269984665640564039457584007913129639936) (w : World) : Calls Tryd.prog 88 #[.int .u64 0, wd a, wd b] w fun e w' => e = .returned (wd a) ∧ Fr [] w w' := by
  obtain ⟨a0, a1, a2, a3, p0, p1, p2, p3, ea, wa⟩ := wd_open a ha
  obtain ⟨b0, b1, b2, b3, q0, q1, q2, q3, eb, wb⟩ := wd_open b hb
  have f0 := xx a0 b0 p0 q0
  have f1 := xx a1 b1 p1 q1
  have f2 := xx a2 b2 p2 q2
  have f3 := xx a3 b3 p3 q3
  have g0 := azero _ (xlt p0 q0)
  have g1 := azero _ (xlt p1 q1)
  have g2 := azero _ (xlt p2 q2)
  have g3 := azero _ (xlt p3 q3)
  have k0 := xzero a0 p0
  have k1 := xzero a1 p1
  have k2 := xzero a2 p2
  have k3 := xzero a3 p3
  rw [wa, wb]
  clear wa wb ea eb ha hb p0 p1 p2 p3 q0 q1 q2 q3
  generalize a0 ^^^ b0 = x0 at *
  generalize a1 ^^^ b1 = x1 at *
  generalize a2 ^^^ b2 = x2 at *
  generalize a3 ^^^ b3 = x3 at *
  go_enter Tryd.func88, Tryd.ntmps88
  go_wp2
  simp [bodyPost, results, Tryd.results88, go_sem, f0, f1, f2, f3, g0, g1, g2, g3, k0, k1, k2, k3]
  exact (((Fr.refl [] w).alloc _).alloc _).alloc _

/-- A mask. -/
def mk (s : Bool) : Int := bif s then 18446744073709551615 else 0
theorem pick_any (s : Bool) (a b : Nat) (ha : a < 115792089237316195423570985008687907853269984665640564039457584007913129639936) (hb : b < 115792089237316195423570985008687907853269984665640564039457584007913129639936) (w : World) : Calls Tryd.prog 88 #[.int .u64 (mk s), wd a, wd b] w fun e w' => e = .returned (wd (bif s then b else a)) ∧ Fr [] w w' := by
  cases s
  · exact pick_no a b ha hb w
  · exact pick_yes a b ha hb w

theorem mask_any (s : Bool) (w : World) : Calls Tryd.prog 92 #[.bool s] w fun e w' => e = .returned (.int .u64 (mk s)) ∧ w' = w := by
  cases s
  · go_enter Tryd.func92, Tryd.ntmps92
    go_wp2
    go_ret
    exact ⟨rfl, rfl⟩
  · go_enter Tryd.func92, Tryd.ntmps92
    go_wp2
    go_ret
    exact ⟨rfl, rfl⟩

end Go.Proofs.YtpdagpjjlnncbaaDoor
