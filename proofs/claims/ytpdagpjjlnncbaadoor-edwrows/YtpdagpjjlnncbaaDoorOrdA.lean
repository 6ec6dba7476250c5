/-
  Words of package order: the bare steps (Add64, Sub64, Mul64, step, row), and what four words are. No statement is proved here.
-/
import Derived.Test.YtpdagpjjlnncbaaDoorBase
import Derived.Lib.Mul64
import Derived.Laws.Bits64b
import Derived.Laws.Externs
import Derived.Laws.BitsAllLaws
namespace Go.Proofs.YtpdagpjjlnncbaaDoor.Ord
open Go.RowKit Go.Lib
set_option linter.unusedVariables false
set_option linter.unusedSimpArgs false
set_option maxRecDepth 1000000
set_option maxHeartbeats 4000000


def subEntry : Array Value → Sem Value := fun args => do
  let (x, y, b) ← Extern.MathBitsCarry.three "Sub64" args
  pure (Extern.MathBitsCarry.pair ((x + Extern.MathBitsCarry.m64 - y - b) % Extern.MathBitsCarry.m64) (if x < y + b then 1 else 0))

theorem add64 (x y c : Nat) (hx : x < 18446744073709551616) (hy : y < 18446744073709551616) (hc : c ≤ 1) : ∃ s d : Nat, s < 18446744073709551616 ∧ d ≤ 1 ∧ s + 18446744073709551616 * d = x + y + c ∧ ∀ w : World, (callFunc 95 #[.int .u64 (x : Nat), .int .u64 (y : Nat), .int .u64 (c : Nat)]).run Tryd.prog w = .ok (.value (.tuple #[.int .u64 (s : Nat), .int .u64 (d : Nat)])) w := by
  refine ⟨(x + y + c) % 18446744073709551616, (x + y + c) / 18446744073709551616, Nat.mod_lt _ (by decide), by omega, by omega, fun w => ?_⟩
  rw [run_callFunc_extern Tryd.func95 (by kernel_rfl) (by kernel_rfl) (by kernel_rfl) (e := add64Entry) (by kernel_rfl), run_add64 x y c (by omega) (by omega) (by omega) (by omega)]
  simp only [Result.andThen]
  congr 5 <;> omega
theorem add64_0 (x y : Nat) (hx : x < 18446744073709551616) (hy : y < 18446744073709551616) : ∃ s d : Nat, s < 18446744073709551616 ∧ d ≤ 1 ∧ s + 18446744073709551616 * d = x + y ∧ ∀ w : World, (callFunc 95 #[.int .u64 (x : Nat), .int .u64 (y : Nat), .int .u64 0]).run Tryd.prog w = .ok (.value (.tuple #[.int .u64 (s : Nat), .int .u64 (d : Nat)])) w := add64 x y 0 hx hy (by decide)
theorem add64_z (x c : Nat) (hx : x < 18446744073709551616) (hc : c ≤ 1) : ∃ s d : Nat, s < 18446744073709551616 ∧ d ≤ 1 ∧ s + 18446744073709551616 * d = x + c ∧ ∀ w : World, (callFunc 95 #[.int .u64 (x : Nat), .int .u64 0, .int .u64 (c : Nat)]).run Tryd.prog w = .ok (.value (.tuple #[.int .u64 (s : Nat), .int .u64 (d : Nat)])) w := add64 x 0 c hx (by decide) hc
theorem sub64 (x y b : Nat) (hx : x < 18446744073709551616) (hy : y < 18446744073709551616) (hb : b ≤ 1) : ∃ s d : Nat, s < 18446744073709551616 ∧ d ≤ 1 ∧ s + y + b = x + 18446744073709551616 * d ∧ ∀ w : World, (callFunc 85 #[.int .u64 (x : Nat), .int .u64 (y : Nat), .int .u64 (b : Nat)]).run Tryd.prog w = .ok (.value (.tuple #[.int .u64 (s : Nat), .int .u64 (d : Nat)])) w := by
  refine ⟨(x + 18446744073709551616 - y - b) % 18446744073709551616, if x < y + b then 1 else 0, Nat.mod_lt _ (by decide), by split <;> omega, by split <;> omega, fun w => ?_⟩
  rw [run_callFunc_extern Tryd.func85 (by kernel_rfl) (by kernel_rfl) (by kernel_rfl) (e := subEntry) (by kernel_rfl)]
  have : b = 0 ∨ b = 1 := by omega
  rcases this with rfl | rfl <;> rfl
theorem sub64_0 (x y : Nat) (hx : x < 18446744073709551616) (hy : y < 18446744073709551616) : ∃ s d : Nat, s < 18446744073709551616 ∧ d ≤ 1 ∧ s + y = x + 18446744073709551616 * d ∧ ∀ w : World, (callFunc 85 #[.int .u64 (x : Nat), .int .u64 (y : Nat), .int .u64 0]).run Tryd.prog w = .ok (.value (.tuple #[.int .u64 (s : Nat), .int .u64 (d : Nat)])) w := sub64 x y 0 hx hy (by decide)

theorem maskN (a : Nat) (ha : a < 18446744073709551616) : bits .and .u64 (a : Int) 4294967295 = ((a % 4294967296 : Nat) : Int) := by
  have h := bits_and_u64_nat a 4294967295 ha (by omega)
  have e : a &&& 4294967295 = a % 4294967296 := Nat.and_two_pow_sub_one_eq_mod a 32
  rw [e] at h
  exact h
theorem divN (a : Nat) : (a : Int) / 4294967296 = ((a / 4294967296 : Nat) : Int) := by omega
theorem mulN (a b : Nat) : (a : Int) * (b : Int) = ((a * b : Nat) : Int) := (Int.natCast_mul a b).symm
theorem addN (a b : Nat) : (a : Int) + (b : Int) = ((a + b : Nat) : Int) := (Int.natCast_add a b).symm
theorem wrapN (a : Nat) (ha : a < 18446744073709551616) : IntKind.u64.wrap (a : Int) = (a : Int) := by rw [IntKind.wrap_u64]; omega
theorem wrapM (a : Nat) : IntKind.u64.wrap (a : Int) = ((a % 18446744073709551616 : Nat) : Int) := by rw [IntKind.wrap_u64]; omega

theorem mul64 (x y : Nat) (hx : x < 18446744073709551616) (hy : y < 18446744073709551616) (w : World) : Calls Tryd.prog 98 #[.int .u64 (x : Nat), .int .u64 (y : Nat)] w fun e w' => e = .returned (.tuple #[.int .u64 ((x * y / 18446744073709551616 : Nat) : Int), .int .u64 ((x * y % 18446744073709551616 : Nat) : Int)]) ∧ w' = w := by
  obtain ⟨bd, bt, bw, hhi⟩ := Lib.mul64_hi x y hx hy
  have ba := Lib.half_mul_le (a := x / 4294967296) (b := y / 4294967296) (by omega) (by omega)
  have bb := Lib.half_mul_le (a := x / 4294967296) (b := y % 4294967296) (by omega) (by omega)
  have bc := Lib.half_mul_le (a := x % 4294967296) (b := y / 4294967296) (by omega) (by omega)
  have ba' : x / 4294967296 * (y / 4294967296) < 18446744073709551616 := by omega
  have bb' : x / 4294967296 * (y % 4294967296) < 18446744073709551616 := by omega
  have bc' : x % 4294967296 * (y / 4294967296) < 18446744073709551616 := by omega
  have bh1 : x / 4294967296 * (y / 4294967296) + (x / 4294967296 * (y % 4294967296) + x % 4294967296 * (y % 4294967296) / 4294967296) / 4294967296 < 18446744073709551616 := by omega
  have bh : x / 4294967296 * (y / 4294967296) + (x / 4294967296 * (y % 4294967296) + x % 4294967296 * (y % 4294967296) / 4294967296) / 4294967296 + ((x / 4294967296 * (y % 4294967296) + x % 4294967296 * (y % 4294967296) / 4294967296) % 4294967296 + x % 4294967296 * (y / 4294967296)) / 4294967296 < 18446744073709551616 := by omega
  go_enter Tryd.func98, Tryd.ntmps98
  go_wp2
  simp only [maskN x hx, maskN y hy, divN, mulN, addN, wrapN _ bd, wrapN _ bb', wrapN _ bt, maskN _ bt, wrapN _ bc', wrapN _ bw, wrapN _ ba', wrapN _ bh1, wrapN _ bh, wrapM (x * y)]
  rw [hhi]
  go_ret2
  exact ⟨rfl, rfl⟩

theorem step_arith {x y s c : Nat} (hx : x < 18446744073709551616) (hy : y < 18446744073709551616) (hs : s < 18446744073709551616) (hc : c < 18446744073709551616) : x * y / 18446744073709551616 < 18446744073709551616 ∧ x * y + s + c < 18446744073709551616 * 18446744073709551616 := by
  have h := Nat.mul_le_mul (show x ≤ 18446744073709551616 - 1 by omega) (show y ≤ 18446744073709551616 - 1 by omega)
  generalize x * y = z at *
  exact ⟨by omega, by omega⟩
/-- step: x * y + s + c in two words. -/
theorem step_any (x y s c : Nat) (hx : x < 18446744073709551616) (hy : y < 18446744073709551616) (hs : s < 18446744073709551616) (hc : c < 18446744073709551616) : ∃ l h : Nat, l < 18446744073709551616 ∧ h < 18446744073709551616 ∧ l + 18446744073709551616 * h = x * y + s + c ∧ ∀ w : World, Calls Tryd.prog 84 #[.int .u64 (x : Nat), .int .u64 (y : Nat), .int .u64 (s : Nat), .int .u64 (c : Nat)] w fun e w' => e = .returned (.tuple #[.int .u64 (l : Nat), .int .u64 (h : Nat)]) ∧ w' = w := by
  obtain ⟨z1, z2⟩ := step_arith hx hy hs hc
  have K := fun w => mul64 x y hx hy w
  have hz : x * y = x * y % 18446744073709551616 + 18446744073709551616 * (x * y / 18446744073709551616) := by omega
  have hl : x * y % 18446744073709551616 < 18446744073709551616 := Nat.mod_lt _ (by decide)
  generalize x * y = z at *
  generalize z % 18446744073709551616 = zl at *
  generalize z / 18446744073709551616 = zh at *
  obtain ⟨l1, d1, a1, a2, a3, e1⟩ := add64_0 zl s hl hs
  obtain ⟨l2, d2, b1, b2, b3, e2⟩ := add64_0 l1 c a1 hc
  have w1 : IntKind.u64.wrap ((zh : Int) + (d1 : Int)) = ((zh + d1 : Nat) : Int) := by rw [addN, wrapN]; omega
  have w2 : IntKind.u64.wrap (((zh + d1 : Nat) : Int) + (d2 : Int)) = ((zh + d1 + d2 : Nat) : Int) := by rw [addN, wrapN]; omega
  have w2' : IntKind.u64.wrap ((zh : Int) + (d1 : Int) + (d2 : Int)) = ((zh + d1 + d2 : Nat) : Int) := by rw [addN, addN, wrapN]; omega
  have w3 : ((zh + d1 : Nat) : Int) = (zh : Int) + (d1 : Int) := by omega
  refine ⟨l2, zh + d1 + d2, b1, by omega, by omega, fun w => ?_⟩
  clear hz hl z1 z2 a3 b3
  generalize hH : zh + d1 + d2 = H at *
  go_enter Tryd.func84, Tryd.ntmps84
  go_wp2_with (first | (go_at_call 98; refine (K _).mono ?_; rintro e w' ⟨rfl, rfl⟩) | simp only [e1, e2])
  go_ret2
  first | exact ⟨rfl, rfl⟩ | (simp [w1, w2, w2', w3])

/-- Four words: a number below 2^256. -/
def wd (v : Nat) : Value := .agg #[.int .u64 ((v % 18446744073709551616 : Nat) : Int), .int .u64 ((v / 18446744073709551616 % 18446744073709551616 : Nat) : Int), .int .u64 ((v / 340282366920938463463374607431768211456 % 18446744073709551616 : Nat) : Int), .int .u64 ((v / 6277101735386680763835789423207666416102355444464034512896 % 18446744073709551616 : Nat) : Int)]
theorem wd_open (v : Nat) (h : v < 115792089237316195423570985008687907853269984665640564039457584007913129639936) : ∃ a0 a1 a2 a3 : Nat, a0 < 18446744073709551616 ∧ a1 < 18446744073709551616 ∧ a2 < 18446744073709551616 ∧ a3 < 18446744073709551616 ∧ v = a0 + 18446744073709551616 * a1 + 340282366920938463463374607431768211456 * a2 + 6277101735386680763835789423207666416102355444464034512896 * a3 ∧ wd v = .agg #[.int .u64 (a0 : Nat), .int .u64 (a1 : Nat), .int .u64 (a2 : Nat), .int .u64 (a3 : Nat)] :=
  ⟨v % 18446744073709551616, v / 18446744073709551616 % 18446744073709551616, v / 340282366920938463463374607431768211456 % 18446744073709551616, v / 6277101735386680763835789423207666416102355444464034512896 % 18446744073709551616, by omega, by omega, by omega, by omega, by omega, rfl⟩
theorem wd_of {v a0 a1 a2 a3 : Nat} (h0 : a0 < 18446744073709551616) (h1 : a1 < 18446744073709551616) (h2 : a2 < 18446744073709551616) (h3 : a3 < 18446744073709551616) (h : v = a0 + 18446744073709551616 * a1 + 340282366920938463463374607431768211456 * a2 + 6277101735386680763835789423207666416102355444464034512896 * a3) : Value.agg #[.int .u64 (a0 : Nat), .int .u64 (a1 : Nat), .int .u64 (a2 : Nat), .int .u64 (a3 : Nat)] = wd v := by
  have e0 : v % 18446744073709551616 = a0 := by omega
  have e1 : v / 18446744073709551616 % 18446744073709551616 = a1 := by omega
  have e2 : v / 340282366920938463463374607431768211456 % 18446744073709551616 = a2 := by omega
  have e3 : v / 6277101735386680763835789423207666416102355444464034512896 % 18446744073709551616 = a3 := by omega
  rw [wd, e0, e1, e2, e3]

theorem val_lt {a0 a1 a2 a3 : Nat} (h0 : a0 < 18446744073709551616) (h1 : a1 < 18446744073709551616) (h2 : a2 < 18446744073709551616) (h3 : a3 < 18446744073709551616) : a0 + 18446744073709551616 * a1 + 340282366920938463463374607431768211456 * a2 + 6277101735386680763835789423207666416102355444464034512896 * a3 < 115792089237316195423570985008687907853269984665640564039457584007913129639936 := by omega
theorem add_w {a b a0 a1 a2 a3 b0 b1 b2 b3 s0 s1 s2 s3 c0 c1 c2 c3 : Nat} (ea : a = a0 + 18446744073709551616 * a1 + 340282366920938463463374607431768211456 * a2 + 6277101735386680763835789423207666416102355444464034512896 * a3) (eb : b = b0 + 18446744073709551616 * b1 + 340282366920938463463374607431768211456 * b2 + 6277101735386680763835789423207666416102355444464034512896 * b3)
    (h0 : s0 + 18446744073709551616 * c0 = a0 + b0) (h1 : s1 + 18446744073709551616 * c1 = a1 + b1 + c0) (h2 : s2 + 18446744073709551616 * c2 = a2 + b2 + c1) (h3 : s3 + 18446744073709551616 * c3 = a3 + b3 + c2) : a + b = (s0 + 18446744073709551616 * s1 + 340282366920938463463374607431768211456 * s2 + 6277101735386680763835789423207666416102355444464034512896 * s3) + 115792089237316195423570985008687907853269984665640564039457584007913129639936 * c3 := by omega
theorem sub_w {a b a0 a1 a2 a3 b0 b1 b2 b3 s0 s1 s2 s3 c0 c1 c2 c3 : Nat} (ea : a = a0 + 18446744073709551616 * a1 + 340282366920938463463374607431768211456 * a2 + 6277101735386680763835789423207666416102355444464034512896 * a3) (eb : b = b0 + 18446744073709551616 * b1 + 340282366920938463463374607431768211456 * b2 + 6277101735386680763835789423207666416102355444464034512896 * b3)
    (h0 : s0 + b0 = a0 + 18446744073709551616 * c0) (h1 : s1 + b1 + c0 = a1 + 18446744073709551616 * c1) (h2 : s2 + b2 + c1 = a2 + 18446744073709551616 * c2) (h3 : s3 + b3 + c2 = a3 + 18446744073709551616 * c3) : (s0 + 18446744073709551616 * s1 + 340282366920938463463374607431768211456 * s2 + 6277101735386680763835789423207666416102355444464034512896 * s3) + b = a + 115792089237316195423570985008687907853269984665640564039457584007913129639936 * c3 := by omega
theorem sub_v {a b v c : Nat} (hv : v < 115792089237316195423570985008687907853269984665640564039457584007913129639936) (ha : a < 115792089237316195423570985008687907853269984665640564039457584007913129639936) (hb : b < 115792089237316195423570985008687907853269984665640564039457584007913129639936) (hc : c ≤ 1) (h : v + b = a + 115792089237316195423570985008687907853269984665640564039457584007913129639936 * c) : (a + 115792089237316195423570985008687907853269984665640564039457584007913129639936 - b) % 115792089237316195423570985008687907853269984665640564039457584007913129639936 = v ∧ (if a < b then 1 else 0) = c := by
  have : c = 0 ∨ c = 1 := by omega
  rcases this with rfl | rfl
  · have e : a + 115792089237316195423570985008687907853269984665640564039457584007913129639936 - b = v + 115792089237316195423570985008687907853269984665640564039457584007913129639936 := by omega
    rw [e, Nat.add_mod_right, Nat.mod_eq_of_lt hv, if_neg (by omega)]
    exact ⟨rfl, rfl⟩
  · have e : a + 115792089237316195423570985008687907853269984665640564039457584007913129639936 - b = v := by omega
    rw [e, Nat.mod_eq_of_lt hv, if_pos (by omega)]
    exact ⟨rfl, rfl⟩

/-- The borrow of a difference. -/
def bo (a b : Nat) : Nat := if a < b then 1 else 0
theorem xx (a b : Nat) (ha : a < 18446744073709551616) (hb : b < 18446744073709551616) : bits .xor .u64 (a : Int) (b : Int) = ((a ^^^ b : Nat) : Int) := bits_xor_u64_nat a b ha hb
theorem xlt {a b : Nat} (ha : a < 18446744073709551616) (hb : b < 18446744073709551616) : a ^^^ b < 18446744073709551616 := Nat.xor_lt_two_pow (n := 64) ha hb
theorem aones (a : Nat) (ha : a < 18446744073709551616) : bits .and .u64 18446744073709551615 (a : Int) = (a : Int) := by
  have h := bits_and_u64_nat 18446744073709551615 a (by decide) ha
  have e : 18446744073709551615 &&& a = a := by
    rw [Nat.and_comm]; exact (Nat.and_two_pow_sub_one_eq_mod a 64).trans (Nat.mod_eq_of_lt ha)
  rw [e] at h
  exact h
theorem azero (a : Nat) (ha : a < 18446744073709551616) : bits .and .u64 0 (a : Int) = 0 := by
  have h := bits_and_u64_nat 0 a (by decide) ha
  rw [Nat.zero_and] at h
  exact h
theorem xzero (a : Nat) (ha : a < 18446744073709551616) : bits .xor .u64 (a : Int) 0 = (a : Int) := by
  have h := bits_xor_u64_nat a 0 ha (by decide)
  rw [Nat.xor_zero] at h
  exact h
theorem xback (a b : Nat) (ha : a < 18446744073709551616) (hb : b < 18446744073709551616) : bits .xor .u64 (a : Int) ((a ^^^ b : Nat) : Int) = (b : Int) := by
  have h := bits_xor_u64_nat a (a ^^^ b) ha (xlt ha hb)
  rw [← Nat.xor_assoc, Nat.xor_self, Nat.zero_xor] at h
  exact h

end Go.Proofs.YtpdagpjjlnncbaaDoor.Ord
