/-
  Words of package num: the bare steps (Add64, Sub64, Mul64, step, row), and what four words are. No statement is proved here.
-/
import Derived.Test.YthbkhbfcocbnoaaDoorBase
import Derived.Lib.Mul64
import Derived.Laws.Bits64b
import Derived.Laws.Externs
namespace Go.Proofs.YthbkhbfcocbnoaaDoor
open Go.RowKit Go.Lib
set_option linter.unusedVariables false
set_option linter.unusedSimpArgs false
set_option maxRecDepth 1000000
set_option maxHeartbeats 4000000


def subEntry : Array Value → Sem Value := fun args => do
  let (x, y, b) ← Extern.MathBitsCarry.three "Sub64" args
  pure (Extern.MathBitsCarry.pair ((x + Extern.MathBitsCarry.m64 - y - b) % Extern.MathBitsCarry.m64) (if x < y + b then 1 else 0))

theorem add64 (x y c : Nat) (hx : x < 18446744073709551616) (hy : y < 18446744073709551616) (hc : c ≤ 1) : ∃ s d : Nat, s < 18446744073709551616 ∧ d ≤ 1 ∧ s + 18446744073709551616 * d = x + y + c ∧ ∀ w : World, (callFunc 50 #[.int .u64 (x : Nat), .int .u64 (y : Nat), .int .u64 (c : Nat)]).run Tryd.prog w = .ok (.value (.tuple #[.int .u64 (s : Nat), .int .u64 (d : Nat)])) w := by
  refine ⟨(x + y + c) % 18446744073709551616, (x + y + c) / 18446744073709551616, Nat.mod_lt _ (by decide), by omega, by omega, fun w => ?_⟩
  rw [run_callFunc_extern Tryd.func50 (by kernel_rfl) (by kernel_rfl) (by kernel_rfl) (e := add64Entry) (by kernel_rfl), run_add64 x y c (by omega) (by omega) (by omega) (by omega)]
  simp only [Result.andThen]
  congr 5 <;> omega
theorem add64_0 (x y : Nat) (hx : x < 18446744073709551616) (hy : y < 18446744073709551616) : ∃ s d : Nat, s < 18446744073709551616 ∧ d ≤ 1 ∧ s + 18446744073709551616 * d = x + y ∧ ∀ w : World, (callFunc 50 #[.int .u64 (x : Nat), .int .u64 (y : Nat), .int .u64 0]).run Tryd.prog w = .ok (.value (.tuple #[.int .u64 (s : Nat), .int .u64 (d : Nat)])) w := add64 x y 0 hx hy (by decide)
theorem add64_z (x c : Nat) (hx : x < 18446744073709551616) (hc : c ≤ 1) : ∃ s d : Nat, s < 18446744073709551616 ∧ d ≤ 1 ∧ s + 18446744073709551616 * d = x + c ∧ ∀ w : World, (callFunc 50 #[.int .u64 (x : Nat), .int .u64 0, .int .u64 (c : Nat)]).run Tryd.prog w = .ok (.value (.tuple #[.int .u64 (s : Nat), .int .u64 (d : Nat)])) w := add64 x 0 c hx (by decide) hc
theorem sub64 (x y b : Nat) (hx : x < 18446744073709551616) (hy : y < 18446744073709551616) (hb : b ≤ 1) : ∃ s d : Nat, s < 18446744073709551616 ∧ d ≤ 1 ∧ s + y + b = x + 18446744073709551616 * d ∧ ∀ w : World, (callFunc 65 #[.int .u64 (x : Nat), .int .u64 (y : Nat), .int .u64 (b : Nat)]).run Tryd.prog w = .ok (.value (.tuple #[.int .u64 (s : Nat), .int .u64 (d : Nat)])) w := by
  refine ⟨(x + 18446744073709551616 - y - b) % 18446744073709551616, if x < y + b then 1 else 0, Nat.mod_lt _ (by decide), by split <;> omega, by split <;> omega, fun w => ?_⟩
  rw [run_callFunc_extern Tryd.func65 (by kernel_rfl) (by kernel_rfl) (by kernel_rfl) (e := subEntry) (by kernel_rfl)]
  have : b = 0 ∨ b = 1 := by omega
  rcases this with rfl | rfl <;> rfl
theorem sub64_0 (x y : Nat) (hx : x < 18446744073709551616) (hy : y < 18446744073709551616) : ∃ s d : Nat, s < 18446744073709551616 ∧ d ≤ 1 ∧ s + y = x + 18446744073709551616 * d ∧ ∀ w : World, (callFunc 65 #[.int .u64 (x : Nat), .int .u64 (y : Nat), .int .u64 0]).run Tryd.prog w = .ok (.value (.tuple #[.int .u64 (s : Nat), .int .u64 (d : Nat)])) w := sub64 x y 0 hx hy (by decide)

theorem maskN (a : Nat) (ha : a < 18446744073709551616) : bits .and .u64 (a : Int) 4294967295 = ((a % 4294967296 : Nat) : Int) := by
  have h := bits_and_u64_nat a 4294967295 ha (by omega)
  have e : a &&& 4294967295 = a % 4294967296 := Nat.and_two_pow_sub_one_eq_mod a 32
  rw [e] at h
  exact h
theorem divN (a : Nat) : (a : Int) / 4294967296 = ((a / 4294967296 : Nat) : Int) := by omega
theorem mulN (a b : Nat) : (a : Int) * (b : Int) = ((a * b : Nat) : Int) := (Int.natCast_mul a b).symm
theorem addN (a b : Nat) : (a : Int) + (b : Int) = ((a + b : Nat) : Int) := (Int.natCast_add a b).symm
theorem wrapN (a : Nat) (ha : a < 18446744073709551616) : IntKind.u64.wrap (a : Int) = (a : Int) := by rw [IntKind.wrap_u64]; omega
theorem wrapM (a : Nat) : IntKind.u64.wrap (a : Int) = ((a % 18446744073709551616 : Nat) : Int) := by rw [IntKind.wrap_u64]; omega

theorem mul64 (x y : Nat) (hx : x < 18446744073709551616) (hy : y < 18446744073709551616) (w : World) : Calls Tryd.prog 66 #[.int .u64 (x : Nat), .int .u64 (y : Nat)] w fun e w' => e = .returned (.tuple #[.int .u64 ((x * y / 18446744073709551616 : Nat) : Int), .int .u64 ((x * y % 18446744073709551616 : Nat) : Int)]) ∧ w' = w := by
  obtain ⟨bd, bt, bw, hhi⟩ := Lib.mul64_hi x y hx hy
  have ba := Lib.half_mul_le (a := x / 4294967296) (b := y / 4294967296) (by omega) (by omega)
  have bb := Lib.half_mul_le (a := x / 4294967296) (b := y % 4294967296) (by omega) (by omega)
  have bc := Lib.half_mul_le (a := x % 4294967296) (b := y / 4294967296) (by omega) (by omega)
  have ba' : x / 4294967296 * (y / 4294967296) < 18446744073709551616 := by omega
  have bb' : x / 4294967296 * (y % 4294967296) < 18446744073709551616 := by omega
  have bc' : x % 4294967296 * (y / 4294967296) < 18446744073709551616 := by omega
  have bh1 : x / 4294967296 * (y / 4294967296) + (x / 4294967296 * (y % 4294967296) + x % 4294967296 * (y % 4294967296) / 4294967296) / 4294967296 < 18446744073709551616 := by omega
  have bh : x / 4294967296 * (y / 4294967296) + (x / 4294967296 * (y % 4294967296) + x % 4294967296 * (y % 4294967296) / 4294967296) / 4294967296 + ((x / 4294967296 * (y % 4294967296) + x % 4294967296 * (y % 4294967296) / 4294967296) % 4294967296 + x % 4294967296 * (y / 4294967296)) / 4294967296 < 18446744073709551616 := by omega
  go_enter Tryd.func66, Tryd.ntmps66
  go_wp2
  simp only [maskN x hx, maskN y hy, divN, mulN, addN, wrapN _ bd, wrapN _ bb', wrapN _ bt, maskN _ bt, wrapN _ bc', wrapN _ bw, wrapN _ ba', wrapN _ bh1, wrapN _ bh, wrapM (x * y)]
  rw [hhi]
  go_ret2
  exact ⟨rfl, rfl⟩

theorem step_arith {x y s c : Nat} (hx : x < 18446744073709551616) (hy : y < 18446744073709551616) (hs : s < 18446744073709551616) (hc : c < 18446744073709551616) : x * y / 18446744073709551616 < 18446744073709551616 ∧ x * y + s + c < 18446744073709551616 * 18446744073709551616 := by
  have h := Nat.mul_le_mul (show x ≤ 18446744073709551616 - 1 by omega) (show y ≤ 18446744073709551616 - 1 by omega)
  generalize x * y = z at *
  exact ⟨by omega, by omega⟩
/-- step: x * y + s + c in two words. -/
theorem step_any (x y s c : Nat) (hx : x < 18446744073709551616) (hy : y < 18446744073709551616) (hs : s < 18446744073709551616) (hc : c < 18446744073709551616) : ∃ l h : Nat, l < 18446744073709551616 ∧ h < 18446744073709551616 ∧ l + 18446744073709551616 * h = x * y + s + c ∧ ∀ w : World, Calls Tryd.prog 63 #[.int .u64 (x : Nat), .int .u64 (y : Nat), .int .u64 (s : Nat), .int .u64 (c : Nat)] w fun e w' => e = .returned (.tuple #[.int .u64 (l : Nat), .int .u64 (h : Nat)]) ∧ w' = w := by
  obtain ⟨z1, z2⟩ := step_arith hx hy hs hc
  have K := fun w => mul64 x y hx hy w
  have hz : x * y = x * y % 18446744073709551616 + 18446744073709551616 * (x * y / 18446744073709551616) := by omega
  have hl : x * y % 18446744073709551616 < 18446744073709551616 := Nat.mod_lt _ (by decide)
  generalize x * y = z at *
  generalize z % 18446744073709551616 = zl at *
  generalize z / 18446744073709551616 = zh at *
  obtain ⟨l1, d1, a1, a2, a3, e1⟩ := add64_0 zl s hl hs
  obtain ⟨l2, d2, b1, b2, b3, e2⟩ := add64_0 l1 c a1 hc
  have w1 : IntKind.u64.wrap ((zh : Int) + (d1 : Int)) = ((zh + d1 : Nat) : Int) := by rw [addN, wrapN]; omega
  have w2 : IntKind.u64.wrap (((zh + d1 : Nat) : Int) + (d2 : Int)) = ((zh + d1 + d2 : Nat) : Int) := by rw [addN, wrapN]; omega
  have w2' : IntKind.u64.wrap ((zh : Int) + (d1 : Int) + (d2 : Int)) = ((zh + d1 + d2 : Nat) : Int) := by rw [addN, addN, wrapN]; omega
  have w3 : ((zh + d1 : Nat) : Int) = (zh : Int) + (d1 : Int) := by omega
  refine ⟨l2, zh + d1 + d2, b1, by omega, by omega, fun w => ?_⟩
  clear hz hl z1 z2 a3 b3
  generalize hH : zh + d1 + d2 = H at *
  go_enter Tryd.func63, Tryd.ntmps63
  go_wp2_with (first | (go_at_call 66; refine (K _).mono ?_; rintro e w' ⟨rfl, rfl⟩) | simp only [e1, e2])
  go_ret2
  first | exact ⟨rfl, rfl⟩ | (simp [w1, w2, w2', w3])

end Go.Proofs.YthbkhbfcocbnoaaDoor
