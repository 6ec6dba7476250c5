/-
  Package num: ones. No statement is proved here.
-/
import Derived.Test.YthbkhbfcocbnoaaDoorNumH
namespace Go.Proofs.YthbkhbfcocbnoaaDoor
open Go.RowKit Go.Lib Go.BigFrame
set_option linter.unusedVariables false
set_option linter.unusedSimpArgs false
set_option maxRecDepth 1000000
set_option maxHeartbeats 4000000

/-- To the power of so many ones. -/
def ex (i : Nat) : Nat := if h : i = 0 then 0 else 2 * ex (i - 1) + 1
theorem ex_def (i : Nat) : ex i = 2 ^ i - 1 := by
  induction i with
  | zero => rw [ex]; rfl
  | succ i ih =>
    rw [ex, dif_neg (by omega), show i + 1 - 1 = i from rfl, ih, Nat.pow_succ]
    have := Nat.two_pow_pos i
    omega
def pw (a i : Nat) : Nat := a ^ ex i % Nt.P
theorem pw_ltP (a i : Nat) : pw a i < Nt.P := Nat.mod_lt _ P_pos
theorem pw_lt (a i : Nat) : pw a i < 115792089237316195423570985008687907853269984665640564039457584007913129639936 := lt4 (pw_ltP a i)
theorem pw_one {a : Nat} (ha : a < Nt.P) : pw a 1 = a := by
  unfold pw
  rw [ex_def, show 2 ^ 1 - 1 = 1 from rfl, Nat.pow_one, Nat.mod_eq_of_lt ha]
theorem pow_pos2 (n : Nat) : 0 < 2 ^ n := Nat.two_pow_pos n
theorem join_pw (a i n : Nat) : sq (pw a i) n * pw a n % Nt.P = pw a (i + n) := by
  rw [← Nt.mm, sq_mod]
  unfold pw
  rw [← Nat.pow_mod, Nat.mod_mod, Nt.mm, ← Nat.pow_mul, ← Nat.pow_add]
  congr 2
  rw [ex_def, ex_def, ex_def]
  have h1 := pow_pos2 i
  have h2 := pow_pos2 n
  rw [Nat.sub_mul, Nat.one_mul, Nat.pow_add]
  have h3 : 2 ^ n ≤ 2 ^ i * 2 ^ n := Nat.le_mul_of_pos_left _ h1
  omega
theorem joinp_any (a i n : Nat) (hn : n ≤ 1000) (w : World) (hP : PV w) : Calls Tryd.prog 64 #[wd (pw a i), wd (pw a n), .int .i64 (n : Nat)] w fun e w' => e = .returned (wd (pw a (i + n))) ∧ Fr [] w w' := by
  rw [← join_pw]; exact join_any _ _ n (pw_lt a i) (pw_lt a n) hn w hP
theorem ones_any (a : Nat) (ha : a < Nt.P) (w : World) (hP : PV w) : Calls Tryd.prog 59 #[wd a] w fun e w' => e = .returned (wd (pw a 250)) ∧ Fr [] w w' := by
  have hP2 := hid (p := _) hP
  have HJ := hid (p := _) (fun i n hn W (h : PV W) => joinp_any a i n hn W h)
  have h1 := pw_one ha
  obtain ⟨d1x0, d1x1, d1x2, d1x3, -, -, -, -, -, wd1x⟩ := wd_open (pw a 1) (pw_lt a 1)
  obtain ⟨d2x0, d2x1, d2x2, d2x3, -, -, -, -, -, wd2x⟩ := wd_open (pw a 2) (pw_lt a 2)
  obtain ⟨d4x0, d4x1, d4x2, d4x3, -, -, -, -, -, wd4x⟩ := wd_open (pw a 4) (pw_lt a 4)
  obtain ⟨d5x0, d5x1, d5x2, d5x3, -, -, -, -, -, wd5x⟩ := wd_open (pw a 5) (pw_lt a 5)
  obtain ⟨d10x0, d10x1, d10x2, d10x3, -, -, -, -, -, wd10x⟩ := wd_open (pw a 10) (pw_lt a 10)
  obtain ⟨d20x0, d20x1, d20x2, d20x3, -, -, -, -, -, wd20x⟩ := wd_open (pw a 20) (pw_lt a 20)
  obtain ⟨d40x0, d40x1, d40x2, d40x3, -, -, -, -, -, wd40x⟩ := wd_open (pw a 40) (pw_lt a 40)
  obtain ⟨d50x0, d50x1, d50x2, d50x3, -, -, -, -, -, wd50x⟩ := wd_open (pw a 50) (pw_lt a 50)
  obtain ⟨d100x0, d100x1, d100x2, d100x3, -, -, -, -, -, wd100x⟩ := wd_open (pw a 100) (pw_lt a 100)
  obtain ⟨d200x0, d200x1, d200x2, d200x3, -, -, -, -, -, wd200x⟩ := wd_open (pw a 200) (pw_lt a 200)
  obtain ⟨d250x0, d250x1, d250x2, d250x3, -, -, -, -, -, wd250x⟩ := wd_open (pw a 250) (pw_lt a 250)
  have Htwo : ∀ W, PV W → Calls Tryd.prog 64 #[.agg #[.int .u64 (d1x0 : Nat), .int .u64 (d1x1 : Nat), .int .u64 (d1x2 : Nat), .int .u64 (d1x3 : Nat)], .agg #[.int .u64 (d1x0 : Nat), .int .u64 (d1x1 : Nat), .int .u64 (d1x2 : Nat), .int .u64 (d1x3 : Nat)], .int .i64 1] W fun e w' => e = .returned (.agg #[.int .u64 (d2x0 : Nat), .int .u64 (d2x1 : Nat), .int .u64 (d2x2 : Nat), .int .u64 (d2x3 : Nat)]) ∧ Fr [] W w' := by
    rw [← wd1x, ← wd2x]; exact HJ.out 1 1 (by decide)
  have Hfour : ∀ W, PV W → Calls Tryd.prog 64 #[.agg #[.int .u64 (d2x0 : Nat), .int .u64 (d2x1 : Nat), .int .u64 (d2x2 : Nat), .int .u64 (d2x3 : Nat)], .agg #[.int .u64 (d2x0 : Nat), .int .u64 (d2x1 : Nat), .int .u64 (d2x2 : Nat), .int .u64 (d2x3 : Nat)], .int .i64 2] W fun e w' => e = .returned (.agg #[.int .u64 (d4x0 : Nat), .int .u64 (d4x1 : Nat), .int .u64 (d4x2 : Nat), .int .u64 (d4x3 : Nat)]) ∧ Fr [] W w' := by
    rw [← wd2x, ← wd4x]; exact HJ.out 2 2 (by decide)
  have Hfive : ∀ W, PV W → Calls Tryd.prog 64 #[.agg #[.int .u64 (d4x0 : Nat), .int .u64 (d4x1 : Nat), .int .u64 (d4x2 : Nat), .int .u64 (d4x3 : Nat)], .agg #[.int .u64 (d1x0 : Nat), .int .u64 (d1x1 : Nat), .int .u64 (d1x2 : Nat), .int .u64 (d1x3 : Nat)], .int .i64 1] W fun e w' => e = .returned (.agg #[.int .u64 (d5x0 : Nat), .int .u64 (d5x1 : Nat), .int .u64 (d5x2 : Nat), .int .u64 (d5x3 : Nat)]) ∧ Fr [] W w' := by
    rw [← wd4x, ← wd1x, ← wd5x]; exact HJ.out 4 1 (by decide)
  have Hten : ∀ W, PV W → Calls Tryd.prog 64 #[.agg #[.int .u64 (d5x0 : Nat), .int .u64 (d5x1 : Nat), .int .u64 (d5x2 : Nat), .int .u64 (d5x3 : Nat)], .agg #[.int .u64 (d5x0 : Nat), .int .u64 (d5x1 : Nat), .int .u64 (d5x2 : Nat), .int .u64 (d5x3 : Nat)], .int .i64 5] W fun e w' => e = .returned (.agg #[.int .u64 (d10x0 : Nat), .int .u64 (d10x1 : Nat), .int .u64 (d10x2 : Nat), .int .u64 (d10x3 : Nat)]) ∧ Fr [] W w' := by
    rw [← wd5x, ← wd10x]; exact HJ.out 5 5 (by decide)
  have Htwenty : ∀ W, PV W → Calls Tryd.prog 64 #[.agg #[.int .u64 (d10x0 : Nat), .int .u64 (d10x1 : Nat), .int .u64 (d10x2 : Nat), .int .u64 (d10x3 : Nat)], .agg #[.int .u64 (d10x0 : Nat), .int .u64 (d10x1 : Nat), .int .u64 (d10x2 : Nat), .int .u64 (d10x3 : Nat)], .int .i64 10] W fun e w' => e = .returned (.agg #[.int .u64 (d20x0 : Nat), .int .u64 (d20x1 : Nat), .int .u64 (d20x2 : Nat), .int .u64 (d20x3 : Nat)]) ∧ Fr [] W w' := by
    rw [← wd10x, ← wd20x]; exact HJ.out 10 10 (by decide)
  have Hforty : ∀ W, PV W → Calls Tryd.prog 64 #[.agg #[.int .u64 (d20x0 : Nat), .int .u64 (d20x1 : Nat), .int .u64 (d20x2 : Nat), .int .u64 (d20x3 : Nat)], .agg #[.int .u64 (d20x0 : Nat), .int .u64 (d20x1 : Nat), .int .u64 (d20x2 : Nat), .int .u64 (d20x3 : Nat)], .int .i64 20] W fun e w' => e = .returned (.agg #[.int .u64 (d40x0 : Nat), .int .u64 (d40x1 : Nat), .int .u64 (d40x2 : Nat), .int .u64 (d40x3 : Nat)]) ∧ Fr [] W w' := by
    rw [← wd20x, ← wd40x]; exact HJ.out 20 20 (by decide)
  have Hfifty : ∀ W, PV W → Calls Tryd.prog 64 #[.agg #[.int .u64 (d40x0 : Nat), .int .u64 (d40x1 : Nat), .int .u64 (d40x2 : Nat), .int .u64 (d40x3 : Nat)], .agg #[.int .u64 (d10x0 : Nat), .int .u64 (d10x1 : Nat), .int .u64 (d10x2 : Nat), .int .u64 (d10x3 : Nat)], .int .i64 10] W fun e w' => e = .returned (.agg #[.int .u64 (d50x0 : Nat), .int .u64 (d50x1 : Nat), .int .u64 (d50x2 : Nat), .int .u64 (d50x3 : Nat)]) ∧ Fr [] W w' := by
    rw [← wd40x, ← wd10x, ← wd50x]; exact HJ.out 40 10 (by decide)
  have Hhundred : ∀ W, PV W → Calls Tryd.prog 64 #[.agg #[.int .u64 (d50x0 : Nat), .int .u64 (d50x1 : Nat), .int .u64 (d50x2 : Nat), .int .u64 (d50x3 : Nat)], .agg #[.int .u64 (d50x0 : Nat), .int .u64 (d50x1 : Nat), .int .u64 (d50x2 : Nat), .int .u64 (d50x3 : Nat)], .int .i64 50] W fun e w' => e = .returned (.agg #[.int .u64 (d100x0 : Nat), .int .u64 (d100x1 : Nat), .int .u64 (d100x2 : Nat), .int .u64 (d100x3 : Nat)]) ∧ Fr [] W w' := by
    rw [← wd50x, ← wd100x]; exact HJ.out 50 50 (by decide)
  have Hthundred : ∀ W, PV W → Calls Tryd.prog 64 #[.agg #[.int .u64 (d100x0 : Nat), .int .u64 (d100x1 : Nat), .int .u64 (d100x2 : Nat), .int .u64 (d100x3 : Nat)], .agg #[.int .u64 (d100x0 : Nat), .int .u64 (d100x1 : Nat), .int .u64 (d100x2 : Nat), .int .u64 (d100x3 : Nat)], .int .i64 100] W fun e w' => e = .returned (.agg #[.int .u64 (d200x0 : Nat), .int .u64 (d200x1 : Nat), .int .u64 (d200x2 : Nat), .int .u64 (d200x3 : Nat)]) ∧ Fr [] W w' := by
    rw [← wd100x, ← wd200x]; exact HJ.out 100 100 (by decide)
  have Hres : ∀ W, PV W → Calls Tryd.prog 64 #[.agg #[.int .u64 (d200x0 : Nat), .int .u64 (d200x1 : Nat), .int .u64 (d200x2 : Nat), .int .u64 (d200x3 : Nat)], .agg #[.int .u64 (d50x0 : Nat), .int .u64 (d50x1 : Nat), .int .u64 (d50x2 : Nat), .int .u64 (d50x3 : Nat)], .int .i64 50] W fun e w' => e = .returned (.agg #[.int .u64 (d250x0 : Nat), .int .u64 (d250x1 : Nat), .int .u64 (d250x2 : Nat), .int .u64 (d250x3 : Nat)]) ∧ Fr [] W w' := by
    rw [← wd200x, ← wd50x, ← wd250x]; exact HJ.out 200 50 (by decide)
  rw [wd250x]
  rw [h1] at wd1x
  rw [wd1x]
  have Gtwo := hid (p := _) Htwo
  have Gfour := hid (p := _) Hfour
  have Gfive := hid (p := _) Hfive
  have Gten := hid (p := _) Hten
  have Gtwenty := hid (p := _) Htwenty
  have Gforty := hid (p := _) Hforty
  have Gfifty := hid (p := _) Hfifty
  have Ghundred := hid (p := _) Hhundred
  have Gthundred := hid (p := _) Hthundred
  have Gres := hid (p := _) Hres
  clear h1 hP HJ Htwo Hfour Hfive Hten Htwenty Hforty Hfifty Hhundred Hthundred Hres wd1x wd2x wd4x wd5x wd10x wd20x wd40x wd50x wd100x wd200x wd250x
  go_enter Tryd.func59, Tryd.ntmps59
  go_wp2_with (first | (go_at_call 64; with_reducible refine (Gtwo.out _ (hP2.out.fr (((Fr.refl [] w).alloc _).alloc _))).mono ?_; rintro e V1 ⟨rfl, hF⟩; have XR1 := (L4.new1 w _ 43 _ _ _ _).fr hF; have Xa1 := ((L4.new w 43 _ _ _ _).alloc _).fr hF; have F1 := (((Fr.refl [] w).alloc _).alloc _).trans0 hF; clear hF) | (go_at_call 64; with_reducible refine (Gfour.out _ (hP2.out.fr (F1.alloc _))).mono ?_; rintro e V2 ⟨rfl, hF⟩; have XR2 := (XR1.alloc _).fr hF; have Xa2 := (Xa1.alloc _).fr hF; have F2 := (F1.alloc _).trans0 hF; clear hF; obtain ⟨_, _, _, _, _, _, _, _, _, _⟩ := Xa2.all) | (go_at_call 64; with_reducible refine (Gfive.out _ (hP2.out.fr (F2.alloc _))).mono ?_; rintro e V3 ⟨rfl, hF⟩; have XR3 := (XR2.alloc _).fr hF; have F3 := (F2.alloc _).trans0 hF; clear hF) | (go_at_call 64; with_reducible refine (Gten.out _ (hP2.out.fr (F3.alloc _))).mono ?_; rintro e V4 ⟨rfl, hF⟩; have XR4 := (XR3.alloc _).fr hF; have F4 := (F3.alloc _).trans0 hF; clear hF) | (go_at_call 64; with_reducible refine (Gtwenty.out _ (hP2.out.fr (F4.alloc _))).mono ?_; rintro e V5 ⟨rfl, hF⟩; have XR5 := (XR4.alloc _).fr hF; have Xten5 := (L4.new V4 43 _ _ _ _).fr hF; have F5 := (F4.alloc _).trans0 hF; clear hF) | (go_at_call 64; with_reducible refine (Gforty.out _ (hP2.out.fr (F5.alloc _))).mono ?_; rintro e V6 ⟨rfl, hF⟩; have XR6 := (XR5.alloc _).fr hF; have Xten6 := (Xten5.alloc _).fr hF; have F6 := (F5.alloc _).trans0 hF; clear hF; obtain ⟨_, _, _, _, _, _, _, _, _, _⟩ := Xten6.all) | (go_at_call 64; with_reducible refine (Gfifty.out _ (hP2.out.fr (F6.alloc _))).mono ?_; rintro e V7 ⟨rfl, hF⟩; have XR7 := (XR6.alloc _).fr hF; have F7 := (F6.alloc _).trans0 hF; clear hF) | (go_at_call 64; with_reducible refine (Ghundred.out _ (hP2.out.fr (F7.alloc _))).mono ?_; rintro e V8 ⟨rfl, hF⟩; have XR8 := (XR7.alloc _).fr hF; have Xfifty8 := (L4.new V7 43 _ _ _ _).fr hF; have F8 := (F7.alloc _).trans0 hF; clear hF) | (go_at_call 64; with_reducible refine (Gthundred.out _ (hP2.out.fr (F8.alloc _))).mono ?_; rintro e V9 ⟨rfl, hF⟩; have XR9 := (XR8.alloc _).fr hF; have Xfifty9 := (Xfifty8.alloc _).fr hF; have F9 := (F8.alloc _).trans0 hF; clear hF; obtain ⟨_, _, _, _, _, _, _, _, _, _⟩ := Xfifty9.all) | (go_at_call 64; with_reducible refine (Gres.out _ (hP2.out.fr (F9.alloc _))).mono ?_; rintro e V10 ⟨rfl, hF⟩; have XR10 := (XR9.alloc _).fr hF; have F10 := (F9.alloc _).trans0 hF; clear hF; obtain ⟨_, _, _, _, _, _, _, _, _, _⟩ := XR10.all))
  simp [bodyPost, results, Tryd.results59, go_sem, *]
  exact F10.set4 (by omega) _ _ _ _

end Go.Proofs.YthbkhbfcocbnoaaDoor
