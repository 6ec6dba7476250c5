/-
  Package num: ones. No statement is proved here.
-/
import Derived.Test.YtpdagpjjlnncbaaDoorNumF
namespace Go.Proofs.YtpdagpjjlnncbaaDoor
open Go.RowKit Go.Lib Go.BigFrame
set_option linter.unusedVariables false
set_option linter.unusedSimpArgs false
set_option maxRecDepth 1000000
set_option maxHeartbeats 4000000

/-- To the power of so many ones. -/
def ex (i : Nat) : Nat := if h : i = 0 then 0 else 2 * ex (i - 1) + 1
theorem ex_def (i : Nat) : ex i = 2 ^ i - 1 := by
  induction i with
  | zero => rw [ex]; rfl
  | succ i ih =>
    rw [ex, dif_neg (by omega), show i + 1 - 1 = i from rfl, ih, Nat.pow_succ]
    have := Nat.two_pow_pos i
    omega
def pw (a i : Nat) : Nat := a ^ ex i % Nt.P
theorem pw_ltP (a i : Nat) : pw a i < Nt.P := Nat.mod_lt _ P_pos
theorem pw_lt (a i : Nat) : pw a i < 115792089237316195423570985008687907853269984665640564039457584007913129639936 := lt4 (pw_ltP a i)
theorem pw_one {a : Nat} (ha : a < Nt.P) : pw a 1 = a := by
  unfold pw
  rw [ex_def, show 2 ^ 1 - 1 = 1 from rfl, Nat.pow_one, Nat.mod_eq_of_lt ha]
theorem pow_pos2 (n : Nat) : 0 < 2 ^ n := Nat.two_pow_pos n
theorem join_pw (a i n : Nat) : sq (pw a i) n * pw a n % Nt.P = pw a (i + n) := by
  rw [← Nt.mm, sq_mod]
  unfold pw
  rw [← Nat.pow_mod, Nat.mod_mod, Nt.mm, ← Nat.pow_mul, ← Nat.pow_add]
  congr 2
  rw [ex_def, ex_def, ex_def]
  have h1 := pow_pos2 i
  have h2 := pow_pos2 n
  rw [Nat.sub_mul, Nat.one_mul, Nat.pow_add]
  have h3 : 2 ^ n ≤ 2 ^ i * 2 ^ n := Nat.le_mul_of_pos_left _ h1
  omega
theorem joinp_any (a i n : Nat) (hn : n ≤ 1000) (w : World) (hP : PV w) : Calls Tryd.prog 99 #[wd (pw a i), wd (pw a n), .int .i64 (n : Nat)] w fun e w' => e = .returned (wd (pw a (i + n))) ∧ Fr [] w w' := by
  rw [← join_pw]; exact join_any _ _ n (pw_lt a i) (pw_lt a n) hn w hP
theorem ones_any (a : Nat) (ha : a < Nt.P) (w : World) (hP : PV w) : Calls Tryd.prog 93 #[wd a] w fun e w' => e = .returned (wd (pw a 250)) ∧ Fr [] w w' := by
  have hP2 := hid (p := _) hP
  have HJ := hid (p := _) (fun i n hn W (h : PV W) => joinp_any a i n hn W h)
  have h1 := pw_one ha
  obtain ⟨d1x0, d1x1, d1x2, d1x3, -, -, -, -, -, wd1x⟩ := wd_open (pw a 1) (pw_lt a 1)
  obtain ⟨d2x0, d2x1, d2x2, d2x3, -, -, -, -, -, wd2x⟩ := wd_open (pw a 2) (pw_lt a 2)
  obtain ⟨d4x0, d4x1, d4x2, d4x3, -, -, -, -, -, wd4x⟩ := wd_open (pw a 4) (pw_lt a 4)
  obtain ⟨d5x0, d5x1, d5x2, d5x3, -, -, -, -, -, wd5x⟩ := wd_open (pw a 5) (pw_lt a 5)
  obtain ⟨d10x0, d10x1, d10x2, d10x3, -, -, -, -, -, wd10x⟩ := wd_open (pw a 10) (pw_lt a 10)
  obtain ⟨d20x0, d20x1, d20x2, d20x3, -, -, -, -, -, wd20x⟩ := wd_open (pw a 20) (pw_lt a 20)
  obtain ⟨d40x0, d40x1, d40x2, d40x3, -, -, -, -, -, wd40x⟩ := wd_open (pw a 40) (pw_lt a 40)
  obtain ⟨d50x0, d50x1, d50x2, d50x3, -, -, -, -, -, wd50x⟩ := wd_open (pw a 50) (pw_lt a 50)
  obtain ⟨d100x0, d100x1, d100x2, d100x3, -, -, -, -, -, wd100x⟩ := wd_open (pw a 100) (pw_lt a 100)
  obtain ⟨d200x0, d200x1, d200x2, d200x3, -, -, -, -, -, wd200x⟩ := wd_open (pw a 200) (pw_lt a 200)
  obtain ⟨d250x0, d250x1, d250x2, d250x3, -, -, -, -, -, wd250x⟩ := wd_open (pw a 250) (pw_lt a 250)
  have Htwo : ∀ W, PV W → Calls Tryd.prog 99 #[.agg #[.int .u64 (d1x0 : Nat), .int .u64 (d1x1 : Nat), .int .u64 (d1x2 : Nat), .int .u64 (d1x3 : Nat)], .agg #[.int .u64 (d1x0 : Nat), .int .u64 (d1x1 : Nat), .int .u64 (d1x2 : Nat), .int .u64 (d1x3 : Nat)], .int .i64 1] W fun e w' => e = .returned (.agg #[.int .u64 (d2x0 : Nat), .int .u64 (d2x1 : Nat), .int .u64 (d2x2 : Nat), .int .u64 (d2x3 : Nat)]) ∧ Fr [] W w' := by
    rw [← wd1x, ← wd2x]; exact HJ.out 1 1 (by decide)
  have Hfour : ∀ W, PV W → Calls Tryd.prog 99 #[.agg #[.int .u64 (d2x0 : Nat), .int .u64 (d2x1 : Nat), .int .u64 (d2x2 : Nat), .int .u64 (d2x3 : Nat)], .agg #[.int .u64 (d2x0 : Nat), .int .u64 (d2x1 : Nat), .int .u64 (d2x2 : Nat), .int .u64 (d2x3 : Nat)], .int .i64 2] W fun e w' => e = .returned (.agg #[.int .u64 (d4x0 : Nat), .int .u64 (d4x1 : Nat), .int .u64 (d4x2 : Nat), .int .u64 (d4x3 : Nat)]) ∧ Fr [] W w' := by
    rw [← wd2x, ← wd4x]; exact HJ.out 2 2 (by decide)
  have Hfive : ∀ W, PV W → Calls Tryd.prog 99 #[.agg #[.int .u64 (d4x0 : Nat), .int .u64 (d4x1 : Nat), .int .u64 (d4x2 : Nat), .int .u64 (d4x3 : Nat)], .agg #[.int .u64 (d1x0 : Nat), .int .u64 (d1x1 : Nat), .int .u64 (d1x2 : Nat), .int .u64 (d1x3 : Nat)], .int .i64 1] W fun e w' => e = .returned (.agg #[.int .u64 (d5x0 : Nat), .int .u64 (d5x1 : Nat), .int .u64 (d5x2 : Nat), .int .u64 (d5x3 : Nat)]) ∧ Fr [] W w' := by
    rw [← wd4x, ← wd1x, ← wd5x]; exact HJ.out 4 1 (by decide)
  have Hten : ∀ W, PV W → Calls Tryd.prog 99 #[.agg #[.int .u64 (d5x0 : Nat), .int .u64 (d5x1 : Nat), .int .u64 (d5x2 : Nat), .int .u64 (d5x3 : Nat)], .agg #[.int .u64 (d5x0 : Nat), .int .u64 (d5x1 : Nat), .int .u64 (d5x2 : Nat), .int .u64 (d5x3 : Nat)], .int .i64 5] W fun e w' => e = .returned (.agg #[.int .u64 (d10x0 : Nat), .int .u64 (d10x1 : Nat), .int .u64 (d10x2 : Nat), .int .u64 (d10x3 : Nat)]) ∧ Fr [] W w' := by
    rw [← wd5x, ← wd10x]; exact HJ.out 5 5 (by decide)
  have Htwenty : ∀ W, PV W → Calls Tryd.prog 99 #[.agg #[.int .u64 (d10x0 : Nat), .int .u64 (d10x1 : Nat), .int .u64 (d10x2 : Nat), .int .u64 (d10x3 : Nat)], .agg #[.int .u64 (d10x0 : Nat), .int .u64 (d10x1 : Nat), .int .u64 (d10x2 : Nat), .int .u64 (d10x3 : Nat)], .int .i64 10] W fun e w' => e = .returned (.agg #[.int .u64 (d20x0 : Nat), .int .u64 (d20x1 : Nat), .int .u64 (d20x2 : Nat), .int .u64 (d20x3 : Nat)]) ∧ Fr [] W w' := by
    rw [← wd10x, ← wd20x]; exact HJ.out 10 10 (by decide)
  have Hforty : ∀ W, PV W → Calls Tryd.prog 99 #[.agg #[.int .u64 (d20x0 : Nat), .int .u64 (d20x1 : Nat), .int .u64 (d20x2 : Nat), .int .u64 (d20x3 : Nat)], .agg #[.int .u64 (d20x0 : Nat), .int .u64 (d20x1 : Nat), .int .u64 (d20x2 : Nat), .int .u64 (d20x3 : Nat)], .int .i64 20] W fun e w' => e = .returned (.agg #[.int .u64 (d40x0 : Nat), .int .u64 (d40x1 : Nat), .int .u64 (d40x2 : Nat), .int .u64 (d40x3 : Nat)]) ∧ Fr [] W w' := by
    rw [← wd20x, ← wd40x]; exact HJ.out 20 20 (by decide)
  have Hfifty : ∀ W, PV W → Calls Tryd.prog 99 #[.agg #[.int .u64 (d40x0 : Nat), .int .u64 (d40x1 : Nat), .int .u64 (d40x2 : Nat), .int .u64 (d40x3 : Nat)], .agg #[.int .u64 (d10x0 : Nat), .int .u64 (d10x1 : Nat), .int .u64 (d10x2 : Nat), .int .u64 (d10x3 : Nat)], .int .i64 10] W fun e w' => e = .returned (.agg #[.int .u64 (d50x0 : Nat), .int .u64 (d50x1 : Nat), .int .u64 (d50x2 : Nat), .int .u64 (d50x3 : Nat)]) ∧ Fr [] W w' := by
    rw [← wd40x, ← wd10x, ← wd50x]; exact HJ.out 40 10 (by decide)
  have Hhundred : ∀ W, PV W → Calls Tryd.prog 99 #[.agg #[.int .u64 (d50x0 : Nat), .int .u64 (d50x1 : Nat), .int .u64 (d50x2 : Nat), .int .u64 (d50x3 : Nat)], .agg #[.int .u64 (d50x0 : Nat), .int .u64 (d50x1 : Nat), .int .u64 (d50x2 : Nat), .int .u64 (d50x3 : Nat)], .int .i64 50] W fun e w' => e = .returned (.agg #[.int .u64 (d100x0 : Nat), .int .u64 (d100x1 : Nat), .int .u64 (d100x2 : Nat), .int .u64 (d100x3 : Nat)]) ∧ Fr [] W w' := by
    rw [← wd50x, ← wd100x]; exact HJ.out 50 50 (by decide)
  have Hthundred : ∀ W, PV W → Calls Tryd.prog 99 #[.agg #[.int .u64 (d100x0 : Nat), .int .u64 (d100x1 : Nat), .int .u64 (d100x2 : Nat), .int .u64 (d100x3 : Nat)], .agg #[.int .u64 (d100x0 : Nat), .int .u64 (d100x1 : Nat), .int .u64 (d100x2 : Nat), .int .u64 (d100x3 : Nat)], .int .i64 100] W fun e w' => e = .returned (.agg #[.int .u64 (d200x0 : Nat), .int .u64 (d200x1 : Nat), .int .u64 (d200x2 : Nat), .int .u64 (d200x3 : Nat)]) ∧ Fr [] W w' := by
    rw [← wd100x, ← wd200x]; exact HJ.out 100 100 (by decide)
  have Hres : ∀ W, PV W → Calls Tryd.prog 99 #[.agg #[.int .u64 (d200x0 : Nat), .int .u64 (d200x1 : Nat), .int .u64 (d200x2 : Nat), .int .u64 (d200x3 : Nat)], .agg #[.int .u64 (d50x0 : Nat), .int .u64 (d50x1 : Nat), .int .u64 (d50x2 : Nat), .int .u64 (d50x3 : Nat)], .int .i64 50] W fun e w' => e = .returned (.agg #[.int .u64 (d250x0 : Nat), .int .u64 (d250x1 : Nat), .int .u64 (d250x2 : Nat), .int .u64 (d250x3 : Nat)]) ∧ Fr [] W w' := by
    rw [← wd200x, ← wd50x, ← wd250x]; exact HJ.out 200 50 (by decide)
  rw [wd250x]
  rw [h1] at wd1x
  rw [wd1x]
  have Gtwo := hid (p := _) Htwo
  have Gfour := hid (p := _) Hfour
  have Gfive := hid (p := _) Hfive
  have Gten := hid (p := _) Hten
  have Gtwenty := hid (p := _) Htwenty
  have Gforty := hid (p := _) Hforty
  have Gfifty := hid (p := _) Hfifty
  have Ghundred := hid (p := _) Hhundred
  have Gthundred := hid (p := _) Hthundred
  have Gres := hid (p := _) Hres
  clear h1 hP HJ Htwo Hfour Hfive Hten Htwenty Hforty Hfifty Hhundred Hthundred Hres wd1x wd2x wd4x wd5x wd10x wd20x wd40x wd50x wd100x wd200x wd250x
  go_enter Tryd.func93, Tryd.ntmps93
  go_wp2_with (first | (go_at_call 99; with_reducible refine (Gtwo.out _ (hP2.out.fr (((Fr.refl [] w).alloc _).alloc _))).mono ?_; rintro e V1 ⟨rfl, hF⟩; have XR1 := (L4.new1 w _ 27 _ _ _ _).fr hF; have Xa1 := ((L4.new w 27 _ _ _ _).alloc _).fr hF; have F1 := (((Fr.refl [] w).alloc _).alloc _).trans0 hF; clear hF) | (go_at_call 99; with_reducible refine (Gfour.out _ (hP2.out.fr (F1.alloc _))).mono ?_; rintro e V2 ⟨rfl, hF⟩; have XR2 := (XR1.alloc _).fr hF; have Xa2 := (Xa1.alloc _).fr hF; have F2 := (F1.alloc _).trans0 hF; clear hF; obtain ⟨_, _, _, _, _, _, _, _, _, _⟩ := Xa2.all) | (go_at_call 99; with_reducible refine (Gfive.out _ (hP2.out.fr (F2.alloc _))).mono ?_; rintro e V3 ⟨rfl, hF⟩; have XR3 := (XR2.alloc _).fr hF; have F3 := (F2.alloc _).trans0 hF; clear hF) | (go_at_call 99; with_reducible refine (Gten.out _ (hP2.out.fr (F3.alloc _))).mono ?_; rintro e V4 ⟨rfl, hF⟩; have XR4 := (XR3.alloc _).fr hF; have F4 := (F3.alloc _).trans0 hF; clear hF) | (go_at_call 99; with_reducible refine (Gtwenty.out _ (hP2.out.fr (F4.alloc _))).mono ?_; rintro e V5 ⟨rfl, hF⟩; have XR5 := (XR4.alloc _).fr hF; have Xten5 := (L4.new V4 27 _ _ _ _).fr hF; have F5 := (F4.alloc _).trans0 hF; clear hF) | (go_at_call 99; with_reducible refine (Gforty.out _ (hP2.out.fr (F5.alloc _))).mono ?_; rintro e V6 ⟨rfl, hF⟩; have XR6 := (XR5.alloc _).fr hF; have Xten6 := (Xten5.alloc _).fr hF; have F6 := (F5.alloc _).trans0 hF; clear hF; obtain ⟨_, _, _, _, _, _, _, _, _, _⟩ := Xten6.all) | (go_at_call 99; with_reducible refine (Gfifty.out _ (hP2.out.fr (F6.alloc _))).mono ?_; rintro e V7 ⟨rfl, hF⟩; have XR7 := (XR6.alloc _).fr hF; have F7 := (F6.alloc _).trans0 hF; clear hF) | (go_at_call 99; with_reducible refine (Ghundred.out _ (hP2.out.fr (F7.alloc _))).mono ?_; rintro e V8 ⟨rfl, hF⟩; have XR8 := (XR7.alloc _).fr hF; have Xfifty8 := (L4.new V7 27 _ _ _ _).fr hF; have F8 := (F7.alloc _).trans0 hF; clear hF) | (go_at_call 99; with_reducible refine (Gthundred.out _ (hP2.out.fr (F8.alloc _))).mono ?_; rintro e V9 ⟨rfl, hF⟩; have XR9 := (XR8.alloc _).fr hF; have Xfifty9 := (Xfifty8.alloc _).fr hF; have F9 := (F8.alloc _).trans0 hF; clear hF; obtain ⟨_, _, _, _, _, _, _, _, _, _⟩ := Xfifty9.all) | (go_at_call 99; with_reducible refine (Gres.out _ (hP2.out.fr (F9.alloc _))).mono ?_; rintro e V10 ⟨rfl, hF⟩; have XR10 := (XR9.alloc _).fr hF; have F10 := (F9.alloc _).trans0 hF; clear hF; obtain ⟨_, _, _, _, _, _, _, _, _, _⟩ := XR10.all))
  simp [bodyPost, results, Tryd.results93, go_sem, *]
  exact F10.set4 (by omega) _ _ _ _

end Go.Proofs.YtpdagpjjlnncbaaDoor
namespace Go.Proofs.YtpdagpjjlnncbaaDoor
open Go.RowKit Go.Lib Go.BigFrame
set_option linter.unusedVariables false
set_option linter.unusedSimpArgs false
set_option maxRecDepth 1000000
set_option maxHeartbeats 4000000

/-- One bit more. -/
def pb (a r : Nat) (b : Bool) : Nat := (r * r % Nt.P) * (bif b then a else 1) % Nt.P
/-- The power that has 250 ones and behind them these bits. -/
def pws (a : Nat) (bs : List Bool) : Nat := bs.foldl (pb a) (pw a 250)
def bv (b : Bool) : Int := bif b then 1 else 0
theorem neg_bv (b : Bool) : IntKind.u64.wrap (-bv b) = mk b := by
  cases b <;> rw [IntKind.wrap_u64] <;> rfl
theorem pb_ltP (a r : Nat) (b : Bool) : pb a r b < Nt.P := Nat.mod_lt _ P_pos
theorem fold_ltP (a : Nat) : ∀ (bs : List Bool) (r : Nat), r < Nt.P → bs.foldl (pb a) r < Nt.P
  | [], r, h => h
  | b :: bs, r, h => fold_ltP a bs (pb a r b) (pb_ltP a r b)
theorem pws_ltP (a : Nat) (bs : List Bool) : pws a bs < Nt.P := fold_ltP a bs _ (pw_ltP a 250)
theorem fold_take (a r : Nat) (bs : List Bool) (i : Nat) (h : i < bs.length) : (bs.take (i + 1)).foldl (pb a) r = pb a ((bs.take i).foldl (pb a) r) (bs.getD i false) := by
  have e : bs.getD i false = bs[i] := by rw [List.getD_eq_getElem?_getD, List.getElem?_eq_getElem h]; rfl
  rw [List.take_succ_eq_append_getElem h, List.foldl_append, e]; rfl
theorem pws_take (a : Nat) (bs : List Bool) (i : Nat) (h : i < bs.length) : pws a (bs.take (i + 1)) = pb a (pws a (bs.take i)) (bs.getD i false) := fold_take a _ bs i h
theorem fold_none (a r : Nat) (bs : List Bool) : (bs.take 0).foldl (pb a) r = r := by rw [List.take_zero]; rfl
theorem pws_none (a : Nat) (bs : List Bool) : pws a (bs.take 0) = pw a 250 := fold_none a _ bs
theorem cond_lt {a : Nat} (ha : a < 115792089237316195423570985008687907853269984665640564039457584007913129639936) (b : Bool) : (bif b then a else 1) < 115792089237316195423570985008687907853269984665640564039457584007913129639936 := by
  cases b
  · exact (by decide : 1 < 115792089237316195423570985008687907853269984665640564039457584007913129639936)
  · exact ha

theorem power_any (a : Nat) (ha : a < Nt.P) (bs : List Bool) (n : Nat) (hlen : bs.length = n) (hn : n ≤ 1000) (g : Nat) (w : World) (hP : PV w) (hc : ∀ j, j < n → w.cell? ⟨g, j, none⟩ = some (.int .u64 (bv (bs.getD j false)))) :
    Calls Tryd.prog 74 #[wd a, .slice (some ⟨g, 0, none⟩) n n] w fun e w' => e = .returned (wd (pws a bs)) ∧ Fr [] w w' := by
  have hP2 := hid (p := _) hP
  have HC := hid (p := _) hc
  have hr : pws a bs < 115792089237316195423570985008687907853269984665640564039457584007913129639936 := lt4 (pws_ltP a bs)
  have K0 := fun W (h : PV W) => ones_any a ha W h
  have KL := hid (p := _) (fun i => lt4 (pws_ltP a (bs.take i)))
  have H4 := hid (p := _) (lt4 ha)
  have K1 := fun W => small_any 1 (by decide) W
  obtain ⟨a0, a1, a2, a3, -, -, -, -, -, wa⟩ := wd_open a (lt4 ha)
  obtain ⟨c0, c1, c2, c3, -, -, -, -, -, wc⟩ := wd_open _ hr
  obtain ⟨o0, o1, o2, o3, -, -, -, -, -, wo⟩ := wd_open 1 (by decide)
  obtain ⟨z0, z1, z2, z3, -, -, -, -, -, wz⟩ := wd_open (pw a 250) (pw_lt a 250)
  rw [wa, wz] at K0
  rw [wo] at K1
  rw [wa, wc]
  have H0 := hid (p := _) K0
  have H1 : Hid (∀ W : World, Calls Tryd.prog 59 #[.int .u32 1] W fun e w' => e = .returned (.agg #[.int .u64 (o0 : Nat), .int .u64 (o1 : Nat), .int .u64 (o2 : Nat), .int .u64 (o3 : Nat)]) ∧ Fr [] W w') := hid K1
  have HA := hid (p := _) wa
  have HR := hid (p := _) wc
  have HO := hid (p := _) wo
  have HZ := hid (p := _) wz
  clear K0 K1 wa wc wo wz hr hP hc
  have HLn := hid (p := _) hlen
  clear hlen
  go_enter Tryd.func74, Tryd.ntmps74
  go_wp2_with (go_at_call 93; refine (H0.out _ (hP2.out.fr (((Fr.refl [] w).alloc _).alloc _))).mono ?_; rintro e V ⟨rfl, hF⟩; have XA := ((L4.new w 27 _ _ _ _).alloc _).fr hF; have XR := (L4.new1 w _ 27 _ _ _ _).fr hF; have F := (((Fr.refl [] w).alloc _).alloc _).trans0 hF; clear hF)
  go_loopg [12] n (fun gk q wr => ∃ i : Nat, i ≤ n ∧ gk = n - i ∧ q = .int .i64 i ∧ Hid (Fr [] w wr ∧ LE wr V.heap.size 27 (pws a (bs.take i)) ∧ L4 wr w.heap.size 27 (.int .u64 (a0 : Nat)) (.int .u64 (a1 : Nat)) (.int .u64 (a2 : Nat)) (.int .u64 (a3 : Nat)) ∧ L4 wr (w.heap.size + 1) 27 (.int .u64 0) (.int .u64 0) (.int .u64 0) (.int .u64 0)))
  case atStart =>
    exact ⟨0, Nat.zero_le _, rfl, rfl, hid ⟨F.alloc _, (by rw [pws_none]; exact (LE.iff HZ.out).2 (L4.new V 27 _ _ _ _)), XA.alloc _, XR.alloc _⟩⟩
  case round =>
    obtain ⟨i, hi, hgk, rfl, K⟩ := hrel
    have hrb : w.heap.size + 1 < V.heap.size := lt_of_heap XR
    have hra : w.heap.size < V.heap.size := by omega
    clear XA XR F
    generalize V.heap.size = rb at *
    obtain ⟨s0, s1, s2, s3, -, -, -, -, -, ws⟩ := wd_open (pws a (bs.take i)) (KL.out i)
    have A := (LE.iff ws).1 K.out.2.1
    have HF := hid (p := _) K.out.1
    have HAa := hid (p := _) K.out.2.2.1
    have HRr := hid (p := _) K.out.2.2.2
    have HPW := hid (p := _) (hP2.out.fr K.out.1)
    obtain ⟨a0c, a1c, a2c, a3c, a4c, a5c, a6c, a7c, a8c, a9c⟩ := A.all
    by_cases hlt : i < n
    · have hlt' : (i : Int) < (n : Int) := by omega
      have hlb : i < bs.length := by rw [HLn.out]; exact hlt
      have r0 := K.out.1.cell (HC.out i hlt) (by simp)
      have hd : pws a (bs.take i) * pws a (bs.take i) % Nt.P < 115792089237316195423570985008687907853269984665640564039457584007913129639936 := lt4 (Nat.mod_lt _ P_pos)
      have he : (bif bs.getD i false then a else 1) < 115792089237316195423570985008687907853269984665640564039457584007913129639936 := cond_lt H4.out _
      obtain ⟨d0, d1, d2, d3, -, -, -, -, -, wd1⟩ := wd_open _ hd
      obtain ⟨e0, e1, e2, e3, -, -, -, -, -, we⟩ := wd_open _ he
      obtain ⟨t0, t1, t2, t3, -, -, -, -, -, wt⟩ := wd_open (pws a (bs.take (i + 1))) (KL.out (i + 1))
      have M1 := fun W (h : PV W) => mul_any (pws a (bs.take i)) (pws a (bs.take i)) (KL.out i) (KL.out i) W h
      have M2x := fun W => choose_any (bs.getD i false) 1 a (by decide) H4.out W
      have M3x := fun W (h : PV W) => mul_any _ _ hd he W h
      have ept : pws a (bs.take i) * pws a (bs.take i) % Nt.P * (bif bs.getD i false then a else 1) % Nt.P = pws a (bs.take (i + 1)) := (pws_take a bs i hlb).symm
      rw [ept, wd1, we, wt] at M3x
      rw [ws, wd1] at M1
      rw [HO.out, HA.out, we] at M2x
      have hng := neg_bv (bs.getD i false)
      have G1 := hid (p := _) M1
      have G2 := hid (p := _) M2x
      have G3 := hid (p := _) M3x
      have HT := hid (p := _) wt
      have HAA := hid (p := _) A
      obtain ⟨b0c, b1c, b2c, b3c, -, -, -, -, b8c, -⟩ := HAa.out.all
      clear M1 M2x M3x ept wd1 we wt ws K A hd he
      generalize bv (bs.getD i false) = bt at *
      generalize mk (bs.getD i false) = m at *
      clear hlb
      go_wp2_with fail
      refine wp_region_last_ext [_, _, _, _, _, _, _, _, _] _ (by kernel_rfl) (by kernel_rfl) (by kernel_rfl) (by kernel_rfl) (by kernel_rfl) ?_
      simp only [List.cons_append, List.nil_append, idle]
      repeat (go_big_quiet_step (first | with_reducible exact Calls.ext_pv HPW.out G1.out | exact Calls.ext_of (H1.out _) | exact Calls.ext_of (G2.out _) | exact Calls.ext_pv HPW.out G3.out))
      refine wpQuiet_nil ?_
      rintro _ ⟨xq, rfl⟩
      go_simp
      go_wp2
      go_roundg (n - (i + 1))
      case measure => omega
      case rel => exact ⟨i + 1, by omega, rfl, by go_num, hid ⟨(HF.out.ext xq).set4 (by omega) _ _ _ _, (LE.iff HT.out).2 ((HAA.out.fr (ext_fr _ xq)).set4 _ _ _ _), (HAa.out.fr (ext_fr _ xq)).other (by omega) _ _ _ _, (HRr.out.fr (ext_fr _ xq)).other (by omega) _ _ _ _⟩⟩
    · obtain rfl : i = n := by omega
      have et : bs.take i = bs := List.take_of_length_le (by rw [HLn.out]; exact Nat.le_refl _)
      rw [et, HR.out] at ws
      obtain ⟨x0c, x1c, x2c, x3c, x4c, x5c, x6c, x7c, x8c, x9c⟩ := HRr.out.all
      injection ws with ws
      have ws := congrArg Array.toList ws
      injection ws with h0 ws
      injection ws with h1 ws
      injection ws with h2 ws
      injection ws with h3 ws
      rw [← h0] at a0c
      rw [← h1] at a1c
      rw [← h2] at a2c
      rw [← h3] at a3c
      clear ws h0 h1 h2 h3 K A et
      go_wp2_with fail
      simp [bodyPost, results, Tryd.results74, go_sem, *]
      exact HF.out.set4 (by omega) _ _ _ _

end Go.Proofs.YtpdagpjjlnncbaaDoor
namespace Go.Proofs.YtpdagpjjlnncbaaDoor
open Go.RowKit Go.Lib Go.BigFrame
set_option linter.unusedVariables false
set_option linter.unusedSimpArgs false
set_option maxRecDepth 1000000
set_option maxHeartbeats 4000000

theorem pb_pow (a e : Nat) (b : Bool) : pb a (a ^ e % Nt.P) b = a ^ (2 * e + (bif b then 1 else 0)) % Nt.P := by
  unfold pb
  rw [Nt.mm, Nt.mml, ← Nat.pow_add, Nat.two_mul]
  cases b
  · simp only [cond_false, Nat.mul_one, Nat.add_zero]
  · simp only [cond_true]; rw [← Nat.pow_succ]
theorem inv_pows (a x : Nat) : [false, true, false, true, true].foldl (pb a) (a ^ x % Nt.P) = a ^ (2 * (2 * (2 * (2 * (2 * x + 0) + 1) + 0) + 1) + 1) % Nt.P := by
  simp only [List.foldl, pb_pow, cond_true, cond_false]
theorem root_pows (a x : Nat) : [true, false].foldl (pb a) (a ^ x % Nt.P) = a ^ (2 * (2 * x + 1) + 0) % Nt.P := by
  simp only [List.foldl, pb_pow, cond_true, cond_false]
theorem inv_exp : 2 * (2 * (2 * (2 * (2 * ex 250 + 0) + 1) + 0) + 1) + 1 = Nt.P - 2 := by rw [Nt.P_val, ex_def]
theorem root_exp : 2 * (2 * ex 250 + 1) + 0 = Nt.K + 1 := by rw [Nt.K_val, ex_def]
theorem inv_pws (a : Nat) : pws a [false, true, false, true, true] = a ^ (Nt.P - 2) % Nt.P := by
  unfold pws pw
  rw [inv_pows, inv_exp]
theorem root_pws (a : Nat) : pws a [true, false] = Nt.c1 a := by
  unfold pws pw Nt.c1
  rw [root_pows, root_exp]
/-- What Inv answers. -/
def iv (a : Nat) : Nat := a ^ (Nt.P - 2) % Nt.P
theorem iv_ltP (a : Nat) : iv a < Nt.P := Nat.mod_lt _ P_pos
theorem c1_ltP (a : Nat) : Nt.c1 a < Nt.P := Nat.mod_lt _ P_pos

theorem heap_new2 (V : World) (o p q : Obj) : (((V.alloc o).alloc p).alloc q).heap[V.heap.size + 1 + 1]? = some q := by
  have := (MapKept.heap_alloc ((V.alloc o).alloc p) q).1
  simpa using this
theorem bits_cells {V : World} {g n t : Nat} {cs : Array Value} {bs : List Bool} (h : V.heap[g]? = some (.cells cs t)) (hcs : ∀ j, j < n → cs[j]? = some (.int .u64 (bv (bs.getD j false)))) : ∀ j, j < n → V.cell? ⟨g, j, none⟩ = some (.int .u64 (bv (bs.getD j false))) :=
  fun j hj => cell_of_heap h (hcs j hj)
theorem inv_any (a : Nat) (ha : a < Nt.P) (w : World) (hP : PV w) : Calls Tryd.prog 43 #[wd a] w fun e w' => e = .returned (wd (iv a)) ∧ Fr [] w w' := by
  have hP2 := hid (p := _) hP
  have K := fun g W (h : PV W) hc => power_any a ha [false, true, false, true, true] 5 rfl (by decide) g W h hc
  rw [inv_pws] at K
  have e : a ^ (Nt.P - 2) % Nt.P = iv a := rfl
  rw [e] at K
  obtain ⟨a0, a1, a2, a3, -, -, -, -, -, wa⟩ := wd_open a (lt4 ha)
  obtain ⟨c0, c1, c2, c3, -, -, -, -, -, wc⟩ := wd_open (iv a) (lt4 (iv_ltP a))
  rw [wa, wc] at K
  rw [wa, wc]
  have H := hid (p := _) K
  have hb : ∀ j, j < 5 → (#[Value.int .u64 0, .int .u64 1, .int .u64 0, .int .u64 1, .int .u64 1] : Array Value)[j]? = some (.int .u64 (bv ([false, true, false, true, true].getD j false))) := by
    intro j hj
    match j, hj with
    | 0, _ | 1, _ | 2, _ | 3, _ | 4, _ => rfl
  have HBt := hid (p := _) hb
  clear K wa wc e hP hb
  go_enter Tryd.func43, Tryd.ntmps43
  go_wp2_with (go_at_call 74; refine (H.out _ _ (hP2.out.fr ((((Fr.refl [] w).alloc _).alloc _).alloc _)) (bits_cells (heap_new2 w _ _ _) HBt.out)).mono ?_; rintro e V ⟨rfl, hF⟩; have C := ((L4.new1 w _ 27 _ _ _ _).alloc _).fr hF; have F := ((((Fr.refl [] w).alloc _).alloc _).alloc _).trans0 hF; obtain ⟨b0c, b1c, b2c, b3c, b4c, b5c, b6c, b7c, b8c, b9c⟩ := C.all; clear hF)
  simp [bodyPost, results, Tryd.results43, go_sem, *]
  exact F.set4 (by omega) _ _ _ _

end Go.Proofs.YtpdagpjjlnncbaaDoor
