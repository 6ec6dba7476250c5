/-
  Package num: Root. No statement is proved here.
-/
import Derived.Test.YtjaocjnefopdfaaDoorNumK
namespace Go.Proofs.YtjaocjnefopdfaaDoor
open Go.RowKit Go.Lib Go.BigFrame
set_option linter.unusedVariables false
set_option linter.unusedSimpArgs false
set_option maxRecDepth 1000000
set_option maxHeartbeats 4000000

theorem mk_xor (x y : Bool) : bits .xor .u64 (mk x) (mk y) = mk (x != y) := by
  cases x <;> cases y <;> rfl
theorem mk_andNot (x y : Bool) : bits .andNot .u64 (mk x) (mk y) = mk (x && !y) := by
  cases x <;> cases y <;> rfl
/-- The root with the sign that is asked for, and whether it is one. -/
def rs (a : Nat) (odd : Bool) : Nat := bif (decide (Nt.rt a % 2 = 1) != odd) then (0 + Nt.P - Nt.rt a) % Nt.P else Nt.rt a
def ok (a : Nat) (odd : Bool) : Bool := decide (rs a odd * rs a odd % Nt.P = a) && !(decide (rs a odd % 2 = 1) != odd)
def ro (a : Nat) (odd : Bool) : Nat := bif ok a odd then rs a odd else 0
theorem I_lt : Nt.I < Nt.P := by rw [Nt.I_val, Nt.P_val]; decide
theorem rt_ltP (a : Nat) : Nt.rt a < Nt.P := by
  unfold Nt.rt
  split
  · exact c1_ltP a
  · exact Nat.mod_lt _ P_pos
theorem cond_ltP {p x y : Nat} (b : Bool) (hx : x < p) (hy : y < p) : (bif b then x else y) < p := by cases b <;> assumption
theorem cond_ite {q : Prop} [Decidable q] (x y : Nat) : (bif decide q then x else y) = if q then x else y := by by_cases h : q <;> simp [h]
theorem rs_ltP (a : Nat) (odd : Bool) : rs a odd < Nt.P := cond_ltP _ (Nat.mod_lt _ P_pos) (rt_ltP a)
theorem ro_ltP (a : Nat) (odd : Bool) : ro a odd < Nt.P := cond_ltP _ (rs_ltP a odd) P_pos
theorem rt_cond (a : Nat) : (bif decide (Nt.c1 a * Nt.c1 a % Nt.P = a) then Nt.c1 a else Nt.c1 a * Nt.I % Nt.P) = Nt.rt a := cond_ite _ _
theorem mask_fr (s : Bool) (W : World) : Calls Tryd.prog 47 #[.bool s] W fun e w' => e = .returned (.int .u64 (mk s)) ∧ Fr [] W w' :=
  (mask_any s W).mono fun e w' h => ⟨h.1, h.2 ▸ Fr.refl [] _⟩

theorem root_any (a : Nat) (odd : Bool) (ha : a < Nt.P) (w : World) (hP : PV w) : Calls Tryd.prog 25 #[wd a, .bool odd] w fun e w' => e = .returned (.tuple #[wd (ro a odd), .bool (ok a odd)]) ∧ Fr [] w w' := by
  have hP2 := hid (p := _) hP
  have ha4 := lt4 ha
  have hc4 := lt4 (c1_ltP a)
  have hi4 := lt4 I_lt
  have hci : Nt.c1 a * Nt.I % Nt.P < 115792089237316195423570985008687907853269984665640564039457584007913129639936 := lt4 (Nat.mod_lt _ P_pos)
  have ht4 := lt4 (rt_ltP a)
  have hn4 : (0 + Nt.P - Nt.rt a) % Nt.P < 115792089237316195423570985008687907853269984665640564039457584007913129639936 := lt4 (Nat.mod_lt _ P_pos)
  have hs4 := lt4 (rs_ltP a odd)
  have ho4 := lt4 (ro_ltP a odd)
  have K1 := fun g W (h : PV W) hc => power_any a ha [true, false] 2 rfl (by decide) g W h hc
  rw [root_pws] at K1
  have K2 := fun W (h : PV W) => square_any (Nt.c1 a) a hc4 ha4 W h
  have K3 := fun W (h : PV W) => mul_any (Nt.c1 a) Nt.I hc4 hi4 W h
  have K4 := fun W => choose_any (decide (Nt.c1 a * Nt.c1 a % Nt.P = a)) (Nt.c1 a * Nt.I % Nt.P) (Nt.c1 a) hci hc4 W
  rw [rt_cond] at K4
  have K5 := fun W => lowest_any (Nt.rt a) ht4 W
  have K6 := fun W => mask_fr odd W
  have K7 := fun W (h : PV W) => sub_any 0 (Nt.rt a) P_pos (rt_ltP a) W h
  have K8 := fun W => choose_any (decide (Nt.rt a % 2 = 1) != odd) (Nt.rt a) ((0 + Nt.P - Nt.rt a) % Nt.P) ht4 hn4 W
  have ers : (bif (decide (Nt.rt a % 2 = 1) != odd) then (0 + Nt.P - Nt.rt a) % Nt.P else Nt.rt a) = rs a odd := rfl
  rw [ers] at K8
  have K9 := fun W (h : PV W) => square_any (rs a odd) a hs4 ha4 W h
  have K10 := fun W => lowest_any (rs a odd) hs4 W
  have eok : (decide (rs a odd * rs a odd % Nt.P = a) && !(decide (rs a odd % 2 = 1) != odd)) = ok a odd := rfl
  have K11 := fun W => choose_any (ok a odd) 0 (rs a odd) (by decide) hs4 W
  have ero : (bif ok a odd then rs a odd else 0) = ro a odd := rfl
  rw [ero] at K11
  have x1 := mk_xor (decide (Nt.rt a % 2 = 1)) odd
  have x2 := mk_xor (decide (rs a odd % 2 = 1)) odd
  have x3 := mk_andNot (decide (rs a odd * rs a odd % Nt.P = a)) (decide (rs a odd % 2 = 1) != odd)
  rw [eok] at x3
  have x4 := mk_ne (ok a odd)
  obtain ⟨a0, a1, a2, a3, -, -, -, -, -, wa⟩ := wd_open (a) ha4
  obtain ⟨c0, c1, c2, c3, -, -, -, -, -, wc⟩ := wd_open (Nt.c1 a) hc4
  obtain ⟨f0, f1, f2, f3, -, -, -, -, -, wf⟩ := wd_open (Nt.c1 a * Nt.I % Nt.P) hci
  obtain ⟨t0, t1, t2, t3, -, -, -, -, -, wt⟩ := wd_open (Nt.rt a) ht4
  obtain ⟨n0, n1, n2, n3, -, -, -, -, -, wn⟩ := wd_open ((0 + Nt.P - Nt.rt a) % Nt.P) hn4
  obtain ⟨r0, r1, r2, r3, -, -, -, -, -, wr⟩ := wd_open (rs a odd) hs4
  obtain ⟨q0, q1, q2, q3, -, -, -, -, -, wq⟩ := wd_open (ro a odd) ho4
  rw [wa, wc] at K1
  rw [wc, wa] at K2
  rw [wc, ← wd_I, wf] at K3
  rw [wf, wc, wt] at K4
  rw [wt] at K5
  rw [← wd_0, wt, wn] at K7
  rw [wt, wn, wr] at K8
  rw [wr, wa] at K9
  rw [wr] at K10
  rw [← wd_0, wr, wq] at K11
  rw [wa, wq]
  have H1 := hid (p := _) K1
  have H2 := hid (p := _) K2
  have H3 := hid (p := _) K3
  have H4 := hid (p := _) K4
  have H5 := hid (p := _) K5
  have H6 := hid (p := _) K6
  have H7 := hid (p := _) K7
  have H8 := hid (p := _) K8
  have H9 := hid (p := _) K9
  have H10 := hid (p := _) K10
  have H11 := hid (p := _) K11
  have hb : ∀ j, j < 2 → (#[Value.int .u64 1, .int .u64 0] : Array Value)[j]? = some (.int .u64 (bv ([true, false].getD j false))) := by
    intro j hj
    match j, hj with
    | 0, _ | 1, _ => rfl
  have HBt := hid (p := _) hb
  clear K1 K2 K3 K4 K5 K6 K7 K8 K9 K10 K11 wa wc wf wt wn wr wq hb ers eok ero ha4 hc4 hi4 hci ht4 hn4 hs4 ho4 hP ha
  generalize mk (decide (Nt.c1 a * Nt.c1 a % Nt.P = a)) = m1 at *
  generalize mk (decide (Nt.rt a % 2 = 1) != odd) = m3 at *
  generalize mk (decide (rs a odd % 2 = 1) != odd) = m6 at *
  generalize mk (decide (Nt.rt a % 2 = 1)) = m2 at *
  generalize mk (decide (rs a odd % 2 = 1)) = m5 at *
  generalize mk (decide (rs a odd * rs a odd % Nt.P = a)) = m4 at *
  generalize mk odd = mo at *
  generalize mk (ok a odd) = mi at *
  generalize ok a odd = okv at *
  go_enter Tryd.func25, Tryd.ntmps25
  go_wp2_with (go_at_call 48; refine (H1.out _ _ (hP2.out.fr ((((Fr.refl [] w).alloc _).alloc _).alloc _)) (bits_cells (heap_new2 w _ _ _) HBt.out)).mono ?_; rintro e V ⟨rfl, hF⟩; have XA0 := (((L4.new w 28 _ _ _ _).alloc _).alloc _).fr hF; have XR0 := ((L4.new1 w _ 28 _ _ _ _).alloc _).fr hF; have F0 := ((((Fr.refl [] w).alloc _).alloc _).alloc _).trans0 hF; clear hF)
  have F1 := F0.alloc (.cells #[.int .u64 (c0 : Nat), .int .u64 (c1 : Nat), .int .u64 (c2 : Nat), .int .u64 (c3 : Nat)] 28)
  have XA1 := XA0.alloc (.cells #[.int .u64 (c0 : Nat), .int .u64 (c1 : Nat), .int .u64 (c2 : Nat), .int .u64 (c3 : Nat)] 28)
  have XR1 := XR0.alloc (.cells #[.int .u64 (c0 : Nat), .int .u64 (c1 : Nat), .int .u64 (c2 : Nat), .int .u64 (c3 : Nat)] 28)
  have XC1 := L4.new V 28 (.int .u64 (c0 : Nat)) (.int .u64 (c1 : Nat)) (.int .u64 (c2 : Nat)) (.int .u64 (c3 : Nat))
  have hra : w.heap.size + 1 < V.heap.size := lt_of_heap XR0
  generalize V.alloc (.cells #[.int .u64 (c0 : Nat), .int .u64 (c1 : Nat), .int .u64 (c2 : Nat), .int .u64 (c3 : Nat)] 28) = U1 at *
  generalize V.heap.size = rb at *
  clear F0 XA0 XR0
  obtain ⟨xa0c, xa1c, xa2c, xa3c, xa4c, xa5c, xa6c, xa7c, xa8c, xa9c⟩ := XA1.all
  obtain ⟨xc0c, xc1c, xc2c, xc3c, xc4c, xc5c, xc6c, xc7c, xc8c, xc9c⟩ := XC1.all
  have HP1 := hid (p := _) (hP2.out.fr F1)
  have HZ1 : 0 < U1.heap.size := World.block_lt_of_cell? U1 _ HP1.out.p0
  have HY1 : 1 < U1.heap.size := World.block_lt_of_cell? U1 _ HP1.out.r0
  obtain ⟨-, -, -, -, u0, u1, u2, u3⟩ := HP1.out
  refine wp_region_last_ext [_, _, _, _, _, _, _, _, _] _ (by kernel_rfl) (by kernel_rfl) (by kernel_rfl) (by kernel_rfl) (by kernel_rfl) ?_
  simp only [List.cons_append, List.nil_append, idle]
  repeat (go_big_quiet_step (first | with_reducible exact Calls.ext_pv HP1.out H2.out | with_reducible exact Calls.ext_pv HP1.out H3.out | with_reducible exact Calls.ext_of (H4.out _)))
  refine wpQuiet_nil ?_
  rintro _ ⟨x1, rfl⟩
  have XR2 := (XR1.fr (ext_fr _ x1)).other (b' := rb) (by omega) (.int .u64 (t0 : Nat)) (.int .u64 (t1 : Nat)) (.int .u64 (t2 : Nat)) (.int .u64 (t3 : Nat))
  have XA2 := (XA1.fr (ext_fr _ x1)).other (b' := rb) (by omega) (.int .u64 (t0 : Nat)) (.int .u64 (t1 : Nat)) (.int .u64 (t2 : Nat)) (.int .u64 (t3 : Nat))
  have XC2 := (XC1.fr (ext_fr _ x1)).set4 (.int .u64 (t0 : Nat)) (.int .u64 (t1 : Nat)) (.int .u64 (t2 : Nat)) (.int .u64 (t3 : Nat))
  have F2 := (F1.ext x1).set4 (b := rb) (by omega) (.int .u64 (t0 : Nat)) (.int .u64 (t1 : Nat)) (.int .u64 (t2 : Nat)) (.int .u64 (t3 : Nat))
  go_simp
  clear xa0c xa1c xa2c xa3c xa4c xa5c xa6c xa7c xa8c xa9c xc0c xc1c xc2c xc3c xc4c xc5c xc6c xc7c xc8c xc9c u0 u1 u2 u3 HP1 HZ1 HY1 XR1 XA1 XC1 F1
  generalize ((((((ext U1 x1)).setCell ⟨rb, 0, none⟩ (.int .u64 (t0 : Nat))).setCell ⟨rb, 1, none⟩ (.int .u64 (t1 : Nat))).setCell ⟨rb, 2, none⟩ (.int .u64 (t2 : Nat))).setCell ⟨rb, 3, none⟩ (.int .u64 (t3 : Nat))) = U2 at *
  go_wp2_with fail
  obtain ⟨xa0c, xa1c, xa2c, xa3c, xa4c, xa5c, xa6c, xa7c, xa8c, xa9c⟩ := XA2.all
  obtain ⟨xc0c, xc1c, xc2c, xc3c, xc4c, xc5c, xc6c, xc7c, xc8c, xc9c⟩ := XC2.all
  have HP2 := hid (p := _) (hP2.out.fr F2)
  have HZ2 : 0 < U2.heap.size := World.block_lt_of_cell? U2 _ HP2.out.p0
  have HY2 : 1 < U2.heap.size := World.block_lt_of_cell? U2 _ HP2.out.r0
  obtain ⟨-, -, -, -, u0, u1, u2, u3⟩ := HP2.out
  refine wp_region_last_ext [_, _, _, _, _, _, _, _, _, _] _ (by kernel_rfl) (by kernel_rfl) (by kernel_rfl) (by kernel_rfl) (by kernel_rfl) ?_
  simp only [List.cons_append, List.nil_append, idle]
  repeat (go_big_quiet_step (first | with_reducible exact Calls.ext_of (H5.out _) | with_reducible exact Calls.ext_of (H6.out _) | with_reducible exact Calls.ext_pv HP2.out H7.out | with_reducible exact Calls.ext_of (H8.out _)))
  refine wpQuiet_nil ?_
  rintro _ ⟨x2, rfl⟩
  have XR3 := (XR2.fr (ext_fr _ x2)).other (b' := rb) (by omega) (.int .u64 (r0 : Nat)) (.int .u64 (r1 : Nat)) (.int .u64 (r2 : Nat)) (.int .u64 (r3 : Nat))
  have XA3 := (XA2.fr (ext_fr _ x2)).other (b' := rb) (by omega) (.int .u64 (r0 : Nat)) (.int .u64 (r1 : Nat)) (.int .u64 (r2 : Nat)) (.int .u64 (r3 : Nat))
  have XC3 := (XC2.fr (ext_fr _ x2)).set4 (.int .u64 (r0 : Nat)) (.int .u64 (r1 : Nat)) (.int .u64 (r2 : Nat)) (.int .u64 (r3 : Nat))
  have F3 := (F2.ext x2).set4 (b := rb) (by omega) (.int .u64 (r0 : Nat)) (.int .u64 (r1 : Nat)) (.int .u64 (r2 : Nat)) (.int .u64 (r3 : Nat))
  go_simp
  clear xa0c xa1c xa2c xa3c xa4c xa5c xa6c xa7c xa8c xa9c xc0c xc1c xc2c xc3c xc4c xc5c xc6c xc7c xc8c xc9c u0 u1 u2 u3 HP2 HZ2 HY2 XR2 XA2 XC2 F2
  generalize ((((((ext U2 x2)).setCell ⟨rb, 0, none⟩ (.int .u64 (r0 : Nat))).setCell ⟨rb, 1, none⟩ (.int .u64 (r1 : Nat))).setCell ⟨rb, 2, none⟩ (.int .u64 (r2 : Nat))).setCell ⟨rb, 3, none⟩ (.int .u64 (r3 : Nat))) = U3 at *
  go_wp2_with fail
  obtain ⟨xa0c, xa1c, xa2c, xa3c, xa4c, xa5c, xa6c, xa7c, xa8c, xa9c⟩ := XA3.all
  obtain ⟨xc0c, xc1c, xc2c, xc3c, xc4c, xc5c, xc6c, xc7c, xc8c, xc9c⟩ := XC3.all
  have HP3 := hid (p := _) (hP2.out.fr F3)
  have HZ3 : 0 < U3.heap.size := World.block_lt_of_cell? U3 _ HP3.out.p0
  have HY3 : 1 < U3.heap.size := World.block_lt_of_cell? U3 _ HP3.out.r0
  obtain ⟨-, -, -, -, u0, u1, u2, u3⟩ := HP3.out
  refine wp_region_last_ext [_, _, _, _, _, _, _, _, _] _ (by kernel_rfl) (by kernel_rfl) (by kernel_rfl) (by kernel_rfl) (by kernel_rfl) ?_
  simp only [List.cons_append, List.nil_append, idle]
  repeat (go_big_quiet_step (first | with_reducible exact Calls.ext_pv HP3.out H9.out | with_reducible exact Calls.ext_of (H10.out _) | with_reducible exact Calls.ext_of (H6.out _)))
  refine wpQuiet_nil ?_
  rintro _ ⟨x3, rfl⟩
  have XR4 := XR3.fr (ext_fr _ x3)
  have XA4 := XA3.fr (ext_fr _ x3)
  have XC4 := XC3.fr (ext_fr _ x3)
  have F4 := F3.ext x3
  go_simp
  clear xa0c xa1c xa2c xa3c xa4c xa5c xa6c xa7c xa8c xa9c xc0c xc1c xc2c xc3c xc4c xc5c xc6c xc7c xc8c xc9c u0 u1 u2 u3 HP3 HZ3 HY3 XR3 XA3 XC3 F3
  generalize ext U3 x3 = U4 at *
  obtain ⟨xc0c, xc1c, xc2c, xc3c, xc4c, xc5c, xc6c, xc7c, xc8c, xc9c⟩ := XC4.all
  obtain ⟨xr0c, xr1c, xr2c, xr3c, xr4c, xr5c, xr6c, xr7c, xr8c, xr9c⟩ := XR4.all
  go_wp2_with (go_at_call 46; refine (H11.out _).mono ?_; rintro e V5 ⟨rfl, hF⟩; have XR5 := XR4.fr hF; have F5 := F4.trans0 hF; clear xr0c xr1c xr2c xr3c xr4c xr5c xr6c xr7c xr8c xr9c hF; obtain ⟨xr0c, xr1c, xr2c, xr3c, xr4c, xr5c, xr6c, xr7c, xr8c, xr9c⟩ := XR5.all)
  simp [bodyPost, results, Tryd.results25, go_sem, *]
  exact F5.set4 (by omega) _ _ _ _

end Go.Proofs.YtjaocjnefopdfaaDoor
