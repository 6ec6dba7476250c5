/-
  Package num: Root. No statement is proved here.
-/
import Derived.Test.YtpdagpjjlnncbaaDoorNumI
namespace Go.Proofs.YtpdagpjjlnncbaaDoor
open Go.RowKit Go.Lib Go.BigFrame
set_option linter.unusedVariables false
set_option linter.unusedSimpArgs false
set_option maxRecDepth 1000000
set_option maxHeartbeats 4000000

theorem mk_xor (x y : Bool) : bits .xor .u64 (mk x) (mk y) = mk (x != y) := by
  cases x <;> cases y <;> rfl
theorem mk_andNot (x y : Bool) : bits .andNot .u64 (mk x) (mk y) = mk (x && !y) := by
  cases x <;> cases y <;> rfl
/-- The root with the sign that is asked for, and whether it is one. -/
def rs (a : Nat) (odd : Bool) : Nat := bif (decide (Nt.rt a % 2 = 1) != odd) then (0 + Nt.P - Nt.rt a) % Nt.P else Nt.rt a
def ok (a : Nat) (odd : Bool) : Bool := decide (rs a odd * rs a odd % Nt.P = a) && !(decide (rs a odd % 2 = 1) != odd)
def ro (a : Nat) (odd : Bool) : Nat := bif ok a odd then rs a odd else 0
theorem I_lt : Nt.I < Nt.P := by rw [Nt.I_val, Nt.P_val]; decide
theorem rt_ltP (a : Nat) : Nt.rt a < Nt.P := by
  unfold Nt.rt
  split
  · exact c1_ltP a
  · exact Nat.mod_lt _ P_pos
theorem cond_ltP {p x y : Nat} (b : Bool) (hx : x < p) (hy : y < p) : (bif b then x else y) < p := by cases b <;> assumption
theorem cond_ite {q : Prop} [Decidable q] (x y : Nat) : (bif decide q then x else y) = if q then x else y := by by_cases h : q <;> simp [h]
theorem rs_ltP (a : Nat) (odd : Bool) : rs a odd < Nt.P := cond_ltP _ (Nat.mod_lt _ P_pos) (rt_ltP a)
theorem ro_ltP (a : Nat) (odd : Bool) : ro a odd < Nt.P := cond_ltP _ (rs_ltP a odd) P_pos
theorem rt_cond (a : Nat) : (bif decide (Nt.c1 a * Nt.c1 a % Nt.P = a) then Nt.c1 a else Nt.c1 a * Nt.I % Nt.P) = Nt.rt a := cond_ite _ _
theorem mask_fr (s : Bool) (W : World) : Calls Tryd.prog 92 #[.bool s] W fun e w' => e = .returned (.int .u64 (mk s)) ∧ Fr [] W w' :=
  (mask_any s W).mono fun e w' h => ⟨h.1, h.2 ▸ Fr.refl [] _⟩

theorem root_any (a : Nat) (odd : Bool) (ha : a < Nt.P) (w : World) (hP : PV w) : Calls Tryd.prog 67 #[wd a, .bool odd] w fun e w' => e = .returned (.tuple #[wd (ro a odd), .bool (ok a odd)]) ∧ Fr [] w w' := by
  have hP2 := hid (p := _) hP
  have ha4 := lt4 ha
  have hc4 := lt4 (c1_ltP a)
  have hi4 := lt4 I_lt
  have hci : Nt.c1 a * Nt.I % Nt.P < 115792089237316195423570985008687907853269984665640564039457584007913129639936 := lt4 (Nat.mod_lt _ P_pos)
  have ht4 := lt4 (rt_ltP a)
  have hn4 : (0 + Nt.P - Nt.rt a) % Nt.P < 115792089237316195423570985008687907853269984665640564039457584007913129639936 := lt4 (Nat.mod_lt _ P_pos)
  have hs4 := lt4 (rs_ltP a odd)
  have ho4 := lt4 (ro_ltP a odd)
  have K1 := fun g W (h : PV W) hc => power_any a ha [true, false] 2 rfl (by decide) g W h hc
  rw [root_pws] at K1
  have K2 := fun W (h : PV W) => square_any (Nt.c1 a) a hc4 ha4 W h
  have K3 := fun W (h : PV W) => mul_any (Nt.c1 a) Nt.I hc4 hi4 W h
  have K4 := fun W => choose_any (decide (Nt.c1 a * Nt.c1 a % Nt.P = a)) (Nt.c1 a * Nt.I % Nt.P) (Nt.c1 a) hci hc4 W
  rw [rt_cond] at K4
  have K5 := fun W => lowest_any (Nt.rt a) ht4 W
  have K6 := fun W => mask_fr odd W
  have K7 := fun W (h : PV W) => sub_any 0 (Nt.rt a) P_pos (rt_ltP a) W h
  have K8 := fun W => choose_any (decide (Nt.rt a % 2 = 1) != odd) (Nt.rt a) ((0 + Nt.P - Nt.rt a) % Nt.P) ht4 hn4 W
  have ers : (bif (decide (Nt.rt a % 2 = 1) != odd) then (0 + Nt.P - Nt.rt a) % Nt.P else Nt.rt a) = rs a odd := rfl
  rw [ers] at K8
  have K9 := fun W (h : PV W) => square_any (rs a odd) a hs4 ha4 W h
  have K10 := fun W => lowest_any (rs a odd) hs4 W
  have eok : (decide (rs a odd * rs a odd % Nt.P = a) && !(decide (rs a odd % 2 = 1) != odd)) = ok a odd := rfl
  have K11 := fun W => choose_any (ok a odd) 0 (rs a odd) (by decide) hs4 W
  have ero : (bif ok a odd then rs a odd else 0) = ro a odd := rfl
  rw [ero] at K11
  have x1 := mk_xor (decide (Nt.rt a % 2 = 1)) odd
  have x2 := mk_xor (decide (rs a odd % 2 = 1)) odd
  have x3 := mk_andNot (decide (rs a odd * rs a odd % Nt.P = a)) (decide (rs a odd % 2 = 1) != odd)
  rw [eok] at x3
  have x4 := mk_ne (ok a odd)
  obtain ⟨a0, a1, a2, a3, -, -, -, -, -, wa⟩ := wd_open (a) ha4
  obtain ⟨c0, c1, c2, c3, -, -, -, -, -, wc⟩ := wd_open (Nt.c1 a) hc4
  obtain ⟨f0, f1, f2, f3, -, -, -, -, -, wf⟩ := wd_open (Nt.c1 a * Nt.I % Nt.P) hci
  obtain ⟨t0, t1, t2, t3, -, -, -, -, -, wt⟩ := wd_open (Nt.rt a) ht4
  obtain ⟨n0, n1, n2, n3, -, -, -, -, -, wn⟩ := wd_open ((0 + Nt.P - Nt.rt a) % Nt.P) hn4
  obtain ⟨r0, r1, r2, r3, -, -, -, -, -, wr⟩ := wd_open (rs a odd) hs4
  obtain ⟨q0, q1, q2, q3, -, -, -, -, -, wq⟩ := wd_open (ro a odd) ho4
  rw [wa, wc] at K1
  rw [wc, wa] at K2
  rw [wc, ← wd_I, wf] at K3
  rw [wf, wc, wt] at K4
  rw [wt] at K5
  rw [← wd_0, wt, wn] at K7
  rw [wt, wn, wr] at K8
  rw [wr, wa] at K9
  rw [wr] at K10
  rw [← wd_0, wr, wq] at K11
  rw [wa, wq]
  have H1 := hid (p := _) K1
  have H2 := hid (p := _) K2
  have H3 := hid (p := _) K3
  have H4 := hid (p := _) K4
  have H5 := hid (p := _) K5
  have H6 := hid (p := _) K6
  have H7 := hid (p := _) K7
  have H8 := hid (p := _) K8
  have H9 := hid (p := _) K9
  have H10 := hid (p := _) K10
  have H11 := hid (p := _) K11
  have hb : ∀ j, j < 2 → (#[Value.int .u64 1, .int .u64 0] : Array Value)[j]? = some (.int .u64 (bv ([true, false].getD j false))) := by
    intro j hj
    match j, hj with
    | 0, _ | 1, _ => rfl
  have HBt := hid (p := _) hb
  clear K1 K2 K3 K4 K5 K6 K7 K8 K9 K10 K11 wa wc wf wt wn wr wq hb ers eok ero ha4 hc4 hi4 hci ht4 hn4 hs4 ho4 hP ha
  generalize mk (decide (Nt.c1 a * Nt.c1 a % Nt.P = a)) = m1 at *
  generalize mk (decide (Nt.rt a % 2 = 1) != odd) = m3 at *
  generalize mk (decide (rs a odd % 2 = 1) != odd) = m6 at *
  generalize mk (decide (Nt.rt a % 2 = 1)) = m2 at *
  generalize mk (decide (rs a odd % 2 = 1)) = m5 at *
  generalize mk (decide (rs a odd * rs a odd % Nt.P = a)) = m4 at *
  generalize mk odd = mo at *
  generalize mk (ok a odd) = mi at *
  generalize ok a odd = okv at *
  go_enter Tryd.func67, Tryd.ntmps67
  go_wp2_with (go_at_call 74; refine (H1.out _ _ (hP2.out.fr ((((Fr.refl [] w).alloc _).alloc _).alloc _)) (bits_cells (heap_new2 w _ _ _) HBt.out)).mono ?_; rintro e V ⟨rfl, hF⟩; have XA0 := (((L4.new w 27 _ _ _ _).alloc _).alloc _).fr hF; have XR0 := ((L4.new1 w _ 27 _ _ _ _).alloc _).fr hF; have F0 := ((((Fr.refl [] w).alloc _).alloc _).alloc _).trans0 hF; clear hF)
  have F1 := F0.alloc (.cells #[.int .u64 (c0 : Nat), .int .u64 (c1 : Nat), .int .u64 (c2 : Nat), .int .u64 (c3 : Nat)] 27)
  have XA1 := XA0.alloc (.cells #[.int .u64 (c0 : Nat), .int .u64 (c1 : Nat), .int .u64 (c2 : Nat), .int .u64 (c3 : Nat)] 27)
  have XR1 := XR0.alloc (.cells #[.int .u64 (c0 : Nat), .int .u64 (c1 : Nat), .int .u64 (c2 : Nat), .int .u64 (c3 : Nat)] 27)
  have XC1 := L4.new V 27 (.int .u64 (c0 : Nat)) (.int .u64 (c1 : Nat)) (.int .u64 (c2 : Nat)) (.int .u64 (c3 : Nat))
  have hra : w.heap.size + 1 < V.heap.size := lt_of_heap XR0
  generalize V.alloc (.cells #[.int .u64 (c0 : Nat), .int .u64 (c1 : Nat), .int .u64 (c2 : Nat), .int .u64 (c3 : Nat)] 27) = U1 at *
  generalize V.heap.size = rb at *
  clear F0 XA0 XR0
  obtain ⟨xa0c, xa1c, xa2c, xa3c, xa4c, xa5c, xa6c, xa7c, xa8c, xa9c⟩ := XA1.all
  obtain ⟨xc0c, xc1c, xc2c, xc3c, xc4c, xc5c, xc6c, xc7c, xc8c, xc9c⟩ := XC1.all
  have HP1 := hid (p := _) (hP2.out.fr F1)
  have HZ1 : 0 < U1.heap.size := World.block_lt_of_cell? U1 _ HP1.out.p0
  have HY1 : 1 < U1.heap.size := World.block_lt_of_cell? U1 _ HP1.out.r0
  obtain ⟨-, -, -, -, u0, u1, u2, u3⟩ := HP1.out
  refine wp_region_last_ext [_, _, _, _, _, _, _, _, _] _ (by kernel_rfl) (by kernel_rfl) (by kernel_rfl) (by kernel_rfl) (by kernel_rfl) ?_
  simp only [List.cons_append, List.nil_append, idle]
  repeat (go_big_quiet_step (first | with_reducible exact Calls.ext_pv HP1.out H2.out | with_reducible exact Calls.ext_pv HP1.out H3.out | with_reducible exact Calls.ext_of (H4.out _)))
  refine wpQuiet_nil ?_
  rintro _ ⟨x1, rfl⟩
  have XR2 := (XR1.fr (ext_fr _ x1)).other (b' := rb) (by omega) (.int .u64 (t0 : Nat)) (.int .u64 (t1 : Nat)) (.int .u64 (t2 : Nat)) (.int .u64 (t3 : Nat))
  have XA2 := (XA1.fr (ext_fr _ x1)).other (b' := rb) (by omega) (.int .u64 (t0 : Nat)) (.int .u64 (t1 : Nat)) (.int .u64 (t2 : Nat)) (.int .u64 (t3 : Nat))
  have XC2 := (XC1.fr (ext_fr _ x1)).set4 (.int .u64 (t0 : Nat)) (.int .u64 (t1 : Nat)) (.int .u64 (t2 : Nat)) (.int .u64 (t3 : Nat))
  have F2 := (F1.ext x1).set4 (b := rb) (by omega) (.int .u64 (t0 : Nat)) (.int .u64 (t1 : Nat)) (.int .u64 (t2 : Nat)) (.int .u64 (t3 : Nat))
  go_simp
  clear xa0c xa1c xa2c xa3c xa4c xa5c xa6c xa7c xa8c xa9c xc0c xc1c xc2c xc3c xc4c xc5c xc6c xc7c xc8c xc9c u0 u1 u2 u3 HP1 HZ1 HY1 XR1 XA1 XC1 F1
  generalize ((((((ext U1 x1)).setCell ⟨rb, 0, none⟩ (.int .u64 (t0 : Nat))).setCell ⟨rb, 1, none⟩ (.int .u64 (t1 : Nat))).setCell ⟨rb, 2, none⟩ (.int .u64 (t2 : Nat))).setCell ⟨rb, 3, none⟩ (.int .u64 (t3 : Nat))) = U2 at *
  go_wp2_with fail
  obtain ⟨xa0c, xa1c, xa2c, xa3c, xa4c, xa5c, xa6c, xa7c, xa8c, xa9c⟩ := XA2.all
  obtain ⟨xc0c, xc1c, xc2c, xc3c, xc4c, xc5c, xc6c, xc7c, xc8c, xc9c⟩ := XC2.all
  have HP2 := hid (p := _) (hP2.out.fr F2)
  have HZ2 : 0 < U2.heap.size := World.block_lt_of_cell? U2 _ HP2.out.p0
  have HY2 : 1 < U2.heap.size := World.block_lt_of_cell? U2 _ HP2.out.r0
  obtain ⟨-, -, -, -, u0, u1, u2, u3⟩ := HP2.out
  refine wp_region_last_ext [_, _, _, _, _, _, _, _, _, _] _ (by kernel_rfl) (by kernel_rfl) (by kernel_rfl) (by kernel_rfl) (by kernel_rfl) ?_
  simp only [List.cons_append, List.nil_append, idle]
  repeat (go_big_quiet_step (first | with_reducible exact Calls.ext_of (H5.out _) | with_reducible exact Calls.ext_of (H6.out _) | with_reducible exact Calls.ext_pv HP2.out H7.out | with_reducible exact Calls.ext_of (H8.out _)))
  refine wpQuiet_nil ?_
  rintro _ ⟨x2, rfl⟩
  have XR3 := (XR2.fr (ext_fr _ x2)).other (b' := rb) (by omega) (.int .u64 (r0 : Nat)) (.int .u64 (r1 : Nat)) (.int .u64 (r2 : Nat)) (.int .u64 (r3 : Nat))
  have XA3 := (XA2.fr (ext_fr _ x2)).other (b' := rb) (by omega) (.int .u64 (r0 : Nat)) (.int .u64 (r1 : Nat)) (.int .u64 (r2 : Nat)) (.int .u64 (r3 : Nat))
  have XC3 := (XC2.fr (ext_fr _ x2)).set4 (.int .u64 (r0 : Nat)) (.int .u64 (r1 : Nat)) (.int .u64 (r2 : Nat)) (.int .u64 (r3 : Nat))
  have F3 := (F2.ext x2).set4 (b := rb) (by omega) (.int .u64 (r0 : Nat)) (.int .u64 (r1 : Nat)) (.int .u64 (r2 : Nat)) (.int .u64 (r3 : Nat))
  go_simp
  clear xa0c xa1c xa2c xa3c xa4c xa5c xa6c xa7c xa8c xa9c xc0c xc1c xc2c xc3c xc4c xc5c xc6c xc7c xc8c xc9c u0 u1 u2 u3 HP2 HZ2 HY2 XR2 XA2 XC2 F2
  generalize ((((((ext U2 x2)).setCell ⟨rb, 0, none⟩ (.int .u64 (r0 : Nat))).setCell ⟨rb, 1, none⟩ (.int .u64 (r1 : Nat))).setCell ⟨rb, 2, none⟩ (.int .u64 (r2 : Nat))).setCell ⟨rb, 3, none⟩ (.int .u64 (r3 : Nat))) = U3 at *
  go_wp2_with fail
  obtain ⟨xa0c, xa1c, xa2c, xa3c, xa4c, xa5c, xa6c, xa7c, xa8c, xa9c⟩ := XA3.all
  obtain ⟨xc0c, xc1c, xc2c, xc3c, xc4c, xc5c, xc6c, xc7c, xc8c, xc9c⟩ := XC3.all
  have HP3 := hid (p := _) (hP2.out.fr F3)
  have HZ3 : 0 < U3.heap.size := World.block_lt_of_cell? U3 _ HP3.out.p0
  have HY3 : 1 < U3.heap.size := World.block_lt_of_cell? U3 _ HP3.out.r0
  obtain ⟨-, -, -, -, u0, u1, u2, u3⟩ := HP3.out
  refine wp_region_last_ext [_, _, _, _, _, _, _, _, _] _ (by kernel_rfl) (by kernel_rfl) (by kernel_rfl) (by kernel_rfl) (by kernel_rfl) ?_
  simp only [List.cons_append, List.nil_append, idle]
  repeat (go_big_quiet_step (first | with_reducible exact Calls.ext_pv HP3.out H9.out | with_reducible exact Calls.ext_of (H10.out _) | with_reducible exact Calls.ext_of (H6.out _)))
  refine wpQuiet_nil ?_
  rintro _ ⟨x3, rfl⟩
  have XR4 := XR3.fr (ext_fr _ x3)
  have XA4 := XA3.fr (ext_fr _ x3)
  have XC4 := XC3.fr (ext_fr _ x3)
  have F4 := F3.ext x3
  go_simp
  clear xa0c xa1c xa2c xa3c xa4c xa5c xa6c xa7c xa8c xa9c xc0c xc1c xc2c xc3c xc4c xc5c xc6c xc7c xc8c xc9c u0 u1 u2 u3 HP3 HZ3 HY3 XR3 XA3 XC3 F3
  generalize ext U3 x3 = U4 at *
  obtain ⟨xc0c, xc1c, xc2c, xc3c, xc4c, xc5c, xc6c, xc7c, xc8c, xc9c⟩ := XC4.all
  obtain ⟨xr0c, xr1c, xr2c, xr3c, xr4c, xr5c, xr6c, xr7c, xr8c, xr9c⟩ := XR4.all
  go_wp2_with (go_at_call 90; refine (H11.out _).mono ?_; rintro e V5 ⟨rfl, hF⟩; have XR5 := XR4.fr hF; have F5 := F4.trans0 hF; clear xr0c xr1c xr2c xr3c xr4c xr5c xr6c xr7c xr8c xr9c hF; obtain ⟨xr0c, xr1c, xr2c, xr3c, xr4c, xr5c, xr6c, xr7c, xr8c, xr9c⟩ := XR5.all)
  simp [bodyPost, results, Tryd.results67, go_sem, *]
  exact F5.set4 (by omega) _ _ _ _

end Go.Proofs.YtpdagpjjlnncbaaDoor
namespace Go.Proofs.YtpdagpjjlnncbaaDoor
open Go.RowKit Go.Lib Go.BigFrame
set_option linter.unusedVariables false
set_option linter.unusedSimpArgs false
set_option maxRecDepth 1000000
set_option maxHeartbeats 4000000

/-- A byte of a text. -/
def byt (s : ByteArray) (i : Nat) : Nat := (s.data.getD i 0).toNat
theorem byt_lt (s : ByteArray) (i : Nat) : byt s i < 256 := (s.data.getD i 0).toNat_lt
theorem byt_get (s : ByteArray) (i : Nat) (h : i < s.size) : s[i].toNat = byt s i := by
  have h2 : i < s.data.size := h
  unfold byt
  rw [Array.getD_eq_getD_getElem?, Array.getElem?_eq_getElem h2]
  rfl
/-- The number of the first i bytes. -/
def rd (s : ByteArray) : Nat → Nat
  | 0 => 0
  | i + 1 => rd s i + byt s i * 256 ^ i
theorem rd_lt (s : ByteArray) : ∀ i, rd s i < 256 ^ i
  | 0 => by rw [rd, Nat.pow_zero]; omega
  | i + 1 => by
    have h := rd_lt s i
    have h2 : byt s i ≤ 255 := by have := byt_lt s i; omega
    have h3 := Nat.mul_le_mul_right (256 ^ i) h2
    rw [rd, Nat.pow_succ]
    omega
def dg (v : Nat) : Nat → Nat
  | 0 => v % 18446744073709551616
  | 1 => v / 18446744073709551616 % 18446744073709551616
  | 2 => v / 340282366920938463463374607431768211456 % 18446744073709551616
  | 3 => v / 6277101735386680763835789423207666416102355444464034512896 % 18446744073709551616
  | _ => 0
def MQ : Nat → Nat
  | 0 => 1
  | 1 => 18446744073709551616
  | 2 => 340282366920938463463374607431768211456
  | _ => 6277101735386680763835789423207666416102355444464034512896
theorem MQ_pow : ∀ i, i < 32 → MQ (i / 8) * 2 ^ (i % 8 * 8) = 256 ^ i := by
  have : ∀ i : Fin 32, MQ (i.1 / 8) * 2 ^ (i.1 % 8 * 8) = 256 ^ i.1 := by decide +kernel
  exact fun i h => this ⟨i, h⟩
theorem pow_le56 : ∀ i, i < 8 → 2 ^ (i * 8) ≤ 72057594037927936 := by
  have : ∀ i : Fin 8, 2 ^ (i.1 * 8) ≤ 72057594037927936 := by decide +kernel
  exact fun i h => this ⟨i, h⟩
theorem LE.cell {V : World} {b t v : Nat} (h : LE V b t v) (q : Nat) (hq : q < 4) : V.cell? ⟨b, q, none⟩ = some (.int .u64 (dg v q : Nat)) ∧ V.frozen? ⟨b, q, none⟩ = false := by
  obtain ⟨h0, h1, h2, h3, f0, f1, f2, f3, -, -⟩ := L4.all h
  match q, hq with
  | 0, _ => exact ⟨h0, f0⟩
  | 1, _ => exact ⟨h1, f1⟩
  | 2, _ => exact ⟨h2, f2⟩
  | 3, _ => exact ⟨h3, f3⟩
theorem dg_lt {v q R : Nat} (hq : q < 4) (hv : v < MQ q * R) : dg v q < R := by
  match q, hq with
  | 0, _ => simp only [MQ] at hv; simp only [dg]; omega
  | 1, _ => simp only [MQ] at hv; simp only [dg]; omega
  | 2, _ => simp only [MQ] at hv; simp only [dg]; omega
  | 3, _ => simp only [MQ] at hv; simp only [dg]; omega
theorem dg_add {v q R Y : Nat} (hq : q < 4) (hv : v < MQ q * R) (hY : Y ≤ 255 * R) (hR : R ≤ 72057594037927936) (j : Nat) (hj : j < 4) : dg (v + MQ q * Y) j = if j = q then dg v q + Y else dg v j := by
  match q, hq with
  | 0, _ => simp only [MQ] at *; match j, hj with
    | 0, _ | 1, _ | 2, _ | 3, _ => simp [dg] <;> omega
  | 1, _ => simp only [MQ] at *; match j, hj with
    | 0, _ | 1, _ | 2, _ | 3, _ => simp [dg] <;> omega
  | 2, _ => simp only [MQ] at *; match j, hj with
    | 0, _ | 1, _ | 2, _ | 3, _ => simp [dg] <;> omega
  | 3, _ => simp only [MQ] at *; match j, hj with
    | 0, _ | 1, _ | 2, _ | 3, _ => simp [dg] <;> omega
theorem LE.setq {V : World} {b t v q R Y : Nat} (h : LE V b t v) (hq : q < 4) (hv : v < MQ q * R) (hY : Y ≤ 255 * R) (hR : R ≤ 72057594037927936) : LE (V.setCell ⟨b, q, none⟩ (.int .u64 ((dg v q + Y : Nat) : Int))) b t (v + MQ q * Y) := by
  have h2 := heap_setCell_same V b q _ t (.int .u64 ((dg v q + Y : Nat) : Int)) h
  have hd := dg_add hq hv hY hR
  have k0 := hd 0 (by decide)
  have k1 := hd 1 (by decide)
  have k2 := hd 2 (by decide)
  have k3 := hd 3 (by decide)
  unfold LE L4
  rw [h2]
  have e0 : (v + MQ q * Y) % 18446744073709551616 = dg (v + MQ q * Y) 0 := rfl
  have e1 : (v + MQ q * Y) / 18446744073709551616 % 18446744073709551616 = dg (v + MQ q * Y) 1 := rfl
  have e2 : (v + MQ q * Y) / 340282366920938463463374607431768211456 % 18446744073709551616 = dg (v + MQ q * Y) 2 := rfl
  have e3 : (v + MQ q * Y) / 6277101735386680763835789423207666416102355444464034512896 % 18446744073709551616 = dg (v + MQ q * Y) 3 := rfl
  rw [e0, e1, e2, e3, k0, k1, k2, k3]
  match q, hq with
  | 0, _ | 1, _ | 2, _ | 3, _ => rfl
theorem LE.alloc {V : World} {b t v : Nat} (h : LE V b t v) (o : Obj) : LE (V.alloc o) b t v := L4.alloc h o

theorem read_any (s : ByteArray) (hs : s.size = 32) (w : World) : Calls Tryd.prog 63 #[.string s] w fun e w' => e = .returned (wd (rd s 32)) ∧ Fr [] w w' := by
  have HS := hid (p := _) hs
  have hr4 : rd s 32 < 115792089237316195423570985008687907853269984665640564039457584007913129639936 := rd_lt s 32
  obtain ⟨c0, c1, c2, c3, -, -, -, -, -, wc⟩ := wd_open _ hr4
  rw [wc]
  have HC := hid (p := _) wc
  clear wc hr4
  go_enter Tryd.func63, Tryd.ntmps63
  go_wp2_with fail
  go_loopg [5] 32 (fun gk q wr => ∃ i : Nat, i ≤ 32 ∧ gk = 32 - i ∧ q = .int .i64 i ∧ Hid (Fr [] w wr ∧ LE wr (w.heap.size + 1) 25 (rd s i) ∧ L4 wr w.heap.size 25 (.int .u64 0) (.int .u64 0) (.int .u64 0) (.int .u64 0)))
  case atStart =>
    exact ⟨0, Nat.zero_le _, rfl, rfl, hid ⟨((Fr.refl [] w).alloc _).alloc _, (LE.iff (v := 0) rfl).2 (L4.new1 w _ 25 _ _ _ _), (L4.new w 25 _ _ _ _).alloc _⟩⟩
  case round =>
    obtain ⟨i, hi, hgk, rfl, K⟩ := hrel
    by_cases hlt : i < 32
    · have hlt' : (i : Int) < 32 := by omega
      have hb : i < s.size := by omega
      have hq : i / 8 < 4 := by omega
      have hv : rd s i < MQ (i / 8) * 2 ^ (i % 8 * 8) := by rw [MQ_pow i hlt]; exact rd_lt s i
      have hR := pow_le56 (i % 8) (by omega)
      have hB := byt_lt s i
      have hY : byt s i * 2 ^ (i % 8 * 8) ≤ 255 * 2 ^ (i % 8 * 8) := Nat.mul_le_mul_right _ (by omega)
      have hx := dg_lt hq hv
      have h1 := byt_get s i hb
      have h2 : IntKind.u64.wrap (byt s i : Int) = (byt s i : Int) := wrapN _ (by omega)
      have h3 : IntKind.u64.wrap ((byt s i : Int) * 2 ^ (i % 8 * 8)) = ((byt s i * 2 ^ (i % 8 * 8) : Nat) : Int) := by
        have e : ((byt s i : Int) * 2 ^ (i % 8 * 8)) = ((byt s i * 2 ^ (i % 8 * 8) : Nat) : Int) := by rw [Int.natCast_mul, Int.natCast_pow]; rfl
        rw [e]; exact wrapN _ (by omega)
      have h4 : bits .or .u64 ((dg (rd s i) (i / 8) : Nat) : Int) ((byt s i * 2 ^ (i % 8 * 8) : Nat) : Int) = ((dg (rd s i) (i / 8) + byt s i * 2 ^ (i % 8 * 8) : Nat) : Int) := by
        have e := bits_or_u64_nat (dg (rd s i) (i / 8)) (byt s i * 2 ^ (i % 8 * 8)) (by omega) (by omega)
        rw [Nat.or_comm, nat_join (i % 8 * 8) _ _ (Nat.mul_mod_left _ _) hx, Nat.add_comm] at e
        exact e
      have hnext : rd s i + MQ (i / 8) * (byt s i * 2 ^ (i % 8 * 8)) = rd s (i + 1) := by
        rw [rd, ← MQ_pow i hlt, Nat.mul_left_comm]
      have c1 := (K.out.2.1.cell (i / 8) hq).1
      have c2 := (K.out.2.1.cell (i / 8) hq).2
      have c3 : w.heap.size + 1 < wr.heap.size := lt_of_heap K.out.2.1
      have KN := hid (p := _) (fun x => (show LE ((ext wr x).setCell ⟨w.heap.size + 1, i / 8, none⟩ (.int .u64 ((dg (rd s i) (i / 8) + byt s i * 2 ^ (i % 8 * 8) : Nat) : Int))) (w.heap.size + 1) 25 (rd s (i + 1)) from by
        rw [← hnext]; exact (K.out.2.1.fr (ext_fr wr x)).setq hq hv hY hR))
      have KF := hid (p := _) K.out.1
      have KR := hid (p := _) K.out.2.2
      generalize dg (rd s i) (i / 8) + byt s i * 2 ^ (i % 8 * 8) = Z at *
      generalize byt s i * 2 ^ (i % 8 * 8) = Y at *
      generalize dg (rd s i) (i / 8) = x at *
      generalize byt s i = B at *
      clear hv hR hB hY hx hnext K
      go_wp2_with fail
      refine wp_region_last_ext [_, _, _, _, _, _, _, _, _, _, _, _, _, _] _ (by kernel_rfl) (by kernel_rfl) (by kernel_rfl) (by kernel_rfl) (by kernel_rfl) ?_
      simp only [List.cons_append, List.nil_append, idle]
      repeat (go_big_quiet_step (fail))
      refine wpQuiet_nil ?_
      rintro _ ⟨xq, rfl⟩
      go_simp
      go_wp2
      go_roundg (32 - (i + 1))
      case measure => omega
      case rel =>
        refine ⟨i + 1, by omega, rfl, by go_num, hid ⟨(KF.out.ext xq).setCell (.inr (by show w.heap.size ≤ w.heap.size + 1; omega)) _, KN.out xq, ?_⟩⟩
        have h5 := KR.out.fr (ext_fr wr xq)
        unfold L4 at h5 ⊢
        rw [heap_setCell_other _ _ _ _ (by show w.heap.size ≠ w.heap.size + 1; omega)]
        exact h5
    · obtain rfl : i = 32 := by omega
      have A := (LE.iff HC.out).1 K.out.2.1
      have C := K.out.2.2
      have F := K.out.1
      obtain ⟨a0c, a1c, a2c, a3c, a4c, a5c, a6c, a7c, a8c, a9c⟩ := A.all
      obtain ⟨x0c, x1c, x2c, x3c, x4c, x5c, x6c, x7c, x8c, x9c⟩ := C.all
      clear K
      go_wp2_with fail
      simp [bodyPost, results, Tryd.results63, go_sem, *]
      exact F.set4 (by omega) _ _ _ _


/-- What Of answers to 32 bytes. -/
def of (s : ByteArray) : Nat := rd s 32 % Nt.P
theorem of_ltP (s : ByteArray) : of s < Nt.P := Nat.mod_lt _ P_pos
theorem of_yes (s : ByteArray) (hs : s.size = 32) (w : World) (hP : PV w) : Calls Tryd.prog 64 #[.string s] w fun e w' => e = .returned (.tuple #[wd (of s), .int .i64 0]) ∧ Fr [] w w' := by
  have hP2 := hid (p := _) hP
  have K1 := fun W => read_any s hs W
  have K2 := fun W (h : PV W) => fold_any (rd s 32) 0 (rd_lt s 32) (by decide) W h
  rw [Nat.mul_zero, Nat.add_zero] at K2
  have e : rd s 32 % Nt.P = of s := rfl
  rw [e] at K2
  obtain ⟨c0, c1, c2, c3, -, -, -, -, -, wc⟩ := wd_open (of s) (lt4 (of_ltP s))
  rw [wc] at K2
  rw [wc]
  have H1 := hid (p := _) K1
  have H2 : Hid (∀ W, PV W → Calls Tryd.prog 86 #[wd (rd s 32), .int .u64 0] W fun e w' => e = .returned (.agg #[.int .u64 (c0 : Nat), .int .u64 (c1 : Nat), .int .u64 (c2 : Nat), .int .u64 (c3 : Nat)]) ∧ Fr [] W w') := hid K2
  clear K1 K2 e wc hP
  generalize wd (rd s 32) = r at *
  have hsi : (s.size : Int) = 32 := by omega
  go_enter Tryd.func64, Tryd.ntmps64
  go_wp2_with (first | (go_at_call 63; refine (H1.out _).mono ?_; rintro e V ⟨rfl, hF⟩; have C := (L4.new w 27 _ _ _ _).fr hF; have F := ((Fr.refl [] w).alloc _).trans0 hF; clear hF) | (go_at_call 86; refine (H2.out _ (hP2.out.fr F)).mono ?_; rintro e V2 ⟨rfl, hF⟩; have C2 := C.fr hF; have F2 := F.trans0 hF; obtain ⟨x0c, x1c, x2c, x3c, x4c, x5c, x6c, x7c, x8c, x9c⟩ := C2.all; clear hF))
  simp [bodyPost, results, Tryd.results64, go_sem, *]
  exact F2.set4 (by omega) _ _ _ _
theorem of_no (s : ByteArray) (hs : s.size ≠ 32) (w : World) : Calls Tryd.prog 64 #[.string s] w fun e w' => e = .returned (.tuple #[wd 0, .int .i64 2]) ∧ Fr [] w w' := by
  have hsi : ¬ (s.size : Int) = 32 := by omega
  rw [← wd_0]
  go_enter Tryd.func64, Tryd.ntmps64
  go_wp2_with fail
  simp [bodyPost, results, Tryd.results64, go_sem, *]
  exact (Fr.refl [] w).alloc _

end Go.Proofs.YtpdagpjjlnncbaaDoor
