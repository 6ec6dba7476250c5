/-
  The statements' own 'alive'. No statement is proved here.
-/
import Derived.Test.YtjaocjnefopdfaaDoorNumO
import Derived.Deep.RegionHeld3
namespace Go.Proofs.YtjaocjnefopdfaaDoor
open Go.RowKit Go.Lib Go.BigFrame
set_option linter.unusedVariables false
set_option linter.unusedSimpArgs false
set_option maxRecDepth 1000000
set_option maxHeartbeats 1000000

theorem by32_get (v : Nat) : (by32 v)[0]? = some (UInt8.ofNat (vb v 0)) := by
  have h : (by32 v).data[0]? = some (UInt8.ofNat (vb v 0)) := by rw [by32_data]; rfl
  have hs := by32_size v
  have h2 : 0 < (by32 v).data.size := by
    have : (by32 v).data.size = 32 := hs
    omega
  rw [Array.getElem?_eq_getElem h2] at h
  rw [getElem?_pos (by32 v) 0 (by omega)]
  exact h
theorem small_P {n : Nat} (h : n < 100) : n < Nt.P := by rw [Nt.P_val]; omega
theorem small_4 {n : Nat} (h : n < 100) : n < 115792089237316195423570985008687907853269984665640564039457584007913129639936 := lt4 (small_P h)

theorem alive_any (w : World) (hP : PV w) : Calls Tryd.prog 8 #[] w fun e w' => e = .returned (.bool true) ∧ Fr [] w w' := by
  have hP2 := hid (p := _) hP
  obtain ⟨t, ht⟩ : ∃ t, t = 2 := ⟨2, rfl⟩
  obtain ⟨f, hf⟩ : ∃ f, f = 4 := ⟨4, rfl⟩
  obtain ⟨k, hk⟩ : ∃ k, k = 3 := ⟨3, rfl⟩
  obtain ⟨n, hn⟩ : ∃ n, n = 1 := ⟨1, rfl⟩
  have tP : t < Nt.P := small_P (by omega)
  have fP : f < Nt.P := small_P (by omega)
  have nP : n < Nt.P := small_P (by omega)
  have k4 : k < 115792089237316195423570985008687907853269984665640564039457584007913129639936 := small_4 (by omega)
  have t4 := lt4 tP
  have n4 := lt4 nP
  have K1 : ∀ W : World, Calls Tryd.prog 13 #[.int .u32 2] W fun e w' => e = .returned (wd t) ∧ Fr [] W w' := by rw [ht]; exact fun W => small_any 2 (by decide) W
  have K2 : ∀ W : World, Calls Tryd.prog 13 #[.int .u32 4] W fun e w' => e = .returned (wd f) ∧ Fr [] W w' := by rw [hf]; exact fun W => small_any 4 (by decide) W
  have K3 := fun W (h : PV W) => root_any f false fP W h
  rw [ro_four f hf, ok_four f hf, ← ht] at K3
  have K4 := fun W (h : PV W) => root_any t true tP W h
  rw [ok_two t ht, ro_no (ok_two t ht)] at K4
  have K5 := fun W => of_no ⟨#[115, 104, 111, 114, 116]⟩ (by decide) W
  have K6 := fun W (h : PV W) => inv_any t tP W h
  have K7 := fun W (h : PV W) => mul_any t (iv t) t4 (lt4 (iv_ltP t)) W h
  have hone : t * iv t % Nt.P = n := (inv_mul (by omega) tP).trans hn.symm
  rw [hone] at K7
  have K8 := fun W => bytes_any n n4 W
  have K9 : ∀ W : World, Calls Tryd.prog 15 #[wd t, wd t] W fun e w' => e = .returned (.bool true) ∧ Fr [] W w' := fun W => by
    have := same_any t t t4 t4 W
    rwa [decide_eq_true rfl] at this
  have K10 : ∀ W : World, Calls Tryd.prog 13 #[.int .u32 3] W fun e w' => e = .returned (wd k) ∧ Fr [] W w' := by rw [hk]; exact fun W => small_any 3 (by decide) W
  have K11 : ∀ W : World, Calls Tryd.prog 17 #[wd k] W fun e w' => e = .returned (.bool true) ∧ Fr [] W w' := fun W => by
    have := odd_any k k4 W
    rwa [decide_eq_true (by omega)] at this
  have K12 : ∀ W : World, Calls Tryd.prog 17 #[wd t] W fun e w' => e = .returned (.bool false) ∧ Fr [] W w' := fun W => by
    have := odd_any t t4 W
    rwa [decide_eq_false (by omega)] at this
  have K13 : ∀ W : World, Calls Tryd.prog 24 #[.bool true, wd n, wd t] W fun e w' => e = .returned (wd t) ∧ Fr [] W w' := fun W => select_any true n t n4 t4 W
  have K14 : ∀ W : World, Calls Tryd.prog 24 #[.bool false, wd n, wd t] W fun e w' => e = .returned (wd n) ∧ Fr [] W w' := fun W => select_any false n t n4 t4 W
  have K15 : ∀ W : World, Calls Tryd.prog 15 #[wd n, wd n] W fun e w' => e = .returned (.bool true) ∧ Fr [] W w' := fun W => by
    have := same_any n n n4 n4 W
    rwa [decide_eq_true rfl] at this
  have hsz : ((by32 n).size : Int) = 32 := by rw [by32_size]; rfl
  have hsz2 : (by32 n).size = 32 := by32_size n
  have hg0 : (by32 n)[0]? = some 1 := by rw [by32_get, hn]; rfl
  obtain ⟨d0, d1, d2, d3, -, -, -, -, -, wt⟩ := wd_open t t4
  obtain ⟨o0, o1, o2, o3, -, -, -, -, -, wn⟩ := wd_open n n4
  rw [wt] at K1 K3 K4 K6 K7 K9 K12 K13 K14
  rw [wn] at K7 K8 K13 K14 K15
  rw [← wd_0] at K4 K5
  have H1 := hid (p := _) K1
  have H2 := hid (p := _) K2
  have H3 := hid (p := _) K3
  have H4 := hid (p := _) K4
  have H5 := hid (p := _) K5
  have H6 := hid (p := _) K6
  have H7 := hid (p := _) K7
  have H8 := hid (p := _) K8
  have H9 := hid (p := _) K9
  have H10 := hid (p := _) K10
  have H11 := hid (p := _) K11
  have H12 := hid (p := _) K12
  have H13 := hid (p := _) K13
  have H14 := hid (p := _) K14
  have H15 := hid (p := _) K15
  clear K1 K2 K3 K4 K5 K6 K7 K8 K9 K10 K11 K12 K13 K14 K15 wt wn hone tP fP nP k4 t4 n4 hP
  generalize by32 n = S at *
  generalize wd f = vf at *
  generalize wd k = vk at *
  generalize wd (iv t) = vi at *
  clear ht hf hk hn
  have hg1 : ∀ h : 0 < S.size, S[0] = 1 := fun h => by
    rw [getElem?_pos S 0 h] at hg0; exact Option.some.inj hg0
  go_enter Tryd.func8, Tryd.ntmps8
  go_wp2_with (first | (go_at_call 13; first | (with_reducible refine (H1.out _).mono ?_; rintro e V1 ⟨rfl, hF⟩; have F1 := (Fr.refl [] w).trans0 hF; clear hF) | (with_reducible refine (H2.out _).mono ?_; rintro e V2 ⟨rfl, hF⟩; have T2 := (L4.new V1 28 _ _ _ _).fr hF; have F2 := (F1.alloc _).trans0 hF; clear hF)) | (go_at_call 25; first | (with_reducible refine (H3.out _ (hP2.out.fr F2)).mono ?_; rintro e V3 ⟨rfl, hF⟩; have T3 := T2.fr hF; have F3 := F2.trans0 hF; obtain ⟨_, _, _, _, _, _, _, _, _, _⟩ := T3.all; clear hF) | (with_reducible refine (H4.out _ (hP2.out.fr (F3.alloc _))).mono ?_; rintro e V4 ⟨rfl, hF⟩; have T4 := (T3.alloc _).fr hF; have R4 := (L4.new V3 28 _ _ _ _).fr hF; have F4 := (F3.alloc _).trans0 hF; clear hF)) | (go_at_call 9; refine (H5.out _).mono ?_; rintro e V5 ⟨rfl, hF⟩; have T5 := (T4.alloc _).fr hF; have R5 := (R4.alloc _).fr hF; have F5 := (F4.alloc _).trans0 hF; clear hF))
  have F6 := F5.alloc (.cells #[.int .u64 0, .int .u64 0, .int .u64 0, .int .u64 0] 28)
  have T6 := T5.alloc (.cells #[.int .u64 0, .int .u64 0, .int .u64 0, .int .u64 0] 28)
  have R6 := R5.alloc (.cells #[.int .u64 0, .int .u64 0, .int .u64 0, .int .u64 0] 28)
  generalize V5.alloc (.cells #[.int .u64 0, .int .u64 0, .int .u64 0, .int .u64 0] 28) = U at *
  generalize V1.heap.size = tb at *
  generalize V3.heap.size = rb at *
  clear F1 F2 F3 F4 F5 T2 T3 T4 T5 R4 R5
  obtain ⟨t0c, t1c, t2c, t3c, t4c, t5c, t6c, t7c, t8c, t9c⟩ := T6.all
  have hsU : tb < U.heap.size ∧ rb < U.heap.size := ⟨lt_of_heap T6, lt_of_heap R6⟩
  have hn0 : U.heap.size ≠ tb := by omega
  go_region_held3 (fun V' => V'.cell? ⟨tb, 0, none⟩ = some (.int .u64 (d0 : Nat)) ∧ V'.cell? ⟨tb, 1, none⟩ = some (.int .u64 (d1 : Nat)) ∧ V'.cell? ⟨tb, 2, none⟩ = some (.int .u64 (d2 : Nat)) ∧ V'.cell? ⟨tb, 3, none⟩ = some (.int .u64 (d3 : Nat))) (go_keep)
    (first | (go_at_call 27; refine (H6.out _ (hP2.out.fr (by first | exact F6.drew | exact F6.drew.alloc _))).mono ?_; rintro e Va ⟨rfl, hF⟩; first | (have Fa : Fr [] w Va := (by with_reducible exact F6.drew.trans0 hF); have Ta := T6.fr ((Fr.refl [] U).drew.trans0 hF); have Ra := R6.fr ((Fr.refl [] U).drew.trans0 hF); have hsa : U.heap.size ≤ Va.heap.size := hF.size; obtain ⟨_, _, _, _, _, _, _, _, _, _⟩ := Ta.all; have hn1 : Va.heap.size ≠ tb := (by have := lt_of_heap Ta; omega); clear hF) | (have Fa := (F6.drew.alloc _).trans0 hF; have Ta := T6.fr (((Fr.refl [] U).drew.alloc _).trans0 hF); have Ra := R6.fr (((Fr.refl [] U).drew.alloc _).trans0 hF); have Oa : L4 Va U.heap.size 28 (.int .u64 0) (.int .u64 0) (.int .u64 0) (.int .u64 0) := (L4.new U.drew 28 _ _ _ _).fr hF; have hn2 : U.heap.size < Va.heap.size := lt_of_heap Oa; obtain ⟨_, _, _, _, _, _, _, _, _, _⟩ := Oa.all; obtain ⟨_, _, _, _, _, _, _, _, _, _⟩ := Ta.all; have hn1 : Va.heap.size ≠ tb := (by have := lt_of_heap Ta; omega); clear hF)) | (go_at_call 22; refine (H7.out _ (hP2.out.fr (by first | exact Fa | exact Fa.alloc _))).mono ?_; rintro e Vb ⟨rfl, hF⟩; first | (have Fb : Fr [] w Vb := (by with_reducible exact Fa.trans0 hF); have Tb := Ta.fr hF; have Rb := Ra.fr hF; (try (have Ob := Oa.fr hF; obtain ⟨_, _, _, _, _, _, _, _, _, _⟩ := Ob.all)); obtain ⟨_, _, _, _, _, _, _, _, _, _⟩ := Tb.all; clear hF) | (have Fb := (Fa.alloc _).trans0 hF; have Tb := (Ta.alloc _).fr hF; have Rb := (Ra.alloc _).fr hF; have Ob := (L4.new Va 28 _ _ _ _).fr hF; obtain ⟨_, _, _, _, _, _, _, _, _, _⟩ := Ob.all; obtain ⟨_, _, _, _, _, _, _, _, _, _⟩ := Tb.all; clear hF)))
  · have Fx := Fb.alloc (.cells #[.int .u64 (o0 : Nat), .int .u64 (o1 : Nat), .int .u64 (o2 : Nat), .int .u64 (o3 : Nat)] 28)
    have Tx := Tb.alloc (.cells #[.int .u64 (o0 : Nat), .int .u64 (o1 : Nat), .int .u64 (o2 : Nat), .int .u64 (o3 : Nat)] 28)
    have Rx := Rb.alloc (.cells #[.int .u64 (o0 : Nat), .int .u64 (o1 : Nat), .int .u64 (o2 : Nat), .int .u64 (o3 : Nat)] 28)
    have Ox := L4.new Vb 28 (.int .u64 (o0 : Nat)) (.int .u64 (o1 : Nat)) (.int .u64 (o2 : Nat)) (.int .u64 (o3 : Nat))
    generalize Vb.alloc (.cells #[.int .u64 (o0 : Nat), .int .u64 (o1 : Nat), .int .u64 (o2 : Nat), .int .u64 (o3 : Nat)] 28) = X at *
    generalize Vb.heap.size = ob at *
    go_wp2_with fail
    clear Fb Tb Rb
    obtain ⟨a0c, a1c, a2c, a3c, -, -, -, -, a8c, -⟩ := Tx.all
    obtain ⟨b0c, b1c, b2c, b3c, -, -, -, -, b8c, -⟩ := Rx.all
    obtain ⟨e0c, e1c, e2c, e3c, -, -, -, -, e8c, -⟩ := Ox.all
    refine wp_region_ext (by kernel_rfl) (by kernel_rfl) ?_
    repeat (go_big_quiet_step (first | with_reducible exact Calls.ext_of (H8.out _) | with_reducible exact Calls.ext_of (H9.out _) | with_reducible exact Calls.ext_of (H10.out _) | with_reducible exact Calls.ext_of (H11.out _) | with_reducible exact Calls.ext_of (H12.out _) | with_reducible exact Calls.ext_of (H13.out _) | with_reducible exact Calls.ext_of (H14.out _) | with_reducible exact Calls.ext_of (H15.out _)))
    refine wpQuiet_nil ?_
    rintro _ ⟨xq, rfl⟩
    go_wp2
    go_ret
    exact ⟨rfl, Fx.ext xq⟩
  · have hw0 : w.heap.size ≤ U.heap.size := F6.size
    have hsb : rb < Va.heap.size := lt_of_heap Ra
    have Fx := Fb.set4 (b := Va.heap.size) (by omega) (.int .u64 (o0 : Nat)) (.int .u64 (o1 : Nat)) (.int .u64 (o2 : Nat)) (.int .u64 (o3 : Nat))
    have Tx := Tb.other (b' := Va.heap.size) (by omega) (.int .u64 (o0 : Nat)) (.int .u64 (o1 : Nat)) (.int .u64 (o2 : Nat)) (.int .u64 (o3 : Nat))
    have Rx := Rb.other (b' := Va.heap.size) (by omega) (.int .u64 (o0 : Nat)) (.int .u64 (o1 : Nat)) (.int .u64 (o2 : Nat)) (.int .u64 (o3 : Nat))
    have Ox := Ob.set4 (.int .u64 (o0 : Nat)) (.int .u64 (o1 : Nat)) (.int .u64 (o2 : Nat)) (.int .u64 (o3 : Nat))
    generalize (((((Vb).setCell ⟨Va.heap.size, 0, none⟩ (.int .u64 (o0 : Nat))).setCell ⟨Va.heap.size, 1, none⟩ (.int .u64 (o1 : Nat))).setCell ⟨Va.heap.size, 2, none⟩ (.int .u64 (o2 : Nat))).setCell ⟨Va.heap.size, 3, none⟩ (.int .u64 (o3 : Nat))) = X at *
    generalize Va.heap.size = ob at *
    go_wp2_with fail
    clear Fb Tb Rb
    obtain ⟨a0c, a1c, a2c, a3c, -, -, -, -, a8c, -⟩ := Tx.all
    obtain ⟨b0c, b1c, b2c, b3c, -, -, -, -, b8c, -⟩ := Rx.all
    obtain ⟨e0c, e1c, e2c, e3c, -, -, -, -, e8c, -⟩ := Ox.all
    refine wp_region_ext (by kernel_rfl) (by kernel_rfl) ?_
    repeat (go_big_quiet_step (first | with_reducible exact Calls.ext_of (H8.out _) | with_reducible exact Calls.ext_of (H9.out _) | with_reducible exact Calls.ext_of (H10.out _) | with_reducible exact Calls.ext_of (H11.out _) | with_reducible exact Calls.ext_of (H12.out _) | with_reducible exact Calls.ext_of (H13.out _) | with_reducible exact Calls.ext_of (H14.out _) | with_reducible exact Calls.ext_of (H15.out _)))
    refine wpQuiet_nil ?_
    rintro _ ⟨xq, rfl⟩
    go_wp2
    go_ret
    exact ⟨rfl, Fx.ext xq⟩
  · have hw0 : w.heap.size ≤ U.heap.size := F6.size
    have hsb : rb < Va.heap.size := lt_of_heap Ra
    have Fx := Fb.set4 (b := U.heap.size) (by omega) (.int .u64 (o0 : Nat)) (.int .u64 (o1 : Nat)) (.int .u64 (o2 : Nat)) (.int .u64 (o3 : Nat))
    have Tx := Tb.other (b' := U.heap.size) (by omega) (.int .u64 (o0 : Nat)) (.int .u64 (o1 : Nat)) (.int .u64 (o2 : Nat)) (.int .u64 (o3 : Nat))
    have Rx := Rb.other (b' := U.heap.size) (by omega) (.int .u64 (o0 : Nat)) (.int .u64 (o1 : Nat)) (.int .u64 (o2 : Nat)) (.int .u64 (o3 : Nat))
    have Ox := Ob.set4 (.int .u64 (o0 : Nat)) (.int .u64 (o1 : Nat)) (.int .u64 (o2 : Nat)) (.int .u64 (o3 : Nat))
    generalize (((((Vb).setCell ⟨U.heap.size, 0, none⟩ (.int .u64 (o0 : Nat))).setCell ⟨U.heap.size, 1, none⟩ (.int .u64 (o1 : Nat))).setCell ⟨U.heap.size, 2, none⟩ (.int .u64 (o2 : Nat))).setCell ⟨U.heap.size, 3, none⟩ (.int .u64 (o3 : Nat))) = X at *
    generalize U.heap.size = ob at *
    go_wp2_with fail
    clear Fb Tb Rb
    obtain ⟨a0c, a1c, a2c, a3c, -, -, -, -, a8c, -⟩ := Tx.all
    obtain ⟨b0c, b1c, b2c, b3c, -, -, -, -, b8c, -⟩ := Rx.all
    obtain ⟨e0c, e1c, e2c, e3c, -, -, -, -, e8c, -⟩ := Ox.all
    refine wp_region_ext (by kernel_rfl) (by kernel_rfl) ?_
    repeat (go_big_quiet_step (first | with_reducible exact Calls.ext_of (H8.out _) | with_reducible exact Calls.ext_of (H9.out _) | with_reducible exact Calls.ext_of (H10.out _) | with_reducible exact Calls.ext_of (H11.out _) | with_reducible exact Calls.ext_of (H12.out _) | with_reducible exact Calls.ext_of (H13.out _) | with_reducible exact Calls.ext_of (H14.out _) | with_reducible exact Calls.ext_of (H15.out _)))
    refine wpQuiet_nil ?_
    rintro _ ⟨xq, rfl⟩
    go_wp2
    go_ret
    exact ⟨rfl, Fx.ext xq⟩

end Go.Proofs.YtjaocjnefopdfaaDoor
