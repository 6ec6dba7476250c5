/-
  OrderLaws: its walk. No statement is proved here.
-/
import Derived.Test.YtgjpombdkgomaaaDoorOrdO
namespace Go.Proofs.YtgjpombdkgomaaaDoor
open Go.RowKit Go.Lib Go.BigFrame
set_option linter.unusedVariables false
set_option linter.unusedSimpArgs false
set_option maxRecDepth 1000000
set_option maxHeartbeats 8000000

theorem L4.lt {V : World} {b t : Nat} {v0 v1 v2 v3 : Value} (h : L4 V b t v0 v1 v2 v3) : b < V.heap.size := lt_of_heap h
theorem laws_yes (s t u : ByteArray) (a b c : Nat) (q : Bool) (aL : a < Lq) (bL : b < Lq) (cL : c < Lq)
    (J1 : ∀ W, PV W → Calls Tryd.prog 7 #[.string s] W fun e' w' => e' = .returned (.tuple #[wd a, .int .i64 0]) ∧ Fr [] W w')
    (J2 : ∀ W, PV W → Calls Tryd.prog 7 #[.string t] W fun e' w' => e' = .returned (.tuple #[wd b, .int .i64 0]) ∧ Fr [] W w')
    (J3 : ∀ W, PV W → Calls Tryd.prog 7 #[.string u] W fun e' w' => e' = .returned (.tuple #[wd c, .int .i64 0]) ∧ Fr [] W w')
    (J4 : ∀ W, PV W → Calls Tryd.prog 9 #[.string s] W fun e w' => e = .returned (.bool q) ∧ Fr [] W w') (hq : ((by32 a).toList == s.toList) = q) (w : World) (hP : PV w) :
    Calls Tryd.prog 5 #[.string s, .string t, .string u] w fun e w' => e = .returned (.bool true) ∧ Fr [] w w' := by
  have hP2 := hid (p := _) hP
  have a4 := lt4 aL
  have b4 := lt4 bL
  have c4 := lt4 cL
  have z4 : 0 < 115792089237316195423570985008687907853269984665640564039457584007913129639936 := by decide
  have o4 : 1 < 115792089237316195423570985008687907853269984665640564039457584007913129639936 := by decide
  have m4 := fun x => lt4 (mod_ltL x)
  have K1 := muladd_is a4 b4 c4 rfl
  have K2 := muladd_is b4 a4 c4 (law_com a b c Lq)
  have K3 := same_yes ((a * b + c) % Lq) (m4 _)
  have K4 := muladd_is a4 o4 b4 rfl
  have K5 := muladd_is b4 o4 a4 (law_one a b Lq)
  have K6 := same_yes ((a * 1 + b) % Lq) (m4 _)
  have K7 := muladd_is a4 z4 b4 (law_zero bL)
  have K8 := same_yes b b4
  have K9 := muladd_is a4 b4 z4 rfl
  have K10 := muladd_is (m4 (a * b + 0)) c4 z4 rfl
  have K11 := muladd_is b4 c4 z4 rfl
  have K12 := muladd_is a4 (m4 (b * c + 0)) z4 (law_ass a b c Lq)
  have K13 := same_yes (((a * b + 0) % Lq * c + 0) % Lq) (m4 _)
  have K14 := muladd_is b4 o4 c4 rfl
  have K15 := muladd_is a4 (m4 (b * 1 + c)) z4 rfl
  have K16 := muladd_is a4 c4 z4 rfl
  have K17 := muladd_is a4 b4 (m4 (a * c + 0)) (law_dis a b c Lq)
  have K18 := same_yes ((a * ((b * 1 + c) % Lq) + 0) % Lq) (m4 _)
  have K19 := fun W => bytes_any a a4 W
  have K20 := fun W (h : PV W) => canon_own a aL W h
  have K22 := fun W (h : PV W) => of_val (of_wide a aL).1 (of_wide a aL).2 W h
  have K23 := same_yes a a4
  have K24 := fun W (h : PV W) => alive_any W h
  have K25 : ∀ W : World, PV W → Calls Tryd.prog 7 #[.string ((⟨#[1]⟩ : ByteArray) ++ z31)] W fun e w' => e = .returned (.tuple #[wd 1, .int .i64 0]) ∧ Fr [] W w' := fun W h => of_val (s := sm 1) (.inl (sm_size _)) of_1 W h
  have h31 : ¬ 9223372036854775807 < 1 + z31.size := by rw [z31_size]; decide
  have h32 : ¬ 9223372036854775807 < (by32 a).size + z32.size := by rw [by32_size, z32_size]; decide
  have m31 := make31
  have m32 := make32z
  have zr : ∀ W : World, RB (W.alloc (.cells (bc (List.replicate 32 0)) 5)) W.heap.size 5 (List.replicate 32 0) := fun W => (MapKept.heap_alloc W _).1
  have zc : ∀ (V : World) (b : Nat), RB V b 5 (List.replicate 32 0) → (convert 43 9 (.slice (some ⟨b, 0, none⟩) 32 32)).run Tryd.prog V = .ok (.string z32) V := fun V b h => conv_l h 32 32 (by simp)
  have d1 : ∀ (W : World) (b : Nat), b = W.heap.size → (convert 43 9 (.slice (some ⟨b, 0, none⟩) 32 32)).run Tryd.prog (W.alloc (.cells (bc (List.replicate 32 0)) 5)) = .ok (.string z32) (W.alloc (.cells (bc (List.replicate 32 0)) 5)) := fun W b hb => by rw [hb]; exact zc _ _ (zr W)
  have d2 : ∀ (W : World) (b : Nat) (o : Obj), b = W.heap.size → (convert 43 9 (.slice (some ⟨b, 0, none⟩) 32 32)).run Tryd.prog ((W.alloc (.cells (bc (List.replicate 32 0)) 5)).alloc o) = .ok (.string z32) ((W.alloc (.cells (bc (List.replicate 32 0)) 5)).alloc o) := fun W b o hb => by rw [hb]; exact zc _ _ ((zr W).alloc o)
  have d3 : ∀ (W : World) (b : Nat), b = W.heap.size → (convert 43 9 (.slice (some ⟨b, 0, none⟩) 32 32)).run Tryd.prog (W.alloc (.cells (bc (List.replicate 32 0)) 5)).drew = .ok (.string z32) (W.alloc (.cells (bc (List.replicate 32 0)) 5)).drew := fun W b hb => by rw [hb]; exact zc _ _ ((zr W).fr (Fr.refl [] _).drew)
  have d4 : ∀ (W : World) (b : Nat) (o : Obj), b = W.heap.size → (convert 43 9 (.slice (some ⟨b, 0, none⟩) 32 32)).run Tryd.prog ((W.alloc (.cells (bc (List.replicate 32 0)) 5)).alloc o).drew = .ok (.string z32) ((W.alloc (.cells (bc (List.replicate 32 0)) 5)).alloc o).drew := fun W b o hb => by rw [hb]; exact zc _ _ (((zr W).alloc o).fr (Fr.refl [] _).drew)
  have HZR := hid (p := _) zr
  have HZC := hid (p := _) zc
  clear zr zc
  have v31 : ∀ (W : World) (b : Nat), b = W.heap.size → (convert 43 9 (.slice (some ⟨b, 0, none⟩) 31 31)).run Tryd.prog (W.alloc (.cells (bc (List.replicate 31 0)) 5)) = .ok (.string z31) (W.alloc (.cells (bc (List.replicate 31 0)) 5)) := fun W b hb => by rw [hb]; exact conv31 W
  generalize bc (List.replicate 31 0) = o31 at *
  generalize z31 = y31 at *
  generalize List.replicate 32 0 = zs at *
  generalize bc zs = o32 at *
  generalize z32 = y32 at *
  generalize wd ((a * b + c) % Lq) = v1 at *
  generalize wd ((a * 1 + b) % Lq) = v2 at *
  generalize wd (((a * b + 0) % Lq * c + 0) % Lq) = v3 at *
  generalize wd ((a * b + 0) % Lq) = v4 at *
  generalize wd ((b * c + 0) % Lq) = v5 at *
  generalize wd ((a * ((b * 1 + c) % Lq) + 0) % Lq) = v6 at *
  generalize wd ((b * 1 + c) % Lq) = v7 at *
  generalize wd ((a * c + 0) % Lq) = v8 at *
  obtain ⟨a0, a1, a2, a3, -, -, -, -, -, wa⟩ := wd_open a a4
  obtain ⟨b0, b1, b2, b3, -, -, -, -, -, wb⟩ := wd_open b b4
  obtain ⟨c0, c1, c2, c3, -, -, -, -, -, wc'⟩ := wd_open c c4
  obtain ⟨o0, o1, o2, o3, -, -, -, -, -, wo'⟩ := wd_open 1 o4
  rw [wa] at K1
  rw [wa] at K2
  rw [wa] at K4
  rw [wa] at K5
  rw [wa] at K7
  rw [wa] at K9
  rw [wa] at K12
  rw [wa] at K15
  rw [wa] at K16
  rw [wa] at K17
  rw [wa] at K19
  rw [wa] at K22
  rw [wa] at K23
  rw [wb] at K1
  rw [wb] at K2
  rw [wb] at K4
  rw [wb] at K5
  rw [wb] at K7
  rw [wb] at K8
  rw [wb] at K9
  rw [wb] at K11
  rw [wb] at K14
  rw [wb] at K17
  rw [wc'] at K1
  rw [wc'] at K2
  rw [wc'] at K10
  rw [wc'] at K11
  rw [wc'] at K14
  rw [wc'] at K16
  rw [wo'] at K4
  rw [wo'] at K5
  rw [wo'] at K14
  rw [wo'] at K25
  rw [← wd_0] at K7
  rw [← wd_0] at K9
  rw [← wd_0] at K10
  rw [← wd_0] at K11
  rw [← wd_0] at K12
  rw [← wd_0] at K15
  rw [← wd_0] at K16
  rw [wa] at J1
  rw [wb] at J2
  rw [wc'] at J3
  generalize by32 a = S at *
  have H1 := hid (p := _) K1
  have H2 := hid (p := _) K2
  have H3 := hid (p := _) K3
  have H4 := hid (p := _) K4
  have H5 := hid (p := _) K5
  have H6 := hid (p := _) K6
  have H7 := hid (p := _) K7
  have H8 := hid (p := _) K8
  have H9 := hid (p := _) K9
  have H10 := hid (p := _) K10
  have H11 := hid (p := _) K11
  have H12 := hid (p := _) K12
  have H13 := hid (p := _) K13
  have H14 := hid (p := _) K14
  have H15 := hid (p := _) K15
  have H16 := hid (p := _) K16
  have H17 := hid (p := _) K17
  have H18 := hid (p := _) K18
  have H19 := hid (p := _) K19
  have H20 := hid (p := _) K20
  have H22 := hid (p := _) K22
  have H23 := hid (p := _) K23
  have H24 := hid (p := _) K24
  have H25 := hid (p := _) K25
  have I1 := hid (p := _) J1
  have I2 := hid (p := _) J2
  have I3 := hid (p := _) J3
  have I4 := hid (p := _) J4
  clear K1 K2 K3 K4 K5 K6 K7 K8 K9 K10 K11 K12 K13 K14 K15 K16 K17 K18 K19 K20 K22 K23 K24 K25 J1 J2 J3 J4 wa wb wc' wo' aL bL cL a4 b4 c4 z4 o4 m4 hP
  have F0 := hid (p := _) (Fr.refl [] w)
  go_enter Tryd.func5, Tryd.ntmps5
  go_wp2_with (go_at_call 7; first | (with_reducible refine (I1.out _ (by with_reducible exact hP2.out)).mono ?_; rintro e V1 ⟨rfl, hF⟩; have F1 := hid (p := _) (F0.out.trans0 hF); clear hF I1) | (with_reducible refine (I2.out _ (hP2.out.fr (F1.out.alloc _) (by simp))).mono ?_; rintro e V2 ⟨rfl, hF⟩; have F2 := hid (p := _) ((F1.out.alloc _).trans0 hF); have A2 := hid (p := _) ((L4.new V1 27 _ _ _ _).fr hF); clear hF I2) | (with_reducible refine (I3.out _ (hP2.out.fr (F2.out.alloc _) (by simp))).mono ?_; rintro e V3 ⟨rfl, hF⟩; have F3 := hid (p := _) ((F2.out.alloc _).trans0 hF); have A3 := hid (p := _) ((A2.out.alloc _).fr hF); have B3 := hid (p := _) ((L4.new V2 27 _ _ _ _).fr hF); clear hF I3) | (with_reducible refine (H25.out _ (hP2.out.fr (((F3.out.alloc _).alloc _).alloc _) (by simp))).mono ?_; rintro e V4 ⟨rfl, hF⟩; have F4 := hid (p := _) ((((F3.out.alloc _).alloc _).alloc _).trans0 hF); have A4 := hid (p := _) ((((A3.out.alloc _).alloc _).alloc _).fr hF); have B4 := hid (p := _) ((((B3.out.alloc _).alloc _).alloc _).fr hF); have C4 := hid (p := _) ((((L4.new V3 27 _ _ _ _).alloc _).alloc _).fr hF); have Z4 := hid (p := _) (((L4.new1 V3 _ 27 _ _ _ _).alloc _).fr hF); clear hF H25))
  have G := F4.out.alloc (.cells #[.int .u64 (o0 : Nat), .int .u64 (o1 : Nat), .int .u64 (o2 : Nat), .int .u64 (o3 : Nat)] 27)
  have A5 := A4.out.alloc (.cells #[.int .u64 (o0 : Nat), .int .u64 (o1 : Nat), .int .u64 (o2 : Nat), .int .u64 (o3 : Nat)] 27)
  have B5 := B4.out.alloc (.cells #[.int .u64 (o0 : Nat), .int .u64 (o1 : Nat), .int .u64 (o2 : Nat), .int .u64 (o3 : Nat)] 27)
  have C5 := C4.out.alloc (.cells #[.int .u64 (o0 : Nat), .int .u64 (o1 : Nat), .int .u64 (o2 : Nat), .int .u64 (o3 : Nat)] 27)
  have Z5 := Z4.out.alloc (.cells #[.int .u64 (o0 : Nat), .int .u64 (o1 : Nat), .int .u64 (o2 : Nat), .int .u64 (o3 : Nat)] 27)
  have O5 := L4.new V4 27 (.int .u64 (o0 : Nat)) (.int .u64 (o1 : Nat)) (.int .u64 (o2 : Nat)) (.int .u64 (o3 : Nat))
  clear F1 F2 F3 F4 A2 A3 A4 B3 B4 C4 Z4
  generalize V4.alloc (.cells #[.int .u64 (o0 : Nat), .int .u64 (o1 : Nat), .int .u64 (o2 : Nat), .int .u64 (o3 : Nat)] 27) = U at *
  generalize V4.heap.size = ob at *
  generalize V3.heap.size + 1 = zb at *
  generalize V3.heap.size = cb at *
  generalize V2.heap.size = bb at *
  generalize V1.heap.size = ab at *
  have HG := hid (p := _) G
  have HA := hid (p := _) A5
  have HB := hid (p := _) B5
  have HC := hid (p := _) C5
  have HZ := hid (p := _) Z5
  have HO := hid (p := _) O5
  obtain ⟨ax0, ax1, ax2, ax3, ax4, ax5, ax6, ax7, ax8, ax9⟩ := A5.all
  obtain ⟨bx0, bx1, bx2, bx3, bx4, bx5, bx6, bx7, bx8, bx9⟩ := B5.all
  obtain ⟨cx0, cx1, cx2, cx3, cx4, cx5, cx6, cx7, cx8, cx9⟩ := C5.all
  obtain ⟨zx0, zx1, zx2, zx3, zx4, zx5, zx6, zx7, zx8, zx9⟩ := Z5.all
  obtain ⟨ox0, ox1, ox2, ox3, ox4, ox5, ox6, ox7, ox8, ox9⟩ := O5.all
  clear G A5 B5 C5 Z5 O5
  refine wp_region_ext (by kernel_rfl) (by kernel_rfl) ?_
  repeat (go_big_quiet_step (first | with_reducible exact Calls.ext_of (H1.out _ (hP2.out.fr (HG.out.ext _) (by simp))) | with_reducible exact Calls.ext_of (H2.out _ (hP2.out.fr (HG.out.ext _) (by simp))) | with_reducible exact Calls.ext_of (H3.out _) | with_reducible exact Calls.ext_of (H4.out _ (hP2.out.fr (HG.out.ext _) (by simp))) | with_reducible exact Calls.ext_of (H5.out _ (hP2.out.fr (HG.out.ext _) (by simp))) | with_reducible exact Calls.ext_of (H6.out _) | with_reducible exact Calls.ext_of (H7.out _ (hP2.out.fr (HG.out.ext _) (by simp))) | with_reducible exact Calls.ext_of (H8.out _) | with_reducible exact Calls.ext_of (H9.out _ (hP2.out.fr (HG.out.ext _) (by simp))) | with_reducible exact Calls.ext_of (H10.out _ (hP2.out.fr (HG.out.ext _) (by simp))) | with_reducible exact Calls.ext_of (H11.out _ (hP2.out.fr (HG.out.ext _) (by simp))) | with_reducible exact Calls.ext_of (H12.out _ (hP2.out.fr (HG.out.ext _) (by simp))) | with_reducible exact Calls.ext_of (H13.out _)))
  refine wpQuiet_nil ?_
  rintro _ ⟨xq, rfl⟩
  have G1 := HG.out.ext xq
  have A6 := HA.out.fr (ext_fr _ xq)
  have B6 := HB.out.fr (ext_fr _ xq)
  have C6 := HC.out.fr (ext_fr _ xq)
  have Z6 := HZ.out.fr (ext_fr _ xq)
  have O6 := HO.out.fr (ext_fr _ xq)
  generalize ext U xq = U2 at *
  clear HG HA HB HC HZ HO ax0 ax1 ax2 ax3 ax4 ax5 ax6 ax7 ax8 ax9 bx0 bx1 bx2 bx3 bx4 bx5 bx6 bx7 bx8 bx9 cx0 cx1 cx2 cx3 cx4 cx5 cx6 cx7 cx8 cx9 zx0 zx1 zx2 zx3 zx4 zx5 zx6 zx7 zx8 zx9 ox0 ox1 ox2 ox3 ox4 ox5 ox6 ox7 ox8 ox9
  have HG := hid (p := _) G1
  have HA := hid (p := _) A6
  obtain ⟨ax0, ax1, ax2, ax3, ax4, ax5, ax6, ax7, ax8, ax9⟩ := A6.all
  obtain ⟨bx0, bx1, bx2, bx3, bx4, bx5, bx6, bx7, bx8, bx9⟩ := B6.all
  obtain ⟨cx0, cx1, cx2, cx3, cx4, cx5, cx6, cx7, cx8, cx9⟩ := C6.all
  obtain ⟨zx0, zx1, zx2, zx3, zx4, zx5, zx6, zx7, zx8, zx9⟩ := Z6.all
  obtain ⟨ox0, ox1, ox2, ox3, ox4, ox5, ox6, ox7, ox8, ox9⟩ := O6.all
  clear G1 A6 B6 C6 Z6 O6
  go_simp
  go_wp2_with fail
  refine wp_region_ext (by kernel_rfl) (by kernel_rfl) ?_
  repeat (go_big_quiet_step (first | with_reducible exact Calls.ext_of (H14.out _ (hP2.out.fr (HG.out.ext _) (by simp))) | with_reducible exact Calls.ext_of (H15.out _ (hP2.out.fr (HG.out.ext _) (by simp))) | with_reducible exact Calls.ext_of (H16.out _ (hP2.out.fr (HG.out.ext _) (by simp))) | with_reducible exact Calls.ext_of (H17.out _ (hP2.out.fr (HG.out.ext _) (by simp))) | with_reducible exact Calls.ext_of (H18.out _) | with_reducible exact Calls.ext_of (H19.out _) | with_reducible exact Calls.ext_of (H20.out _ (hP2.out.fr (HG.out.ext _) (by simp))) | with_reducible exact Calls.ext_of (I4.out _ (hP2.out.fr (HG.out.ext _) (by simp)))))
  refine wpQuiet_nil ?_
  rintro _ ⟨xq2, rfl⟩
  have G1 := HG.out.ext xq2
  have A6 := HA.out.fr (ext_fr _ xq2)
  generalize ext U2 xq2 = U3 at *
  clear HG HA ax0 ax1 ax2 ax3 ax4 ax5 ax6 ax7 ax8 ax9 bx0 bx1 bx2 bx3 bx4 bx5 bx6 bx7 bx8 bx9 cx0 cx1 cx2 cx3 cx4 cx5 cx6 cx7 cx8 cx9 zx0 zx1 zx2 zx3 zx4 zx5 zx6 zx7 zx8 zx9 ox0 ox1 ox2 ox3 ox4 ox5 ox6 ox7 ox8 ox9
  obtain ⟨ax0, ax1, ax2, ax3, ax4, ax5, ax6, ax7, ax8, ax9⟩ := A6.all
  have HG := hid (p := _) G1
  have HA := hid (p := _) A6
  clear G1 A6
  go_simp
  go_wp2_with fail
  refine wp_region_WI (B := U3) (ab := ab) (a0 := a0) (a1 := a1) (a2 := a2) (a3 := a3) (S := S) (T := y32) (zs := zs) [_, _, _, _, _, _, _, _, _, _, _] _ (by kernel_rfl) ⟨_, _, _, _, _, _, _, _, _, _, _, rfl, hid (WJ.start (Fr.refl [] U3).drew (HA.out.fr (Fr.refl [] U3).drew))⟩ ?hs ?he
  case hs =>
    rintro f act W i x ⟨x16, x17, x132, x133, x134, x135, x136, x137, x138, x139, x140, rfl, hJ⟩ hf hx hd
    rcases i with _ | _ | _ | _ | _ | _ | _ | _ | _ | _ | _ | _ | i
    · as_aux_lemma =>
        obtain rfl := Option.some.inj hx
        refine ⟨rfl, ?_⟩
        obtain ⟨_, _, _, _, _, _, _, _, _, _⟩ := hJ.out.own.all
        go_simp
        go_wp2_with fail
        exact ⟨_, _, _, _, _, _, _, _, _, _, _, rfl, hid (hJ.out.step (Fr.refl [] W) 0 hf (by decide) (by decide) (by simp) (by simp) (by simp) (by simp) (by simp) (by simp) (by simp) (by simp) (by simp) (by simp))⟩
    · as_aux_lemma =>
        obtain rfl := Option.some.inj hx
        refine ⟨rfl, ?_⟩
        obtain rfl := hJ.out.k0 (hd ⟨0, .data⟩ (by simp) rfl)
        go_simp
        go_wp2_with (go_at_call 17; with_reducible refine (H19.out _).mono ?_; rintro e V ⟨rfl, hF⟩)
        exact ⟨_, _, _, _, _, _, _, _, _, _, _, rfl, hid (hJ.out.step hF 1 hf (by decide) (by decide) (by simp) (by simp) (by simp) (by simp) (by simp) (by simp) (by simp) (by simp) (by simp) (by simp))⟩
    · as_aux_lemma =>
        obtain rfl := Option.some.inj hx
        refine ⟨rfl, ?_⟩
        go_simp
        go_wp2_with fail
        exact ⟨_, _, _, _, _, _, _, _, _, _, _, rfl, hid (hJ.out.step ((Fr.refl [] W).alloc _) 2 hf (by decide) (by decide) (by simp) (by simp) (by rw [if_pos rfl]; exact ⟨W.heap.size, rfl, HZR.out W⟩) (by simp) (by simp) (by simp) (by simp) (by simp) (by simp) (by simp))⟩
    · as_aux_lemma =>
        obtain rfl := Option.some.inj hx
        refine ⟨rfl, ?_⟩
        obtain ⟨b, rfl, hb⟩ := hJ.out.k2 (hd ⟨2, .data⟩ (by simp) rfl) hf
        have cv := HZC.out W b hb
        go_simp
        go_wp2_with fail
        exact ⟨_, _, _, _, _, _, _, _, _, _, _, rfl, hid (hJ.out.step (Fr.refl [] W) 3 hf (by decide) (by decide) (by simp) (by simp) (by simp) (by simp) (by simp) (by simp) (by simp) (by simp) (by simp) (by simp))⟩
    · as_aux_lemma =>
        obtain rfl := Option.some.inj hx
        refine ⟨rfl, ?_⟩
        obtain rfl := hJ.out.k1 (hd ⟨1, .data⟩ (by simp) rfl)
        obtain rfl := hJ.out.k3 (hd ⟨3, .data⟩ (by simp) rfl)
        go_simp
        go_wp2_with fail
        exact ⟨_, _, _, _, _, _, _, _, _, _, _, rfl, hid (hJ.out.step (Fr.refl [] W) 4 hf (by decide) (by decide) (by simp) (by simp) (by simp) (by simp) (by simp) (by simp) (by simp) (by simp) (by simp) (by simp))⟩
    · as_aux_lemma =>
        obtain rfl := Option.some.inj hx
        refine ⟨rfl, ?_⟩
        obtain rfl := hJ.out.k4 (hd ⟨4, .data⟩ (by simp) rfl)
        go_simp
        go_wp2_with (go_at_call 7; with_reducible refine (H22.out _ (hP2.out.fr (HG.out.trans0 hJ.out.fr) (by simp))).mono ?_; rintro e V ⟨rfl, hF⟩)
        exact ⟨_, _, _, _, _, _, _, _, _, _, _, rfl, hid (hJ.out.step hF 5 hf (by decide) (by decide) (by simp) (by simp) (by simp) (by simp) (by simp) (by simp) (by simp) (by simp) (by simp) (by simp))⟩
    · as_aux_lemma =>
        obtain rfl := Option.some.inj hx
        refine ⟨rfl, ?_⟩
        obtain rfl := hJ.out.k5 (hd ⟨5, .data⟩ (by simp) rfl)
        go_simp
        go_wp2_with fail
        exact ⟨_, _, _, _, _, _, _, _, _, _, _, rfl, hid (hJ.out.step (Fr.refl [] W) 6 hf (by decide) (by decide) (by simp) (by simp) (by simp) (by simp) (by simp) (by simp) (by simp) (by simp) (by simp) (by simp))⟩
    · as_aux_lemma =>
        obtain rfl := Option.some.inj hx
        refine ⟨rfl, ?_⟩
        obtain rfl := hJ.out.k6 (hd ⟨6, .data⟩ (by simp) rfl)
        go_simp
        go_wp2_with fail
        exact ⟨_, _, _, _, _, _, _, _, _, _, _, rfl, hid (hJ.out.step (Fr.refl [] W) 7 hf (by decide) (by decide) (by simp) (by simp) (by simp) (by simp) (by simp) (by simp) (by simp) (by simp) (by simp) (by simp))⟩
    · as_aux_lemma =>
        obtain rfl := Option.some.inj hx
        refine ⟨rfl, ?_⟩
        obtain rfl := hJ.out.k6 (hd ⟨6, .data⟩ (by simp) rfl)
        go_simp
        go_wp2_with fail
        exact ⟨_, _, _, _, _, _, _, _, _, _, _, rfl, hid (hJ.out.step (Fr.refl [] W) 8 hf (by decide) (by decide) (by simp) (by simp) (by simp) (by simp) (by simp) (by simp) (by simp) (by simp) (by simp) (by simp))⟩
    · as_aux_lemma =>
        obtain rfl := Option.some.inj hx
        refine ⟨rfl, ?_⟩
        go_simp
        go_wp2_with fail
        exact ⟨_, _, _, _, _, _, _, _, _, _, _, rfl, hid (hJ.out.made ((Fr.refl [] W).alloc _) hf (hJ.out.fr.size) (L4.new W 27 _ _ _ _))⟩
    · as_aux_lemma =>
        obtain rfl := Option.some.inj hx
        refine ⟨rfl, ?_⟩
        obtain ⟨b, rfl, hb, -, hl⟩ := hJ.out.k9 (hd ⟨9, .data⟩ (by simp) rfl)
        have hl := hl hf
        obtain rfl := hJ.out.k7 (hd ⟨7, .data⟩ (by simp) rfl)
        have h3 : f 3 = true := hd ⟨3, .phase⟩ (by simp) rfl
        have h9 : f 9 = true := hd ⟨9, .data⟩ (by simp) rfl
        obtain ⟨_, _, _, _, _, _, _, _, _, _⟩ := hl.all
        go_simp
        go_wp2_with fail
        exact ⟨_, _, _, _, _, _, _, _, _, _, _, rfl, hid (hJ.out.put h3 h9 rfl hb ax8 hl)⟩
    · as_aux_lemma =>
        obtain rfl := Option.some.inj hx
        refine ⟨rfl, ?_⟩
        obtain rfl := hJ.out.k8 (hd ⟨8, .data⟩ (by simp) rfl)
        go_simp
        go_wp2_with fail
        exact ⟨_, _, _, _, _, _, _, _, _, _, _, rfl, hid (hJ.out.step (Fr.refl [] W) 11 hf (by decide) (by decide) (by simp) (by simp) (by simp) (by simp) (by simp) (by simp) (by simp) (by simp) (by simp) (by simp))⟩
    · exact absurd hx (by simp)
  case he =>
    rintro f act W ⟨x16, x17, x132, x133, x134, x135, x136, x137, x138, x139, x140, rfl, hJ⟩ hall
    obtain ⟨b, rfl, hb, hl, -⟩ := hJ.out.k9 (hall 9 (by decide))
    have hl := hl (hall 10 (by decide))
    obtain rfl := hJ.out.k11 (hall 11 (by decide))
    obtain ⟨_, _, _, _, _, _, _, _, _, _⟩ := hl.all
    obtain ⟨_, _, _, _, _, _, _, _, _, _⟩ := hJ.out.own.all
    have F5 := hid (p := _) (HG.out.trans0 hJ.out.fr)
    go_simp
    go_wp2_with (first | (go_at_call 12; with_reducible refine (H23.out _).mono ?_; rintro e V5 ⟨rfl, hF⟩; have F6 := hid (p := _) (F5.out.trans0 hF); clear hF) | (go_at_call 6; with_reducible refine (H24.out _ (hP2.out.fr F6.out (by simp))).mono ?_; rintro e V6 ⟨rfl, hF⟩; have F7 := hid (p := _) (F6.out.trans0 hF); clear hF))
    go_ret
    exact ⟨rfl, F7.out⟩
theorem laws_any (s t u : ByteArray) (w : World) (hP : PV w) : Calls Tryd.prog 5 #[.string s, .string t, .string u] w fun e w' => e = .returned (.bool true) ∧ Fr [] w w' := by
  by_cases h : fits s ∧ fits t ∧ fits u
  · obtain ⟨q, J4, hq⟩ := canon_q s h.1
    exact laws_yes s t u (of s) (of t) (of u) q (of_ltL s) (of_ltL t) (of_ltL u) (fun W hW => of_yes s h.1 W hW) (fun W hW => of_yes t h.2.1 W hW) (fun W hW => of_yes u h.2.2 W hW) J4 hq w hP
  · exact laws_no s t u h w hP
end Go.Proofs.YtgjpombdkgomaaaDoor

