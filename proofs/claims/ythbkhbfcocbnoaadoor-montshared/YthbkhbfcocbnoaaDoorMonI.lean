/-
  Package mont: Shared, Public. No statement is proved here.
-/
import Derived.Test.YthbkhbfcocbnoaaDoorMonH
namespace Go.Proofs.YthbkhbfcocbnoaaDoor
open Go.RowKit Go.Lib Go.BigFrame
set_option linter.unusedVariables false
set_option linter.unusedSimpArgs false
set_option maxRecDepth 1000000
set_option maxHeartbeats 4000000

/-- What a secret and a public key make, as a number. -/
def shv (s p : ByteArray) : Nat := lad (sbi (cl s)) (of (sbi (cm p)))
theorem shv_lt (s p : ByteArray) : shv s p < Nt.P := lad_lt _ _
theorem shared_s (s p : ByteArray) (hs : s.size ≠ 32) (w : World) : Calls Tryd.prog 7 #[.string s, .string p] w fun e w' => e = .returned (.tuple #[.string ByteArray.empty, .int .i64 2]) ∧ Fr [] w w' := by
  have H1 := hid (p := _) (show ∀ W : World, Calls Tryd.prog 14 #[.string s] W fun e w' => e = .returned (.tuple #[.string ByteArray.empty, .int .i64 2]) ∧ Fr [] W w' from fun W => clamp_no s hs W)
  clear hs
  go_enter Tryd.func7, Tryd.ntmps7
  go_wp2_with (go_at_call 14; with_reducible refine (H1.out _).mono ?_; rintro e V ⟨rfl, hF⟩; have F := hid (p := _) hF; clear hF)
  go_ret2
  exact ⟨rfl, F.out⟩
theorem shared_p (s p : ByteArray) (hs : s.size = 32) (hp : p.size ≠ 32) (w : World) : Calls Tryd.prog 7 #[.string s, .string p] w fun e w' => e = .returned (.tuple #[.string ByteArray.empty, .int .i64 2]) ∧ Fr [] w w' := by
  have H1 := hid (p := _) (fun W => clamp_yes s hs W)
  have H2 := hid (p := _) (fun W => coord_no p hp W)
  clear hs hp
  go_enter Tryd.func7, Tryd.ntmps7
  go_wp2_with (first | (go_at_call 14; with_reducible refine (H1.out _).mono ?_; rintro e V ⟨rfl, hF⟩; have F := hid (p := _) hF; clear hF) | (go_at_call 15; with_reducible refine (H2.out _).mono ?_; rintro e V2 ⟨rfl, hF⟩; have F2 := hid (p := _) ((F.out.trans0 hF).alloc (.cells #[.int .u64 0, .int .u64 0, .int .u64 0, .int .u64 0] 43)); clear hF))
  go_ret2
  exact ⟨rfl, F2.out⟩
theorem shared_32 (s p : ByteArray) (hs : s.size = 32) (hp : p.size = 32) (w : World) (hP : PV w) : Calls Tryd.prog 7 #[.string s, .string p] w fun e w' => e = .returned (if shv s p = 0 then .tuple #[.string ByteArray.empty, .int .i64 80] else .tuple #[.string (by32 (shv s p)), .int .i64 0]) ∧ Fr [] w w' := by
  have hP2 := hid (p := _) hP
  have H1 := hid (p := _) (fun W => clamp_yes s hs W)
  have K2 := fun W hW => coord_yes p hp W hW
  have K3 : ∀ W, PV W → Calls Tryd.prog 16 #[.string (sbi (cl s)), wd (of (sbi (cm p)))] W fun e w' => e = .returned (wd (shv s p)) ∧ Fr [] W w' := fun W hW => ladder_any (sbi (cl s)) (sbi_size _) _ (of_ltP _) W hW
  have K4 : ∀ W : World, Calls Tryd.prog 18 #[.int .u32 0] W fun e w' => e = .returned (wd 0) ∧ Fr [] W w' := fun W => small_any 0 (by decide) W
  have K5 := fun W => same_any (shv s p) 0 (lt4 (shv_lt _ _)) (lt4 zero_lt) W
  have K6 := fun W => bytes_any (shv s p) (lt4 (shv_lt _ _)) W
  have hv := shv_lt s p
  have ho := of_ltP (sbi (cm p))
  generalize shv s p = v at *
  generalize of (sbi (cm p)) = o at *
  generalize sbi (cl s) = k at *
  obtain ⟨o0, o1, o2, o3, -, -, -, -, -, wo⟩ := wd_open o (lt4 ho)
  obtain ⟨v0, v1, v2, v3, -, -, -, -, -, wv⟩ := wd_open v (lt4 hv)
  rw [wo] at K2 K3
  rw [wv] at K3 K5 K6
  generalize wd 0 = g0 at *
  clear wo wv ho hP
  by_cases h0 : v = 0
  · rw [decide_eq_true h0] at K5
    rw [if_pos h0]
    have H2 := hid (p := _) K2
    have H3 := hid (p := _) K3
    have H4 := hid (p := _) K4
    have H5 := hid (p := _) K5
    clear K2 K3 K4 K5 K6 h0 hv hs hp
    go_enter Tryd.func7, Tryd.ntmps7
    go_wp2_with (first | (go_at_call 14; with_reducible refine (H1.out _).mono ?_; rintro e V ⟨rfl, hF⟩; have F := hid (p := _) hF; clear hF) | (go_at_call 15; with_reducible refine (H2.out _ (hP2.out.fr F.out)).mono ?_; rintro e V2 ⟨rfl, hF⟩; have F2 := hid (p := _) (F.out.trans0 hF); clear hF) | (go_at_call 16; with_reducible refine (H3.out _ (hP2.out.fr (F2.out.alloc _))).mono ?_; rintro e V3 ⟨rfl, hF⟩; have R3 := (L4.new V2 43 _ _ _ _).fr hF; have F3 := hid (p := _) ((F2.out.alloc _).trans0 hF); obtain ⟨_, _, _, _, _, _, _, _, _, _⟩ := R3.all; clear hF))
    have R4 := R3.set4 (.int .u64 (v0 : Nat)) (.int .u64 (v1 : Nat)) (.int .u64 (v2 : Nat)) (.int .u64 (v3 : Nat))
    have F4 := hid (p := _) (F3.out.set4 (b := V2.heap.size) F2.out.size (.int .u64 (v0 : Nat)) (.int .u64 (v1 : Nat)) (.int .u64 (v2 : Nat)) (.int .u64 (v3 : Nat)))
    generalize (((V3.setCell ⟨V2.heap.size, 0, none⟩ (.int .u64 (v0 : Nat))).setCell ⟨V2.heap.size, 1, none⟩ (.int .u64 (v1 : Nat))).setCell ⟨V2.heap.size, 2, none⟩ (.int .u64 (v2 : Nat))).setCell ⟨V2.heap.size, 3, none⟩ (.int .u64 (v3 : Nat)) = U at *
    generalize V2.heap.size = xb at *
    clear R3 F3
    obtain ⟨_, _, _, _, _, _, _, _, _, _⟩ := R4.all
    have HR4 := hid (p := _) R4
    clear R4
    refine wp_region_ext (by kernel_rfl) (by kernel_rfl) ?_
    repeat (go_big_quiet_step (first | with_reducible exact Calls.ext_of (H4.out _) | with_reducible exact Calls.ext_of (H5.out _)))
    refine wpQuiet_nil ?_
    rintro _ ⟨xq, rfl⟩
    have F5 := hid (p := _) (F4.out.ext xq)
    have R5 := HR4.out.fr (ext_fr U xq)
    obtain ⟨_, _, _, _, _, _, _, _, _, _⟩ := R5.all
    clear R5
    go_simp
    go_wp2_with fail
    go_ret2
    exact ⟨rfl, F5.out⟩
  · rw [decide_eq_false h0] at K5
    rw [if_neg h0]
    have H2 := hid (p := _) K2
    have H3 := hid (p := _) K3
    have H4 := hid (p := _) K4
    have H5 := hid (p := _) K5
    have H6 := hid (p := _) K6
    clear K2 K3 K4 K5 K6 h0 hv hs hp
    go_enter Tryd.func7, Tryd.ntmps7
    go_wp2_with (first | (go_at_call 14; with_reducible refine (H1.out _).mono ?_; rintro e V ⟨rfl, hF⟩; have F := hid (p := _) hF; clear hF) | (go_at_call 15; with_reducible refine (H2.out _ (hP2.out.fr F.out)).mono ?_; rintro e V2 ⟨rfl, hF⟩; have F2 := hid (p := _) (F.out.trans0 hF); clear hF) | (go_at_call 16; with_reducible refine (H3.out _ (hP2.out.fr (F2.out.alloc _))).mono ?_; rintro e V3 ⟨rfl, hF⟩; have R3 := (L4.new V2 43 _ _ _ _).fr hF; have F3 := hid (p := _) ((F2.out.alloc _).trans0 hF); obtain ⟨_, _, _, _, _, _, _, _, _, _⟩ := R3.all; clear hF))
    have R4 := R3.set4 (.int .u64 (v0 : Nat)) (.int .u64 (v1 : Nat)) (.int .u64 (v2 : Nat)) (.int .u64 (v3 : Nat))
    have F4 := hid (p := _) (F3.out.set4 (b := V2.heap.size) F2.out.size (.int .u64 (v0 : Nat)) (.int .u64 (v1 : Nat)) (.int .u64 (v2 : Nat)) (.int .u64 (v3 : Nat)))
    generalize (((V3.setCell ⟨V2.heap.size, 0, none⟩ (.int .u64 (v0 : Nat))).setCell ⟨V2.heap.size, 1, none⟩ (.int .u64 (v1 : Nat))).setCell ⟨V2.heap.size, 2, none⟩ (.int .u64 (v2 : Nat))).setCell ⟨V2.heap.size, 3, none⟩ (.int .u64 (v3 : Nat)) = U at *
    generalize V2.heap.size = xb at *
    clear R3 F3
    obtain ⟨_, _, _, _, _, _, _, _, _, _⟩ := R4.all
    have HR4 := hid (p := _) R4
    clear R4
    refine wp_region_ext (by kernel_rfl) (by kernel_rfl) ?_
    repeat (go_big_quiet_step (first | with_reducible exact Calls.ext_of (H4.out _) | with_reducible exact Calls.ext_of (H5.out _)))
    refine wpQuiet_nil ?_
    rintro _ ⟨xq, rfl⟩
    have F5 := hid (p := _) (F4.out.ext xq)
    have R5 := HR4.out.fr (ext_fr U xq)
    obtain ⟨_, _, _, _, _, _, _, _, _, _⟩ := R5.all
    clear R5
    go_simp
    go_wp2_with (go_at_call 19; with_reducible refine (H6.out _).mono ?_; rintro e V6 ⟨rfl, hF⟩; have F6 := hid (p := _) (F5.out.trans0 hF); clear hF)
    go_ret2
    exact ⟨rfl, F6.out⟩
theorem public_no (s : ByteArray) (hs : s.size ≠ 32) (w : World) : Calls Tryd.prog 9 #[.string s] w fun e w' => e = .returned (.tuple #[.string ByteArray.empty, .int .i64 2]) ∧ Fr [] w w' := by
  have H1 := hid (p := _) (show ∀ W : World, Calls Tryd.prog 14 #[.string s] W fun e w' => e = .returned (.tuple #[.string ByteArray.empty, .int .i64 2]) ∧ Fr [] W w' from fun W => clamp_no s hs W)
  clear hs
  go_enter Tryd.func9, Tryd.ntmps9
  go_wp2_with (go_at_call 14; with_reducible refine (H1.out _).mono ?_; rintro e V ⟨rfl, hF⟩; have F := hid (p := _) hF; clear hF)
  go_ret2
  exact ⟨rfl, F.out⟩
theorem nine_lt : 9 < Nt.P := by rw [Nt.P_val]; decide
def pbv (s : ByteArray) : Nat := lad (sbi (cl s)) 9
theorem pbv_lt (s : ByteArray) : pbv s < Nt.P := lad_lt _ _
theorem public_32 (s : ByteArray) (hs : s.size = 32) (w : World) (hP : PV w) : Calls Tryd.prog 9 #[.string s] w fun e w' => e = .returned (.tuple #[.string (by32 (pbv s)), .int .i64 0]) ∧ Fr [] w w' := by
  have hP2 := hid (p := _) hP
  have K1 := fun W => clamp_yes s hs W
  have K4 : ∀ W : World, Calls Tryd.prog 18 #[.int .u32 9] W fun e w' => e = .returned (wd 9) ∧ Fr [] W w' := fun W => small_any 9 (by decide) W
  have K3 : ∀ W, PV W → Calls Tryd.prog 16 #[.string (sbi (cl s)), wd 9] W fun e w' => e = .returned (wd (pbv s)) ∧ Fr [] W w' := fun W hW => ladder_any (sbi (cl s)) (sbi_size _) _ nine_lt W hW
  have K6 := fun W => bytes_any (pbv s) (lt4 (pbv_lt _)) W
  generalize by32 (pbv s) = t at *
  generalize wd (pbv s) = v at *
  generalize wd 9 = g at *
  generalize sbi (cl s) = k at *
  have H1 := hid (p := _) K1
  have H3 := hid (p := _) K3
  have H4 := hid (p := _) K4
  have H6 := hid (p := _) K6
  clear K1 K3 K4 K6 hP hs
  go_enter Tryd.func9, Tryd.ntmps9
  go_wp2_with (first | (go_at_call 14; with_reducible refine (H1.out _).mono ?_; rintro e V ⟨rfl, hF⟩; have F := hid (p := _) hF; clear hF) | (go_at_call 18; with_reducible refine (H4.out _).mono ?_; rintro e V2 ⟨rfl, hF⟩; have F2 := hid (p := _) (F.out.trans0 hF); clear hF) | (go_at_call 16; with_reducible refine (H3.out _ (hP2.out.fr F2.out)).mono ?_; rintro e V3 ⟨rfl, hF⟩; have F3 := hid (p := _) (F2.out.trans0 hF); clear hF) | (go_at_call 19; with_reducible refine (H6.out _).mono ?_; rintro e V4 ⟨rfl, hF⟩; have F4 := hid (p := _) (F3.out.trans0 hF); clear hF))
  go_ret2
  exact ⟨rfl, F4.out⟩
end Go.Proofs.YthbkhbfcocbnoaaDoor
