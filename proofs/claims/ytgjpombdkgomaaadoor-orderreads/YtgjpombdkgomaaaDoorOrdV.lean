/-
  OrderReads: its walk. No statement is proved here.
-/
import Derived.Test.YtgjpombdkgomaaaDoorOrdU
namespace Go.Proofs.YtgjpombdkgomaaaDoor
open Go.RowKit Go.Lib Go.BigFrame
set_option linter.unusedVariables false
set_option linter.unusedSimpArgs false
set_option maxRecDepth 1000000
set_option maxHeartbeats 4000000

theorem rcanon_yes (s : ByteArray) (h : s.size = 32) (w : World) : Calls Tryd.prog 10 #[.string s] w fun e w' => e = .returned (.bool ((by32 (of s)).toList == s.toList)) ∧ Fr [] w w' := by
  have K1 : ∀ W : World, Calls Tryd.prog 14 #[.string s] W fun e w' => e = .returned (nb (of s)) ∧ Fr [] W w' := fun W => rof_any s (by omega) W
  have K2 := fun W => rbytes_any (of s) W
  generalize of s = v at *
  generalize nb v = nv at *
  generalize by32 v = t at *
  have H1 := hid (p := _) K1
  have H2 := hid (p := _) K2
  have hsi : (s.size : Int) = 32 := by omega
  clear K1 K2 h
  have F0 := hid (p := _) (Fr.refl [] w)
  go_enter Tryd.func10, Tryd.ntmps10
  go_wp2_with (first | (go_at_call 14; with_reducible refine (H1.out _).mono ?_; rintro e V1 ⟨rfl, hF⟩; have F1 := hid (p := _) (F0.out.trans0 hF); clear hF) | (go_at_call 19; with_reducible refine (H2.out _).mono ?_; rintro e V2 ⟨rfl, hF⟩; have F2 := hid (p := _) (F1.out.trans0 hF); clear hF))
  go_ret
  exact ⟨rfl, F2.out⟩
theorem rcanon_no (s : ByteArray) (h : s.size ≠ 32) (w : World) : Calls Tryd.prog 10 #[.string s] w fun e w' => e = .returned (.bool false) ∧ Fr [] w w' := by
  have h1 : ¬ (s.size : Int) = 32 := by omega
  clear h
  go_enter Tryd.func10, Tryd.ntmps10
  go_wp2_with fail
  go_ret
  exact ⟨rfl, Fr.refl [] w⟩
theorem reads_long (s : ByteArray) (h : 4096 < s.size) (w : World) (hP : PV w) : Calls Tryd.prog 3 #[.string s] w fun e w' => e = .returned (.bool true) ∧ Fr [] w w' := by
  have H10 := hid (p := _) (alive_any w hP)
  have hsj : (4096 : Int) < (s.size : Int) := by omega
  clear hP h
  go_enter Tryd.func3, Tryd.ntmps3
  go_wp2_with (go_at_call 6; with_reducible refine H10.out.mono ?_; rintro e V8 ⟨rfl, hF⟩; have F8 := hid (p := _) hF; clear hF)
  go_ret
  exact ⟨rfl, F8.out⟩
theorem reads_32 (s : ByteArray) (h : s.size = 32) (w : World) (hP : PV w) : Calls Tryd.prog 3 #[.string s] w fun e w' => e = .returned (.bool true) ∧ Fr [] w w' := by
  have hP2 := hid (p := _) hP
  have hf : fits s := .inl h
  have K7 := fun W (hW : PV W) => of_yes s hf W hW
  have K14 : ∀ W : World, Calls Tryd.prog 14 #[.string s] W fun e w' => e = .returned (nb (of s)) ∧ Fr [] W w' := fun W => rof_any s (by omega) W
  have K13 := fun W => is_yes (of s) (lt4 (of_ltL s)) W
  obtain ⟨a0, a1, a2, a3, -, -, -, -, -, wa⟩ := wd_open (of s) (lt4 (of_ltL s))
  obtain ⟨q, K9, hq⟩ := canon_q s hf
  have K10 := fun W => rcanon_yes s h W
  rw [hq] at K10
  clear hq
  have K8 := fun W => clamp_yes s h W
  have K11 := fun W => rclamp_any s h W
  generalize sbi (cl s) = C at *
  rw [wa] at K7 K13
  generalize nb (of s) = nv at *
  have K6 := fun W (hW : PV W) => alive_any W hW
  have H6 := hid (p := _) K6
  have H7 := hid (p := _) K7
  have H8 := hid (p := _) K8
  have H9 := hid (p := _) K9
  have H10 := hid (p := _) K10
  have H11 := hid (p := _) K11
  have H13 := hid (p := _) K13
  have H14 := hid (p := _) K14
  have hsi : (s.size : Int) = 32 := by omega
  clear K6 K7 K8 K9 K10 K11 K13 K14 wa h hf hP
  have F0 := hid (p := _) (Fr.refl [] w)
  cases q
  all_goals
    go_enter Tryd.func3, Tryd.ntmps3
    go_wp2_with (first | (go_at_call 7; with_reducible refine (H7.out _ (by with_reducible exact hP2.out)).mono ?_; rintro e V1 ⟨rfl, hF⟩; have F1 := hid (p := _) (F0.out.trans0 hF); clear hF) | (go_at_call 8; with_reducible refine (H8.out _).mono ?_; rintro e V2 ⟨rfl, hF⟩; have F2 := hid (p := _) ((F1.out.alloc _).trans0 hF); have A2 := hid (p := _) ((L4.new V1 27 _ _ _ _).fr hF); clear hF) | (go_at_call 9; with_reducible refine (H9.out _ (hP2.out.fr F2.out (by simp))).mono ?_; rintro e V3 ⟨rfl, hF⟩; have F3 := hid (p := _) (F2.out.trans0 hF); have A3 := hid (p := _) (A2.out.fr hF); clear hF) | (go_at_call 10; with_reducible refine (H10.out _).mono ?_; rintro e V4 ⟨rfl, hF⟩; have F4 := hid (p := _) (F3.out.trans0 hF); have A4 := A3.out.fr hF; obtain ⟨_, _, _, _, _, _, _, _, _, _⟩ := A4.all; have HA4 := hid (p := _) A4; clear hF A4) | (go_at_call 11; with_reducible refine (H11.out _).mono ?_; rintro e V5 ⟨rfl, hF⟩; have F5 := hid (p := _) (F4.out.trans0 hF); have A5 := hid (p := _) (HA4.out.fr hF); clear hF))
    obtain ⟨_, _, _, _, _, _, _, _, _, _⟩ := A5.out.all
    refine wp_region_ext (by kernel_rfl) (by kernel_rfl) ?_
    repeat (go_big_quiet_step (first | with_reducible exact Calls.ext_of (H14.out _) | with_reducible exact Calls.ext_of (H13.out _) | with_reducible exact Calls.ext_of (H6.out _ (hP2.out.fr (F5.out.ext _) (by simp)))))
    refine wpQuiet_nil ?_
    rintro _ ⟨xq, rfl⟩
    go_wp2
    go_ret
    exact ⟨rfl, F5.out.ext xq⟩
theorem reads_64 (s : ByteArray) (h : s.size = 64) (w : World) (hP : PV w) : Calls Tryd.prog 3 #[.string s] w fun e w' => e = .returned (.bool true) ∧ Fr [] w w' := by
  have hP2 := hid (p := _) hP
  have hf : fits s := .inr h
  have K7 := fun W (hW : PV W) => of_yes s hf W hW
  have K14 : ∀ W : World, Calls Tryd.prog 14 #[.string s] W fun e w' => e = .returned (nb (of s)) ∧ Fr [] W w' := fun W => rof_any s (by omega) W
  have K13 := fun W => is_yes (of s) (lt4 (of_ltL s)) W
  obtain ⟨a0, a1, a2, a3, -, -, -, -, -, wa⟩ := wd_open (of s) (lt4 (of_ltL s))
  have K9 := fun W (_ : PV W) => canon_no s (by omega) W
  have K10 := fun W => rcanon_no s (by omega) W
  rw [wa] at K7 K13
  generalize nb (of s) = nv at *
  have K8 : ∀ W : World, Calls Tryd.prog 8 #[.string s] W fun e w' => e = .returned (.tuple #[.string ⟨#[]⟩, .int .i64 2]) ∧ Fr [] W w' := fun W => clamp_no s (by omega) W
  have K6 := fun W (hW : PV W) => alive_any W hW
  have H6 := hid (p := _) K6
  have H7 := hid (p := _) K7
  have H8 := hid (p := _) K8
  have H9 := hid (p := _) K9
  have H10 := hid (p := _) K10
  have H13 := hid (p := _) K13
  have H14 := hid (p := _) K14
  have hsi : (s.size : Int) = 64 := by omega
  clear K6 K7 K8 K9 K10 K13 K14 wa h hf hP
  have F0 := hid (p := _) (Fr.refl [] w)
  go_enter Tryd.func3, Tryd.ntmps3
  go_wp2_with (first | (go_at_call 7; with_reducible refine (H7.out _ (by with_reducible exact hP2.out)).mono ?_; rintro e V1 ⟨rfl, hF⟩; have F1 := hid (p := _) (F0.out.trans0 hF); clear hF) | (go_at_call 8; with_reducible refine (H8.out _).mono ?_; rintro e V2 ⟨rfl, hF⟩; have F2 := hid (p := _) ((F1.out.alloc _).trans0 hF); have A2 := hid (p := _) ((L4.new V1 27 _ _ _ _).fr hF); clear hF) | (go_at_call 9; with_reducible refine (H9.out _ (hP2.out.fr F2.out (by simp))).mono ?_; rintro e V3 ⟨rfl, hF⟩; have F3 := hid (p := _) (F2.out.trans0 hF); have A3 := hid (p := _) (A2.out.fr hF); clear hF) | (go_at_call 10; with_reducible refine (H10.out _).mono ?_; rintro e V4 ⟨rfl, hF⟩; have F4 := hid (p := _) (F3.out.trans0 hF); have A4 := A3.out.fr hF; obtain ⟨_, _, _, _, _, _, _, _, _, _⟩ := A4.all; have HA4 := hid (p := _) A4; clear hF A4))
  obtain ⟨_, _, _, _, _, _, _, _, _, _⟩ := HA4.out.all
  refine wp_region_ext (by kernel_rfl) (by kernel_rfl) ?_
  repeat (go_big_quiet_step (first | with_reducible exact Calls.ext_of (H14.out _) | with_reducible exact Calls.ext_of (H13.out _) | with_reducible exact Calls.ext_of (H6.out _ (hP2.out.fr (F4.out.ext _) (by simp)))))
  refine wpQuiet_nil ?_
  rintro _ ⟨xq, rfl⟩
  go_wp2
  go_ret
  exact ⟨rfl, F4.out.ext xq⟩
theorem reads_no (s : ByteArray) (h : ¬ fits s) (h4 : s.size ≤ 4096) (w : World) (hP : PV w) : Calls Tryd.prog 3 #[.string s] w fun e w' => e = .returned (.bool true) ∧ Fr [] w w' := by
  have hP2 := hid (p := _) hP
  have K7 := fun W (_ : PV W) => of_no s h W
  have h32 : s.size ≠ 32 := fun e => h (.inl e)
  have h64 : s.size ≠ 64 := fun e => h (.inr e)
  have K9 := fun W (_ : PV W) => canon_no s h32 W
  have K10 := fun W => rcanon_no s h32 W
  have K12 := fun W => same_yes 0 (by decide) W
  rw [← wd_0] at K7 K12
  have K8 : ∀ W : World, Calls Tryd.prog 8 #[.string s] W fun e w' => e = .returned (.tuple #[.string ⟨#[]⟩, .int .i64 2]) ∧ Fr [] W w' := fun W => clamp_no s (by omega) W
  have K6 := fun W (hW : PV W) => alive_any W hW
  have H6 := hid (p := _) K6
  have H7 := hid (p := _) K7
  have H8 := hid (p := _) K8
  have H9 := hid (p := _) K9
  have H10 := hid (p := _) K10
  have H12 := hid (p := _) K12
  have hsi : ¬ (s.size : Int) = 32 := by omega
  have hsk : ¬ (s.size : Int) = 64 := by omega
  have hsb : ((s.size : Int) != 32) = true := bne_iff_ne.2 hsi
  have hsc : ((s.size : Int) != 64) = true := bne_iff_ne.2 hsk
  have hsj : ¬ (4096 : Int) < (s.size : Int) := by omega
  clear K6 K7 K8 K9 K10 K12 h h4 h32 h64 hP
  have F0 := hid (p := _) (Fr.refl [] w)
  go_enter Tryd.func3, Tryd.ntmps3
  go_wp2_with (first | (go_at_call 7; with_reducible refine (H7.out _ (by with_reducible exact hP2.out)).mono ?_; rintro e V1 ⟨rfl, hF⟩; have F1 := hid (p := _) (F0.out.trans0 hF); clear hF) | (go_at_call 8; with_reducible refine (H8.out _).mono ?_; rintro e V2 ⟨rfl, hF⟩; have F2 := hid (p := _) ((F1.out.alloc _).trans0 hF); have A2 := hid (p := _) ((L4.new V1 27 _ _ _ _).fr hF); clear hF) | (go_at_call 9; with_reducible refine (H9.out _ (hP2.out.fr F2.out (by simp))).mono ?_; rintro e V3 ⟨rfl, hF⟩; have F3 := hid (p := _) (F2.out.trans0 hF); have A3 := hid (p := _) (A2.out.fr hF); clear hF) | (go_at_call 10; with_reducible refine (H10.out _).mono ?_; rintro e V4 ⟨rfl, hF⟩; have F4 := hid (p := _) (F3.out.trans0 hF); have A4 := A3.out.fr hF; obtain ⟨_, _, _, _, _, _, _, _, _, _⟩ := A4.all; have HA4 := hid (p := _) A4; clear hF A4) | (go_at_call 12; with_reducible refine (H12.out _).mono ?_; rintro e V5 ⟨rfl, hF⟩; have F5 := hid (p := _) (F4.out.trans0 hF); clear hF) | (go_at_call 6; with_reducible refine (H6.out _ (hP2.out.fr F5.out (by simp))).mono ?_; rintro e V6 ⟨rfl, hF⟩; have F6 := hid (p := _) (F5.out.trans0 hF); clear hF))
  go_ret
  exact ⟨rfl, F6.out⟩
theorem reads_any (s : ByteArray) (w : World) (hP : PV w) : Calls Tryd.prog 3 #[.string s] w fun e w' => e = .returned (.bool true) ∧ Fr [] w w' := by
  by_cases h4 : 4096 < s.size
  · exact reads_long s h4 w hP
  · by_cases h : s.size = 32
    · exact reads_32 s h w hP
    · by_cases h2 : s.size = 64
      · exact reads_64 s h2 w hP
      · exact reads_no s (fun hf => by rcases hf with e | e <;> contradiction) (by omega) w hP
end Go.Proofs.YtgjpombdkgomaaaDoor

