/-
  NumReads: its walk. No statement is proved here.
-/
import Derived.Test.YtjaocjnefopdfaaDoorRedF
import Derived.Test.YtjaocjnefopdfaaDoorNumP
namespace Go.Proofs.YtjaocjnefopdfaaDoor
open Go.RowKit Go.Lib Go.BigFrame
set_option linter.unusedVariables false
set_option linter.unusedSimpArgs false
set_option maxRecDepth 1000000
set_option maxHeartbeats 4000000

theorem dt_par (v : Nat) : dt v 0 % 2 = v % 2 := by unfold dt; rw [Nat.mul_zero, Nat.pow_zero, Nat.div_one]; omega
theorem reads_32 (s : ByteArray) (hs : s.size = 32) (n : Nat) (hn : n < 4294967296) (w : World) (hP : PV w) : Calls Tryd.prog 3 #[.string s, .int .u32 (n : Nat)] w fun e w' => e = .returned (.bool true) ∧ Fr [] w w' := by
  have hP2 := hid (p := _) hP
  have hv := of_ltP s
  have K1 := fun W (h : PV W) => of_yes s hs W h
  have K2 := fun W (h : PV W) => canon_yes s hs W h
  have K3 := fun W => rcanon_yes s hs W
  have K4 := fun W => small_any n hn W
  have K5 := fun W => rsmall_any n hn W
  have K6 := fun W => is_yes n (by omega) W
  have K7 := fun W => rof_any s hs W
  have K8 := fun W => is_yes (of s) (lt4 hv) W
  have K9 := fun W => odd_any (of s) (lt4 hv) W
  have K10 := fun W (h : PV W) => alive_any W h
  generalize decide (rd s 32 < Nt.P) = cn at *
  obtain ⟨c0, c1, c2, c3, -, -, -, -, -, wc⟩ := wd_open (of s) (lt4 hv)
  obtain ⟨a0, a1, a2, a3, a4, a5, a6, a7, a8, ea, wa⟩ := nd_open (of s)
  have f1 : bits .and .u64 (a0 : Int) 1 = ((of s % 2 : Nat) : Int) := by
    have e0 : dt (of s) 0 = a0 := by injection ea
    have e1 := dt_par (of s)
    rw [e0] at e1
    have e2 := dt_lt (of s) 0
    rw [e0] at e2
    rw [and_one64 a0 (by omega), e1]
  have hq : (decide (of s % 2 = 1) = true ∧ of s % 2 = 1) ∨ (decide (of s % 2 = 1) = false ∧ of s % 2 = 0) := by
    rcases Nat.mod_two_eq_zero_or_one (of s) with h | h <;> simp [h]
  generalize decide (of s % 2 = 1) = q at *
  rw [wc] at K1 K8 K9
  rw [wa] at K7 K8
  generalize wd n = wn at *
  generalize nd n = nn at *
  have hsi : (s.size : Int) = 32 := by omega
  have H1 := hid (p := _) K1
  have H2 := hid (p := _) K2
  have H3 := hid (p := _) K3
  have H4 := hid (p := _) K4
  have H5 := hid (p := _) K5
  have H6 := hid (p := _) K6
  have H7 := hid (p := _) K7
  have H8 := hid (p := _) K8
  have H9 := hid (p := _) K9
  have H10 := hid (p := _) K10
  clear K1 K2 K3 K4 K5 K6 K7 K8 K9 K10 wc wa ea hs hP hv hn
  have F0 := hid (p := _) (Fr.refl [] w)
  go_enter Tryd.func3, Tryd.ntmps3
  go_wp2_with (first | (go_at_call 9; with_reducible refine (H1.out _ hP2.out).mono ?_; rintro e V1 ⟨rfl, hF⟩; have F1 := hid (p := _) (F0.out.trans0 hF); clear hF) | (go_at_call 10; with_reducible refine (H2.out _ (hP2.out.fr (F1.out.alloc _))).mono ?_; rintro e V2 ⟨rfl, hF⟩; have F2 := hid (p := _) ((F1.out.alloc _).trans0 hF); have A2 := hid (p := _) ((L4.new V1 28 _ _ _ _).fr hF); clear hF) | (go_at_call 11; with_reducible refine (H3.out _).mono ?_; rintro e V3 ⟨rfl, hF⟩; have F3 := hid (p := _) (F2.out.trans0 hF); have A3 := hid (p := _) (A2.out.fr hF); clear hF) | (go_at_call 13; with_reducible refine (H4.out _).mono ?_; rintro e V4 ⟨rfl, hF⟩; have F4 := hid (p := _) (F3.out.trans0 hF); have A4 := hid (p := _) (A3.out.fr hF); clear hF) | (go_at_call 14; with_reducible refine (H5.out _).mono ?_; rintro e V5 ⟨rfl, hF⟩; have F5 := hid (p := _) (F4.out.trans0 hF); have A5 := hid (p := _) (A4.out.fr hF); clear hF) | (go_at_call 12; with_reducible refine (H6.out _).mono ?_; rintro e V6 ⟨rfl, hF⟩; have F6 := hid (p := _) (F5.out.trans0 hF); have A6 := hid (p := _) (A5.out.fr hF); clear hF) | (go_at_call 16; with_reducible refine (H7.out _).mono ?_; rintro e V7 ⟨rfl, hF⟩; have F7 := hid (p := _) (F6.out.trans0 hF); have A7 := hid (p := _) (A6.out.fr hF); clear hF))
  have G := F7.out.alloc (.cells #[.int .u64 (a0 : Nat), .int .u64 (a1 : Nat), .int .u64 (a2 : Nat), .int .u64 (a3 : Nat), .int .u64 (a4 : Nat), .int .u64 (a5 : Nat), .int .u64 (a6 : Nat), .int .u64 (a7 : Nat), .int .u64 (a8 : Nat)] 36)
  have A8 := A7.out.alloc (.cells #[.int .u64 (a0 : Nat), .int .u64 (a1 : Nat), .int .u64 (a2 : Nat), .int .u64 (a3 : Nat), .int .u64 (a4 : Nat), .int .u64 (a5 : Nat), .int .u64 (a6 : Nat), .int .u64 (a7 : Nat), .int .u64 (a8 : Nat)] 36)
  have B8 := (RW.of9 (t := 36) (heap_new0 V7 (.cells #[.int .u64 (a0 : Nat), .int .u64 (a1 : Nat), .int .u64 (a2 : Nat), .int .u64 (a3 : Nat), .int .u64 (a4 : Nat), .int .u64 (a5 : Nat), .int .u64 (a6 : Nat), .int .u64 (a7 : Nat), .int .u64 (a8 : Nat)] 36)))
  generalize V7.alloc (.cells #[.int .u64 (a0 : Nat), .int .u64 (a1 : Nat), .int .u64 (a2 : Nat), .int .u64 (a3 : Nat), .int .u64 (a4 : Nat), .int .u64 (a5 : Nat), .int .u64 (a6 : Nat), .int .u64 (a7 : Nat), .int .u64 (a8 : Nat)] 36) = U at *
  generalize V7.heap.size = bb at *
  generalize V1.heap.size = ab at *
  have HG := hid (p := _) G
  obtain ⟨_, _, _, _, _, _, _, _, _, _⟩ := A8.all
  obtain ⟨_, _, _, _, _, _, _, _, _, _, _, _, _, _, _, _, _, _, _, _⟩ := B8.all
  clear G A8 B8 F1 F2 F3 F4 F5 F6 F7 A2 A3 A4 A5 A6 A7
  rcases hq with ⟨rfl, h⟩ | ⟨rfl, h⟩
  all_goals
    rw [h] at f1
    refine wp_region_ext (by kernel_rfl) (by kernel_rfl) ?_
    repeat (go_big_quiet_step (first | with_reducible exact Calls.ext_of (H8.out _) | with_reducible exact Calls.ext_of (H9.out _) | with_reducible exact Calls.ext_of (H10.out _ (hP2.out.fr (HG.out.ext _)))))
    refine wpQuiet_nil ?_
    rintro _ ⟨xq, rfl⟩
    go_wp2
    go_ret
    exact ⟨rfl, HG.out.ext xq⟩

theorem reads_no (s : ByteArray) (hs : s.size ≠ 32) (hs2 : s.size ≤ 4096) (n : Nat) (hn : n < 4294967296) (w : World) (hP : PV w) : Calls Tryd.prog 3 #[.string s, .int .u32 (n : Nat)] w fun e w' => e = .returned (.bool true) ∧ Fr [] w w' := by
  have hP2 := hid (p := _) hP
  have K1 := fun W => of_no s hs W
  have K2 := fun W => canon_no s hs W
  have K3 := fun W => rcanon_no s hs W
  have K4 := fun W => small_any n hn W
  have K5 := fun W => rsmall_any n hn W
  have K6 := fun W => is_yes n (by omega) W
  have K7 := fun W => same_any 0 0 (by decide) (by decide) W
  have K10 := fun W (h : PV W) => alive_any W h
  rw [← wd_0] at K1 K7
  rw [decide_eq_true rfl] at K7
  generalize wd n = wn at *
  generalize nd n = nn at *
  have hsi : ¬ (s.size : Int) = 32 := by omega
  have hsj : ¬ (4096 : Int) < (s.size : Int) := by omega
  have H1 := hid (p := _) K1
  have H2 := hid (p := _) K2
  have H3 := hid (p := _) K3
  have H4 := hid (p := _) K4
  have H5 := hid (p := _) K5
  have H6 := hid (p := _) K6
  have H7 := hid (p := _) K7
  have H10 := hid (p := _) K10
  clear K1 K2 K3 K4 K5 K6 K7 K10 hs hs2 hP hn
  have F0 := hid (p := _) (Fr.refl [] w)
  go_enter Tryd.func3, Tryd.ntmps3
  go_wp2_with (first | (go_at_call 9; with_reducible refine (H1.out _).mono ?_; rintro e V1 ⟨rfl, hF⟩; have F1 := hid (p := _) (F0.out.trans0 hF); clear hF) | (go_at_call 10; with_reducible refine (H2.out _).mono ?_; rintro e V2 ⟨rfl, hF⟩; have F2 := hid (p := _) ((F1.out.alloc _).trans0 hF); have A2 := hid (p := _) ((L4.new V1 28 _ _ _ _).fr hF); clear hF) | (go_at_call 11; with_reducible refine (H3.out _).mono ?_; rintro e V3 ⟨rfl, hF⟩; have F3 := hid (p := _) (F2.out.trans0 hF); have A3 := hid (p := _) (A2.out.fr hF); clear hF) | (go_at_call 13; with_reducible refine (H4.out _).mono ?_; rintro e V4 ⟨rfl, hF⟩; have F4 := hid (p := _) (F3.out.trans0 hF); have A4 := hid (p := _) (A3.out.fr hF); clear hF) | (go_at_call 14; with_reducible refine (H5.out _).mono ?_; rintro e V5 ⟨rfl, hF⟩; have F5 := hid (p := _) (F4.out.trans0 hF); have A5 := hid (p := _) (A4.out.fr hF); clear hF) | (go_at_call 12; with_reducible refine (H6.out _).mono ?_; rintro e V6 ⟨rfl, hF⟩; have F6 := hid (p := _) (F5.out.trans0 hF); have A6 := A5.out.fr hF; obtain ⟨_, _, _, _, _, _, _, _, _, _⟩ := A6.all; clear hF) | (go_at_call 15; with_reducible refine (H7.out _).mono ?_; rintro e V7 ⟨rfl, hF⟩; have F7 := hid (p := _) (F6.out.trans0 hF); clear hF) | (go_at_call 8; with_reducible refine (H10.out _ (hP2.out.fr F7.out)).mono ?_; rintro e V8 ⟨rfl, hF⟩; have F8 := hid (p := _) (F7.out.trans0 hF); clear hF))
  go_ret
  exact ⟨rfl, F8.out⟩
theorem reads_long (s : ByteArray) (hs2 : 4096 < s.size) (n : Nat) (w : World) (hP : PV w) : Calls Tryd.prog 3 #[.string s, .int .u32 (n : Nat)] w fun e w' => e = .returned (.bool true) ∧ Fr [] w w' := by
  have H10 := hid (p := _) (alive_any w hP)
  have hsj : (4096 : Int) < (s.size : Int) := by omega
  clear hP hs2
  go_enter Tryd.func3, Tryd.ntmps3
  go_wp2_with (go_at_call 8; with_reducible refine H10.out.mono ?_; rintro e V8 ⟨rfl, hF⟩; have F8 := hid (p := _) hF; clear hF)
  go_ret
  exact ⟨rfl, F8.out⟩
theorem reads_any (s : ByteArray) (n : Nat) (hn : n < 4294967296) (w : World) (hP : PV w) : Calls Tryd.prog 3 #[.string s, .int .u32 (n : Nat)] w fun e w' => e = .returned (.bool true) ∧ Fr [] w w' := by
  by_cases h : 4096 < s.size
  · exact reads_long s h n w hP
  · by_cases h2 : s.size = 32
    · exact reads_32 s h2 n hn w hP
    · exact reads_no s h2 (by omega) n hn w hP
end Go.Proofs.YtjaocjnefopdfaaDoor

