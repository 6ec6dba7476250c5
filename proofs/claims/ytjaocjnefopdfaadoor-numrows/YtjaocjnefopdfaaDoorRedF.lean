/-
  The document's numbers: num's Canonical; the law's is. No statement is proved here.
-/
import Derived.Test.YtjaocjnefopdfaaDoorRedE
import Derived.Deep.RegionHeld3
namespace Go.Proofs.YtjaocjnefopdfaaDoor
open Go.RowKit Go.Lib Go.BigFrame
set_option linter.unusedVariables false
set_option linter.unusedSimpArgs false
set_option maxRecDepth 1000000
set_option maxHeartbeats 4000000

theorem canon_yes (s : ByteArray) (hs : s.size = 32) (w : World) (hP : PV w) : Calls Tryd.prog 10 #[.string s] w fun e w' => e = .returned (.bool (decide (rd s 32 < Nt.P))) ∧ Fr [] w w' := by
  have hP2 := hid (p := _) hP
  have K1 := fun W => read_any s hs W
  have K2 := fun W => minus_any (rd s 32) Nt.P (rd_lt4 s) P_lt W
  rw [← wd_P] at K2
  have hb : (((bo (rd s 32) Nt.P : Nat) : Int) != 0) = decide (rd s 32 < Nt.P) := by
    unfold bo
    by_cases h : rd s 32 < Nt.P <;> simp [h]
  have hsi : (s.size : Int) = 32 := by omega
  have HB := hid (p := _) hb
  clear hs hb hP
  rw [← HB.out]
  generalize bo (rd s 32) Nt.P = b at *
  obtain ⟨m0, m1, m2, m3, -, -, -, -, -, wm⟩ := wd_open ((rd s 32 + 115792089237316195423570985008687907853269984665640564039457584007913129639936 - Nt.P) % 115792089237316195423570985008687907853269984665640564039457584007913129639936) (Nat.mod_lt _ (by decide))
  rw [wm] at K2
  obtain ⟨n0, n1, n2, n3, -, -, -, -, -, wn⟩ := wd_open (rd s 32) (rd_lt4 s)
  rw [wn] at K1 K2
  clear wm wn HB
  have H1 := hid (p := _) K1
  have H2 := hid (p := _) K2
  clear K1 K2
  obtain ⟨q0, q1, q2, q3, q4, q5, q6, q7⟩ := hP2.out
  have hz0 := hP2.out.size
  have hz1 : 0 ≠ w.heap.size := by omega
  have hz2 : w.heap.size ≠ 0 := by omega
  go_enter Tryd.func10, Tryd.ntmps10
  go_wp2_with fail
  go_region_held3 (fun V' => V'.cell? ⟨0, 0, none⟩ = some (.int .u64 18446744073709551597) ∧ V'.cell? ⟨0, 1, none⟩ = some (.int .u64 18446744073709551615) ∧ V'.cell? ⟨0, 2, none⟩ = some (.int .u64 18446744073709551615) ∧ V'.cell? ⟨0, 3, none⟩ = some (.int .u64 9223372036854775807)) (go_keep)
    (first | (go_at_call 32; with_reducible refine (H1.out _).mono ?_; rintro e Va ⟨rfl, hF⟩; first | (have Fa : Fr [] w Va := (by with_reducible exact (Fr.refl [] w).drew.trans0 hF); obtain ⟨_, _, _, _, _, _, _, _⟩ := hP2.out.fr Fa; have hna : Va.heap.size ≠ 0 := (by have := (hP2.out.fr Fa).size; omega); clear hF) | (have Fa : Fr [] w Va := ((Fr.refl [] w).alloc _).drew.trans0 hF; have Oa : L4 Va w.heap.size 26 (.int .u64 0) (.int .u64 0) (.int .u64 0) (.int .u64 0) := (L4.new w 26 _ _ _ _).fr ((Fr.refl [] _).drew.trans0 hF); obtain ⟨_, _, _, _, _, _, _, _⟩ := hP2.out.fr Fa; have hna : Va.heap.size ≠ 0 := (by have := (hP2.out.fr Fa).size; omega); clear hF)) | (go_at_call 33; with_reducible refine (H2.out _).mono ?_; rintro e Vb ⟨rfl, hF⟩; first | (have Fb : Fr [] w Vb := (by with_reducible exact Fa.trans0 hF); have Ob : L4 Vb w.heap.size 26 (.int .u64 0) (.int .u64 0) (.int .u64 0) (.int .u64 0) := Oa.fr hF; obtain ⟨_, _, _, _, _, _, _, _, _, _⟩ := Ob.all; obtain ⟨_, _, _, _, _, _, _, _⟩ := hP2.out.fr Fb; have hnb : Vb.heap.size ≠ 0 := (by have := (hP2.out.fr Fb).size; omega); clear hF) | (have Fb : Fr [] w Vb := (by with_reducible exact Fa.trans0 hF); obtain ⟨_, _, _, _, _, _, _, _⟩ := hP2.out.fr Fb; have hnb : Vb.heap.size ≠ 0 := (by have := (hP2.out.fr Fb).size; omega); clear hF) | (have Fb : Fr [] w Vb := (Fa.alloc _).trans0 hF; have Ob : L4 Vb Va.heap.size 26 (.int .u64 0) (.int .u64 0) (.int .u64 0) (.int .u64 0) := (L4.new Va 26 _ _ _ _).fr hF; obtain ⟨_, _, _, _, _, _, _, _, _, _⟩ := Ob.all; obtain ⟨_, _, _, _, _, _, _, _⟩ := hP2.out.fr Fb; have hnb : Vb.heap.size ≠ 0 := (by have := (hP2.out.fr Fb).size; omega); clear hF)))
  all_goals go_wp2_with fail
  all_goals go_ret
  all_goals refine ⟨rfl, ?_⟩
  all_goals first | exact Fb.alloc _ | exact Fb.set4 (by have := Fa.size; omega) _ _ _ _
theorem canon_no (s : ByteArray) (hs : s.size ≠ 32) (w : World) : Calls Tryd.prog 10 #[.string s] w fun e w' => e = .returned (.bool false) ∧ Fr [] w w' := by
  have hsi : ¬ (s.size : Int) = 32 := by omega
  go_enter Tryd.func10, Tryd.ntmps10
  go_wp2_with fail
  go_ret
  exact ⟨rfl, Fr.refl [] w⟩

theorem is_yes (v : Nat) (hv : v < 115792089237316195423570985008687907853269984665640564039457584007913129639936) (w : World) : Calls Tryd.prog 12 #[wd v, nd v] w fun e w' => e = .returned (.bool true) ∧ Fr [] w w' := by
  have K1 := fun W => bytes_any v hv W
  have K2 := fun W => rbytes_any v hv W
  obtain ⟨c0, c1, c2, c3, -, -, -, -, -, wc⟩ := wd_open v hv
  obtain ⟨a0, a1, a2, a3, a4, a5, a6, a7, a8, ea, wa⟩ := nd_open v
  rw [wc] at K1
  rw [wa] at K2
  rw [wc, wa]
  have H1 := hid (p := _) K1
  have H2 := hid (p := _) K2
  clear K1 K2 wc wa ea hv
  generalize by32 v = t at *
  go_enter Tryd.func12, Tryd.ntmps12
  go_wp2_with fail
  have F := (((Fr.refl [] w).alloc (.cells #[.int .u64 (c0 : Nat), .int .u64 (c1 : Nat), .int .u64 (c2 : Nat), .int .u64 (c3 : Nat)] 28)).alloc (.cells #[.int .u64 (a0 : Nat), .int .u64 (a1 : Nat), .int .u64 (a2 : Nat), .int .u64 (a3 : Nat), .int .u64 (a4 : Nat), .int .u64 (a5 : Nat), .int .u64 (a6 : Nat), .int .u64 (a7 : Nat), .int .u64 (a8 : Nat)] 36))
  have A1 := ((L4.new w 28 (.int .u64 (c0 : Nat)) (.int .u64 (c1 : Nat)) (.int .u64 (c2 : Nat)) (.int .u64 (c3 : Nat)))).alloc (.cells #[.int .u64 (a0 : Nat), .int .u64 (a1 : Nat), .int .u64 (a2 : Nat), .int .u64 (a3 : Nat), .int .u64 (a4 : Nat), .int .u64 (a5 : Nat), .int .u64 (a6 : Nat), .int .u64 (a7 : Nat), .int .u64 (a8 : Nat)] 36)
  have B1 := (RW.of9 (t := 36) (heap_new1 w (.cells #[.int .u64 (c0 : Nat), .int .u64 (c1 : Nat), .int .u64 (c2 : Nat), .int .u64 (c3 : Nat)] 28) (.cells #[.int .u64 (a0 : Nat), .int .u64 (a1 : Nat), .int .u64 (a2 : Nat), .int .u64 (a3 : Nat), .int .u64 (a4 : Nat), .int .u64 (a5 : Nat), .int .u64 (a6 : Nat), .int .u64 (a7 : Nat), .int .u64 (a8 : Nat)] 36)))
  generalize ((w.alloc (.cells #[.int .u64 (c0 : Nat), .int .u64 (c1 : Nat), .int .u64 (c2 : Nat), .int .u64 (c3 : Nat)] 28)).alloc (.cells #[.int .u64 (a0 : Nat), .int .u64 (a1 : Nat), .int .u64 (a2 : Nat), .int .u64 (a3 : Nat), .int .u64 (a4 : Nat), .int .u64 (a5 : Nat), .int .u64 (a6 : Nat), .int .u64 (a7 : Nat), .int .u64 (a8 : Nat)] 36)) = V at *
  obtain ⟨_, _, _, _, _, _, _, _, _, _⟩ := A1.all
  obtain ⟨_, _, _, _, _, _, _, _, _, _, _, _, _, _, _, _, _, _, _, _⟩ := B1.all
  refine wp_region_ext (by kernel_rfl) (by kernel_rfl) ?_
  repeat (go_big_quiet_step (first | with_reducible exact Calls.ext_of (H1.out _) | with_reducible exact Calls.ext_of (H2.out _)))
  refine wpQuiet_nil ?_
  rintro _ ⟨xq, rfl⟩
  go_wp2
  go_ret
  exact ⟨rfl, F.ext xq⟩
end Go.Proofs.YtjaocjnefopdfaaDoor
