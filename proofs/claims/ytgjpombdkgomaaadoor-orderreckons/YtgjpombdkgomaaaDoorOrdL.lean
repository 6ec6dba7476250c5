/-
  alive. No statement is proved here.
-/
import Derived.Test.YtgjpombdkgomaaaDoorOrdK
namespace Go.Proofs.YtgjpombdkgomaaaDoor
open Go.RowKit Go.Lib Go.BigFrame
set_option linter.unusedVariables false
set_option linter.unusedSimpArgs false
set_option maxRecDepth 1000000
set_option maxHeartbeats 4000000

theorem get_of_data {s : ByteArray} {i : Nat} {x : UInt8} (h : s.data[i]? = some x) : s[i]? = some x := by
  have h2 : i < s.data.size := by
    rcases Nat.lt_or_ge i s.data.size with h3 | h3
    · exact h3
    · rw [Array.getElem?_eq_none h3] at h; cases h
  have h4 : i < s.size := h2
  rw [getElem?_pos s i h4]
  rw [Array.getElem?_eq_getElem h2] at h
  exact h
theorem same_yes (a : Nat) (ha : a < 115792089237316195423570985008687907853269984665640564039457584007913129639936) (w : World) : Calls Tryd.prog 12 #[wd a, wd a] w fun e w' => e = .returned (.bool true) ∧ Fr [] w w' := by
  have := same_any a a ha ha w
  rwa [decide_eq_true rfl] at this
theorem of_val {s : ByteArray} {v : Nat} (h : fits s) (hv : of s = v) (w : World) (hP : PV w) : Calls Tryd.prog 7 #[.string s] w fun e w' => e = .returned (.tuple #[wd v, .int .i64 0]) ∧ Fr [] w w' := by
  have := of_yes s h w hP
  rwa [hv] at this
theorem muladd_is {a b c r : Nat} (ha : a < 115792089237316195423570985008687907853269984665640564039457584007913129639936) (hb : b < 115792089237316195423570985008687907853269984665640564039457584007913129639936) (hc : c < 115792089237316195423570985008687907853269984665640564039457584007913129639936) (h : (a * b + c) % Lq = r) (w : World) (hP : PV w) : Calls Tryd.prog 15 #[wd a, wd b, wd c] w fun e w' => e = .returned (wd r) ∧ Fr [] w w' := by
  have := muladd_any a b c ha hb hc w hP
  rwa [h] at this
theorem z31_size : z31.size = 31 := by decide +kernel
theorem sh_data : (⟨#[115, 104, 111, 114, 116]⟩ : ByteArray).size = 5 := rfl
theorem alive_any (w : World) (hP : PV w) : Calls Tryd.prog 6 #[] w fun e w' => e = .returned (.bool true) ∧ Fr [] w w' := by
  have hP2 := hid (p := _) hP
  have L4' : Lq < 115792089237316195423570985008687907853269984665640564039457584007913129639936 := by have := Lq_lt; omega
  have K1 := fun W => order_any W
  have K2 := fun W => rbytes_any Lq W
  have K3 := fun W (h : PV W) => of_val (s := by32 Lq) (.inl (by32_size _)) of_L W h
  have K4 := fun W => of_no (⟨#[115, 104, 111, 114, 116]⟩ : ByteArray) (by rintro (h | h) <;> rw [sh_data] at h <;> omega) W
  have K5 := fun W => clamp_yes z32 z32_size W
  have K6 : ∀ W : World, PV W → Calls Tryd.prog 7 #[.string ((⟨#[3]⟩ : ByteArray) ++ z31)] W fun e w' => e = .returned (.tuple #[wd 3, .int .i64 0]) ∧ Fr [] W w' := fun W h => of_val (s := sm 3) (.inl (sm_size _)) of_3 W h
  have K7 : ∀ W : World, PV W → Calls Tryd.prog 7 #[.string ((⟨#[5]⟩ : ByteArray) ++ z31)] W fun e w' => e = .returned (.tuple #[wd 5, .int .i64 0]) ∧ Fr [] W w' := fun W h => of_val (s := sm 5) (.inl (sm_size _)) of_5 W h
  have K8 := fun W (h : PV W) => muladd_is (a := 3) (b := 5) (c := 5) (r := 20) (by decide) (by decide) (by decide) (by rw [Lq_val]) W h
  have K9 := fun W => bytes_any 20 (by decide) W
  have K10 := fun W => same_yes 0 (by decide) W
  have K11 := fun W (h : PV W) => canon_yes (by32 Lq) (by32_size _) W h
  rw [decide_eq_false (by rw [rd_by32 Lq L4']; omega)] at K11
  have h31 : ¬ 9223372036854775807 < 1 + z31.size := by rw [z31_size]; decide
  have m31 := make31
  have m32 := make32z
  have v31 : ∀ (W : World) (b : Nat), b = W.heap.size → (convert 43 9 (.slice (some ⟨b, 0, none⟩) 31 31)).run Tryd.prog (W.alloc (.cells (bc (List.replicate 31 0)) 5)) = .ok (.string z31) (W.alloc (.cells (bc (List.replicate 31 0)) 5)) := fun W b hb => by rw [hb]; exact conv31 W
  have v32 : ∀ (W : World) (b : Nat), b = W.heap.size → (convert 43 9 (.slice (some ⟨b, 0, none⟩) 32 32)).run Tryd.prog (W.alloc (.cells (bc (List.replicate 32 0)) 5)) = .ok (.string z32) (W.alloc (.cells (bc (List.replicate 32 0)) 5)) := fun W b hb => by rw [hb]; exact conv32 W
  have hC1 : ((sbi (cl z32)).size : Int) = 32 := by rw [sbi_size]; rfl
  have hC2 : (sbi (cl z32)).size = 32 := sbi_size _
  have hC3 : (sbi (cl z32))[31]? = some 64 := get_of_data (by rw [sbi_data]; decide +kernel)
  have hX1 : ((by32 20).size : Int) = 32 := by rw [by32_size]; rfl
  have hX2 : (by32 20).size = 32 := by32_size _
  have hX3 : (by32 20)[0]? = some 20 := get_of_data (by rw [by32_data]; decide +kernel)
  obtain ⟨t0, t1, t2, t3, -, -, -, -, -, w3⟩ := wd_open 3 (by decide)
  obtain ⟨f0, f1, f2, f3, -, -, -, -, -, w5⟩ := wd_open 5 (by decide)
  rw [w3] at K6 K8
  rw [w5] at K7 K8
  rw [← wd_0] at K3 K4 K10
  generalize bc (List.replicate 31 0) = o31 at *
  generalize bc (List.replicate 32 0) = o32 at *
  generalize sbi (cl z32) = C at *
  generalize by32 20 = X at *
  generalize wd 20 = v20 at *
  generalize by32 Lq = SL at *
  generalize nb Lq = nL at *
  generalize z31 = y31 at *
  generalize z32 = y32 at *
  have hC4 : ∀ h : 31 < C.size, C[31] = 64 := fun h => by
    rw [getElem?_pos C 31 h] at hC3; exact Option.some.inj hC3
  have hX4 : ∀ h : 0 < X.size, X[0] = 20 := fun h => by
    rw [getElem?_pos X 0 h] at hX3; exact Option.some.inj hX3
  have H1 := hid (p := _) K1
  have H2 := hid (p := _) K2
  have H3 := hid (p := _) K3
  have H4 := hid (p := _) K4
  have H5 := hid (p := _) K5
  have H6 := hid (p := _) K6
  have H7 := hid (p := _) K7
  have H8 := hid (p := _) K8
  have H9 := hid (p := _) K9
  have H10 := hid (p := _) K10
  have H11 := hid (p := _) K11
  clear K1 K2 K3 K4 K5 K6 K7 K8 K9 K10 K11 w3 w5 L4' hP
  have F0 := hid (p := _) (Fr.refl [] w)
  go_enter Tryd.func6, Tryd.ntmps6
  go_wp2_with (first | (go_at_call 18; with_reducible refine (H1.out _).mono ?_; rintro e V1 ⟨rfl, hF⟩; have F1 := hid (p := _) (F0.out.trans0 hF); clear hF) | (go_at_call 19; with_reducible refine (H2.out _).mono ?_; rintro e V2 ⟨rfl, hF⟩; have F2 := hid (p := _) (F1.out.trans0 hF); clear hF) | (go_at_call 8; with_reducible refine (H5.out _).mono ?_; rintro e V5 ⟨rfl, hF⟩; have F5 := hid (p := _) (((F4.out.alloc _).alloc _).trans0 hF); have A5 := hid (p := _) (((A4.out.alloc _).alloc _).fr hF); clear hF) | (go_at_call 7; first | (with_reducible refine (H3.out _ (hP2.out.fr F2.out (by simp))).mono ?_; rintro e V3 ⟨rfl, hF⟩; have F3 := hid (p := _) (F2.out.trans0 hF); clear hF H3) | (with_reducible refine (H4.out _).mono ?_; rintro e V4 ⟨rfl, hF⟩; have F4 := hid (p := _) ((F3.out.alloc _).trans0 hF); have A4 := hid (p := _) ((L4.new V3 27 _ _ _ _).fr hF); clear hF H4) | (with_reducible refine (H6.out _ (hP2.out.fr (F5.out.alloc _) (by simp))).mono ?_; rintro e V6 ⟨rfl, hF⟩; have F6 := hid (p := _) ((F5.out.alloc _).trans0 hF); have A6 := hid (p := _) ((A5.out.alloc _).fr hF); clear hF H6) | (with_reducible refine (H7.out _ (hP2.out.fr ((F6.out.alloc _).alloc _) (by simp))).mono ?_; rintro e V7 ⟨rfl, hF⟩; have F7 := hid (p := _) (((F6.out.alloc _).alloc _).trans0 hF); have A7 := hid (p := _) (((A6.out.alloc _).alloc _).fr hF); have T7 := (((L4.new V6 27 _ _ _ _).alloc _).fr hF); obtain ⟨_, _, _, _, _, _, _, _, _, _⟩ := T7.all; clear hF H7)) | (go_at_call 15; with_reducible refine (H8.out _ (hP2.out.fr (F7.out.alloc _) (by simp))).mono ?_; rintro e V8 ⟨rfl, hF⟩; have F8 := hid (p := _) ((F7.out.alloc _).trans0 hF); have A8 := hid (p := _) ((A7.out.alloc _).fr hF); clear hF) | (go_at_call 17; with_reducible refine (H9.out _).mono ?_; rintro e V9 ⟨rfl, hF⟩; have F9 := hid (p := _) (F8.out.trans0 hF); have A9 := A8.out.fr hF; obtain ⟨_, _, _, _, _, _, _, _, _, _⟩ := A9.all; clear hF) | (go_at_call 12; with_reducible refine (H10.out _).mono ?_; rintro e V10 ⟨rfl, hF⟩; have F10 := hid (p := _) (F9.out.trans0 hF); clear hF) | (go_at_call 9; with_reducible refine (H11.out _ (hP2.out.fr F10.out (by simp))).mono ?_; rintro e V11 ⟨rfl, hF⟩; have F11 := hid (p := _) (F10.out.trans0 hF); clear hF))
  go_ret
  exact ⟨rfl, F11.out⟩
end Go.Proofs.YtgjpombdkgomaaaDoor

