/-
  The document's Shared and Public (pharosref08); MontShared's walk. No statement is proved here.
-/
import Derived.Test.YthbkhbfcocbnoaaDoorDocD
namespace Go.Proofs.YthbkhbfcocbnoaaDoor
open Go.RowKit Go.Lib Go.BigFrame
set_option linter.unusedVariables false
set_option linter.unusedSimpArgs false
set_option maxRecDepth 1000000
set_option maxHeartbeats 4000000

theorem rshared_no (s p : ByteArray) (h : ¬ (s.size = 32 ∧ p.size = 32)) (w : World) : Calls Tryd.prog 8 #[.string s, .string p] w fun e w' => e = .returned (.tuple #[.string ByteArray.empty, .int .i64 2]) ∧ Fr [] w w' := by
  by_cases hs : s.size = 32
  · have hp : p.size ≠ 32 := fun e => h ⟨hs, e⟩
    have h1 : (s.size : Int) = 32 := by omega
    have h2 : ¬ (p.size : Int) = 32 := by omega
    have h3 : ((p.size : Int) != 32) = true := bne_iff_ne.2 h2
    clear h hs hp
    go_enter Tryd.func8, Tryd.ntmps8
    go_wp2_with fail
    go_ret2
    exact ⟨rfl, Fr.refl [] w⟩
  · have h2 : ¬ (s.size : Int) = 32 := by omega
    have h3 : ((s.size : Int) != 32) = true := bne_iff_ne.2 h2
    clear h hs
    go_enter Tryd.func8, Tryd.ntmps8
    go_wp2_with fail
    go_ret2
    exact ⟨rfl, Fr.refl [] w⟩
theorem by32_inj {v u : Nat} (hv : v < 115792089237316195423570985008687907853269984665640564039457584007913129639936) (hu : u < 115792089237316195423570985008687907853269984665640564039457584007913129639936) (h : by32 v = by32 u) : v = u := by
  rw [← rd_by32 v hv, ← rd_by32 u hu, h]
theorem bytes_ne {a b : ByteArray} (h : a ≠ b) : (a.toList == b.toList) = false := by
  apply beq_eq_false_iff_ne.2
  intro e
  rw [ByteArray.toList_eq, ByteArray.toList_eq] at e
  exact h (ByteArray.ext (Array.toList_inj.1 e))
theorem rshared_32 (s p : ByteArray) (hs : s.size = 32) (hp : p.size = 32) (w : World) : Calls Tryd.prog 8 #[.string s, .string p] w fun e w' => e = .returned (tell (ladN (kn s) (kp p))) ∧ Fr [] w w' := by
  have K1 := fun W => rtimes_any s p hs hp W
  rw [lad_eq, show rd (sbi (cl s)) 32 = kn s from rfl] at K1
  have hv : ladN (kn s) (kp p) < Nt.P := ml_lt _ _
  generalize ladN (kn s) (kp p) = v at *
  have hmk := make32
  have hcv := fun V : World => conv_rb (show RB (V.alloc (.cells (bc (vbl 0)) 5)) V.heap.size 5 (vbl 0) from (MapKept.heap_alloc V _).1)
  have h1 : (s.size : Int) = 32 := by omega
  have h2 : (p.size : Int) = 32 := by omega
  unfold tell
  have H1 := hid (p := _) K1
  clear K1 hs hp
  by_cases h0 : v = 0
  · rw [if_pos h0]
    subst h0
    clear hv
    generalize by32 0 = t0 at *
    go_enter Tryd.func8, Tryd.ntmps8
    go_wp2_with (go_at_call 20; with_reducible refine (H1.out _).mono ?_; rintro e V ⟨rfl, hF⟩; have F := hid (p := _) (hF.alloc (.cells (bc (vbl 0)) 5)); clear hF)
    go_ret2
    exact ⟨rfl, F.out⟩
  · rw [if_neg h0]
    have hne := bytes_ne (fun e => h0 (by32_inj (lt4 hv) (lt4 zero_lt) e) : by32 v ≠ by32 0)
    clear hv h0
    generalize by32 0 = t0 at *
    generalize by32 v = tv at *
    go_enter Tryd.func8, Tryd.ntmps8
    go_wp2_with (go_at_call 20; with_reducible refine (H1.out _).mono ?_; rintro e V ⟨rfl, hF⟩; have F := hid (p := _) (hF.alloc (.cells (bc (vbl 0)) 5)); clear hF)
    go_ret2
    exact ⟨rfl, F.out⟩
theorem rpublic_no (s : ByteArray) (hs : s.size ≠ 32) (w : World) : Calls Tryd.prog 10 #[.string s] w fun e w' => e = .returned (.tuple #[.string ByteArray.empty, .int .i64 2]) ∧ Fr [] w w' := by
  have h2 : ¬ (s.size : Int) = 32 := by omega
  have h3 : ((s.size : Int) != 32) = true := bne_iff_ne.2 h2
  clear hs
  go_enter Tryd.func10, Tryd.ntmps10
  go_wp2_with fail
  go_ret2
  exact ⟨rfl, Fr.refl [] w⟩
def n9 : ByteArray := (⟨#[9]⟩ : ByteArray) ++ z31
theorem n9_size : n9.size = 32 := by decide +kernel
theorem rd_n9 : rd n9 32 = 9 := by decide +kernel
theorem kp_n9 : kp n9 = 9 := by
  unfold kp
  rw [rd_n9]
  exact Nat.mod_eq_of_lt nine_lt
theorem cvz0 (V : World) : (convert 32 9 (.slice (some ⟨V.heap.size, 0, none⟩) 31 31)).run Tryd.prog (V.alloc (.cells (bc (List.replicate 31 0)) 5)) = .ok (.string z31) (V.alloc (.cells (bc (List.replicate 31 0)) 5)) :=
  conv_l (show RB _ V.heap.size 5 (List.replicate 31 0) from (MapKept.heap_alloc V _).1) 31 31 (by simp)
theorem rpublic_32 (s : ByteArray) (hs : s.size = 32) (w : World) : Calls Tryd.prog 10 #[.string s] w fun e w' => e = .returned (.tuple #[.string (by32 (pbv s)), .int .i64 0]) ∧ Fr [] w w' := by
  have K1 : ∀ W : World, Calls Tryd.prog 20 #[.string s, .string ((⟨#[9]⟩ : ByteArray) ++ z31)] W fun e w' => e = .returned (.string (by32 (pbv s))) ∧ Fr [] W w' := fun W => by
    have := rtimes_any s n9 hs n9_size W
    rw [kp_n9] at this
    exact this
  have h1 := make31
  have h2 := cvz0
  have hs1 : z31.size = 31 := by decide +kernel
  have hsi : (s.size : Int) = 32 := by omega
  generalize by32 (pbv s) = t at *
  generalize z31 = z at *
  generalize bc (List.replicate 31 0) = zb at *
  have H1 := hid (p := _) K1
  clear K1 hs
  go_enter Tryd.func10, Tryd.ntmps10
  go_wp2_with (go_at_call 20; with_reducible refine (H1.out _).mono ?_; rintro e V ⟨rfl, hF⟩; have F := hid (p := _) (((Fr.refl [] w).alloc _).trans0 hF); clear hF)
  go_ret2
  exact ⟨rfl, F.out⟩
theorem two_shared (s p : ByteArray) : ∃ (t : ByteArray) (e : Int), (∀ W, PV W → Calls Tryd.prog 7 #[.string s, .string p] W fun e' w' => e' = .returned (.tuple #[.string t, .int .i64 e]) ∧ Fr [] W w') ∧ ∀ W : World, Calls Tryd.prog 8 #[.string s, .string p] W fun e' w' => e' = .returned (.tuple #[.string t, .int .i64 e]) ∧ Fr [] W w' := by
  by_cases h : s.size = 32 ∧ p.size = 32
  · obtain ⟨t, e, ht⟩ := tell_open (ladN (kn s) (kp p))
    refine ⟨t, e, fun W hW => ?_, fun W => ?_⟩
    · rw [← ht]; exact shared_tell s p h.1 h.2 W hW
    · rw [← ht]; exact rshared_32 s p h.1 h.2 W
  · refine ⟨ByteArray.empty, 2, fun W hW => ?_, fun W => rshared_no s p h W⟩
    by_cases hs : s.size = 32
    · exact shared_p s p hs (fun e => h ⟨hs, e⟩) W
    · exact shared_s s p hs W
theorem two_public (s : ByteArray) : ∃ (t : ByteArray) (e : Int), (∀ W, PV W → Calls Tryd.prog 9 #[.string s] W fun e' w' => e' = .returned (.tuple #[.string t, .int .i64 e]) ∧ Fr [] W w') ∧ ∀ W : World, Calls Tryd.prog 10 #[.string s] W fun e' w' => e' = .returned (.tuple #[.string t, .int .i64 e]) ∧ Fr [] W w' := by
  by_cases h : s.size = 32
  · exact ⟨_, _, fun W hW => public_32 s h W hW, fun W => rpublic_32 s h W⟩
  · exact ⟨_, _, fun W hW => public_no s h W, fun W => rpublic_no s h W⟩
theorem shared_any (s p : ByteArray) (w : World) (hP : PV w) : Calls Tryd.prog 3 #[.string s, .string p] w fun e w' => e = .returned (.bool true) ∧ Fr [] w w' := by
  have hP2 := hid (p := _) hP
  obtain ⟨t1, e1, K7, K8⟩ := two_shared s p
  obtain ⟨t2, e2, K9, K10⟩ := two_public s
  have H7 := hid (p := _) K7
  have H8 := hid (p := _) K8
  have H9 := hid (p := _) K9
  have H10 := hid (p := _) K10
  have H6 := hid (p := _) (fun W hW => alive_any W hW)
  clear K7 K8 K9 K10 hP
  have F0 := hid (p := _) (Fr.refl [] w)
  by_cases hs : (4096 : Int) < (s.size : Int)
  · go_enter Tryd.func3, Tryd.ntmps3
    go_wp2_with (go_at_call 6; with_reducible refine (H6.out _ (hP2.out.fr F0.out)).mono ?_; rintro e V ⟨rfl, hF⟩; have F := hid (p := _) hF; clear hF)
    go_ret
    exact ⟨rfl, F.out⟩
  · by_cases hp : (4096 : Int) < (p.size : Int)
    · go_enter Tryd.func3, Tryd.ntmps3
      go_wp2_with (go_at_call 6; with_reducible refine (H6.out _ (hP2.out.fr F0.out)).mono ?_; rintro e V ⟨rfl, hF⟩; have F := hid (p := _) hF; clear hF)
      go_ret
      exact ⟨rfl, F.out⟩
    · go_enter Tryd.func3, Tryd.ntmps3
      go_wp2_with fail
      with_reducible refine (H7.out _ (hP2.out.fr F0.out)).mono ?_
      rintro e V1 ⟨rfl, hF⟩
      have F1 := hid (p := _) (F0.out.trans0 hF)
      clear hF
      go_wp2_with fail
      with_reducible refine (H8.out _).mono ?_
      rintro e V2 ⟨rfl, hF⟩
      have F2 := hid (p := _) (F1.out.trans0 hF)
      clear hF
      go_wp2_with fail
      with_reducible refine (H9.out _ (hP2.out.fr F2.out)).mono ?_
      rintro e V3 ⟨rfl, hF⟩
      have F3 := hid (p := _) (F2.out.trans0 hF)
      clear hF
      go_wp2_with fail
      with_reducible refine (H10.out _).mono ?_
      rintro e V4 ⟨rfl, hF⟩
      have F4 := hid (p := _) (F3.out.trans0 hF)
      clear hF
      go_wp2_with fail
      with_reducible refine (H6.out _ (hP2.out.fr F4.out)).mono ?_
      rintro e V5 ⟨rfl, hF⟩
      have F5 := hid (p := _) (F4.out.trans0 hF)
      clear hF
      go_wp2_with fail
      go_ret
      exact ⟨rfl, F5.out⟩
end Go.Proofs.YthbkhbfcocbnoaaDoor
