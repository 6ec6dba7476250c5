/-
  The law's alive. No statement is proved here.
-/
import Derived.Test.YthbkhbfcocbnoaaDoorMonK
namespace Go.Proofs.YthbkhbfcocbnoaaDoor
open Go.RowKit Go.Lib Go.BigFrame
set_option linter.unusedVariables false
set_option linter.unusedSimpArgs false
set_option maxRecDepth 1000000
set_option maxHeartbeats 4000000

theorem sc_size (c : Nat) : (sc c).size = 32 := by
  unfold sc
  rw [ByteArray.size_append, show z31.size = 31 from by decide +kernel]
  rfl
theorem kn_97 : kn (sc 97) = 43874346312576839672212443538448152585028080127215369968075725190498334277632 := by decide +kernel
theorem kn_98 : kn (sc 98) = 44326659161160106060585767698638339725079916004815528421354856378029244940288 := by decide +kernel
theorem rd_sc0 : rd (sc 0) 32 = 0 := by decide +kernel
theorem kp_0 : kp (sc 0) = 0 := by unfold kp; rw [rd_sc0, Nat.zero_mod]
theorem pbv_97 : pbv (sc 97) = 16572691432107831290236438983220704641597839740724002177525024145463529258009 := by rw [pbv_eq, kn_97, lad_a9]
theorem pbv_98 : pbv (sc 98) = 3873599628253772194686510826457445042224408612751331329672488392857300769615 := by rw [pbv_eq, kn_98, lad_b9]
theorem shv_ab : shv (sc 97) (by32 (pbv (sc 98))) = 45863505615179444264250632754092809270636439140959747961807530266934234225689 := by rw [shv_eq, kp_by32 (pbv_lt _), kn_97, pbv_98, lad_ab]
theorem shv_ba : shv (sc 98) (by32 (pbv (sc 97))) = 45863505615179444264250632754092809270636439140959747961807530266934234225689 := by rw [shv_eq, kp_by32 (pbv_lt _), kn_98, pbv_97, lad_ba]
theorem shv_a0 : shv (sc 97) (sc 0) = 0 := by rw [shv_eq, kn_97, kp_0, lad_a0]
def short : ByteArray := ⟨#[115, 104, 111, 114, 116]⟩
theorem alive_any (w : World) (hP : PV w) : Calls Tryd.prog 6 #[] w fun e w' => e = .returned (.bool true) ∧ Fr [] w w' := by
  have hP2 := hid (p := _) hP
  have K1 := secret_97
  have K2 := secret_98
  have K3 := secret_0
  have K4 := fun W hW => public_32 (sc 97) (sc_size _) W hW
  have K5 := fun W hW => public_32 (sc 98) (sc_size _) W hW
  have K6 := fun W hW => shared_32 (sc 97) (by32 (pbv (sc 98))) (sc_size _) (by32_size _) W hW
  have K7 := fun W hW => shared_32 (sc 98) (by32 (pbv (sc 97))) (sc_size _) (by32_size _) W hW
  have K8 := fun W hW => shared_32 (sc 97) (sc 0) (sc_size _) (sc_size _) W hW
  have K9 : ∀ W : World, Calls Tryd.prog 9 #[.string ⟨#[115, 104, 111, 114, 116]⟩] W fun e w' => e = .returned (.tuple #[.string ByteArray.empty, .int .i64 2]) ∧ Fr [] W w' := fun W => public_no short (by decide) W
  rw [shv_ab, if_neg (by decide)] at K6
  rw [shv_ba, if_neg (by decide)] at K7
  rw [shv_a0, if_pos rfl] at K8
  have hz := by32_size 45863505615179444264250632754092809270636439140959747961807530266934234225689
  generalize by32 45863505615179444264250632754092809270636439140959747961807530266934234225689 = t at *
  generalize by32 (pbv (sc 98)) = tB at *
  generalize by32 (pbv (sc 97)) = tA at *
  generalize sc 97 = sA at *
  generalize sc 98 = sB at *
  generalize sc 0 = sZ at *
  have H1 := hid (p := _) K1
  have H2 := hid (p := _) K2
  have H3 := hid (p := _) K3
  have H4 := hid (p := _) K4
  have H5 := hid (p := _) K5
  have H6 := hid (p := _) K6
  have H7 := hid (p := _) K7
  have H8 := hid (p := _) K8
  have H9 := hid (p := _) K9
  have hzi : (t.size : Int) = 32 := by omega
  clear K1 K2 K3 K4 K5 K6 K7 K8 K9 hP hz
  have F := hid (p := _) (Fr.refl [] w)
  go_enter Tryd.func6, Tryd.ntmps6
  go_wp2_with fail
  with_reducible refine (H1.out _).mono ?_
  rintro e V0 ⟨rfl, hF⟩
  have G := hid (p := _) (F.out.trans0 hF)
  clear hF F
  have F := G
  clear G
  go_wp2_with fail
  with_reducible refine (H4.out _ (hP2.out.fr F.out)).mono ?_
  rintro e V1 ⟨rfl, hF⟩
  have G := hid (p := _) (F.out.trans0 hF)
  clear hF F
  have F := G
  clear G
  go_wp2_with fail
  with_reducible refine (H2.out _).mono ?_
  rintro e V2 ⟨rfl, hF⟩
  have G := hid (p := _) (F.out.trans0 hF)
  clear hF F
  have F := G
  clear G
  go_wp2_with fail
  with_reducible refine (H5.out _ (hP2.out.fr F.out)).mono ?_
  rintro e V3 ⟨rfl, hF⟩
  have G := hid (p := _) (F.out.trans0 hF)
  clear hF F
  have F := G
  clear G
  go_wp2_with fail
  with_reducible refine (H1.out _).mono ?_
  rintro e V4 ⟨rfl, hF⟩
  have G := hid (p := _) (F.out.trans0 hF)
  clear hF F
  have F := G
  clear G
  go_wp2_with fail
  with_reducible refine (H6.out _ (hP2.out.fr F.out)).mono ?_
  rintro e V5 ⟨rfl, hF⟩
  have G := hid (p := _) (F.out.trans0 hF)
  clear hF F
  have F := G
  clear G
  go_wp2_with fail
  with_reducible refine (H2.out _).mono ?_
  rintro e V6 ⟨rfl, hF⟩
  have G := hid (p := _) (F.out.trans0 hF)
  clear hF F
  have F := G
  clear G
  go_wp2_with fail
  with_reducible refine (H7.out _ (hP2.out.fr F.out)).mono ?_
  rintro e V7 ⟨rfl, hF⟩
  have G := hid (p := _) (F.out.trans0 hF)
  clear hF F
  have F := G
  clear G
  go_wp2_with fail
  with_reducible refine (H1.out _).mono ?_
  rintro e V8 ⟨rfl, hF⟩
  have G := hid (p := _) (F.out.trans0 hF)
  clear hF F
  have F := G
  clear G
  go_wp2_with fail
  with_reducible refine (H3.out _).mono ?_
  rintro e V9 ⟨rfl, hF⟩
  have G := hid (p := _) (F.out.trans0 hF)
  clear hF F
  have F := G
  clear G
  go_wp2_with fail
  with_reducible refine (H8.out _ (hP2.out.fr F.out)).mono ?_
  rintro e V10 ⟨rfl, hF⟩
  have G := hid (p := _) (F.out.trans0 hF)
  clear hF F
  have F := G
  clear G
  go_wp2_with fail
  with_reducible refine (H9.out _).mono ?_
  rintro e V11 ⟨rfl, hF⟩
  have G := hid (p := _) (F.out.trans0 hF)
  clear hF F
  have F := G
  clear G
  go_wp2_with fail
  go_ret
  exact ⟨rfl, F.out⟩
end Go.Proofs.YthbkhbfcocbnoaaDoor
