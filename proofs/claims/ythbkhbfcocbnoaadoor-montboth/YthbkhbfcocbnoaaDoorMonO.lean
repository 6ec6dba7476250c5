/-
  MontBoth: its walk. No statement is proved here.
-/
import Derived.Test.YthbkhbfcocbnoaaDoorMonL
import Derived.Test.YthbkhbfcocbnoaaDoorEdE
namespace Go.Proofs.YthbkhbfcocbnoaaDoor
open Go.RowKit Go.Lib Go.BigFrame
set_option linter.unusedVariables false
set_option linter.unusedSimpArgs false
set_option maxRecDepth 1000000
set_option maxHeartbeats 4000000

theorem both_no (a b c : ByteArray) (h : ¬ (a.size = 32 ∧ b.size = 32 ∧ c.size = 32)) (w : World) (hP : PV w) : Calls Tryd.prog 4 #[.string a, .string b, .string c] w fun e w' => e = .returned (.bool true) ∧ Fr [] w w' := by
  have H1 := hid (p := _) (alive_any w hP)
  by_cases ha : a.size = 32
  · by_cases hb : b.size = 32
    · have hc : c.size ≠ 32 := fun e => h ⟨ha, hb, e⟩
      have h1 : (a.size : Int) = 32 := by omega
      have h2 : (b.size : Int) = 32 := by omega
      have h3 : ¬ (c.size : Int) = 32 := by omega
      have h4 : ((c.size : Int) != 32) = true := bne_iff_ne.2 h3
      clear h ha hb hc hP
      go_enter Tryd.func4, Tryd.ntmps4
      go_wp2_with (go_at_call 6; with_reducible refine H1.out.mono ?_; rintro e V ⟨rfl, hF⟩; have F := hid (p := _) hF; clear hF)
      go_ret
      exact ⟨rfl, F.out⟩
    · have h1 : (a.size : Int) = 32 := by omega
      have h3 : ¬ (b.size : Int) = 32 := by omega
      have h4 : ((b.size : Int) != 32) = true := bne_iff_ne.2 h3
      clear h ha hb hP
      go_enter Tryd.func4, Tryd.ntmps4
      go_wp2_with (go_at_call 6; with_reducible refine H1.out.mono ?_; rintro e V ⟨rfl, hF⟩; have F := hid (p := _) hF; clear hF)
      go_ret
      exact ⟨rfl, F.out⟩
  · have h3 : ¬ (a.size : Int) = 32 := by omega
    have h4 : ((a.size : Int) != 32) = true := bne_iff_ne.2 h3
    clear h ha hP
    go_enter Tryd.func4, Tryd.ntmps4
    go_wp2_with (go_at_call 6; with_reducible refine H1.out.mono ?_; rintro e V ⟨rfl, hF⟩; have F := hid (p := _) hF; clear hF)
    go_ret
    exact ⟨rfl, F.out⟩
theorem shared_v {s p : ByteArray} {v : Nat} (hs : s.size = 32) (hp : p.size = 32) (h : ladN (kn s) (kp p) = v) (h0 : v ≠ 0) (w : World) (hP : PV w) : Calls Tryd.prog 7 #[.string s, .string p] w fun e w' => e = .returned (.tuple #[.string (by32 v), .int .i64 0]) ∧ Fr [] w w' := by
  have k := shared_32 s p hs hp w hP
  rw [shv_eq, h, if_neg h0] at k
  exact k
theorem both_yes (a b c : ByteArray) (ha : a.size = 32) (hb : b.size = 32) (hc : c.size = 32) (w : World) (hP : PV w) : Calls Tryd.prog 4 #[.string a, .string b, .string c] w fun e w' => e = .returned (.bool true) ∧ Fr [] w w' := by
  have hP2 := hid (p := _) hP
  obtain ⟨n1, e1, n2, n3, e2⟩ := both_keys a b c
  have K1 := fun W hW => public_32 a ha W hW
  have K2 := fun W hW => public_32 b hb W hW
  rw [pbv_eq] at K1 K2
  have la := Ed.ladN_lt (kn a) 9
  have lb := Ed.ladN_lt (kn b) 9
  have lab := Ed.ladN_lt (kn a) (ladN (kn b) 9)
  have lca := Ed.ladN_lt (kn c) (ladN (kn a) 9)
  have K3 := fun W hW => shared_v (s := a) (p := by32 (ladN (kn b) 9)) ha (by32_size _) (by rw [kp_by32 lb]) n1 W hW
  have K4 := fun W hW => shared_v (s := b) (p := by32 (ladN (kn a) 9)) hb (by32_size _) (by rw [kp_by32 la]; exact e1) n1 W hW
  have K5 := fun W hW => shared_v (s := c) (p := by32 (ladN (kn a) (ladN (kn b) 9))) hc (by32_size _) (by rw [kp_by32 lab]) n2 W hW
  have K6 := fun W hW => shared_v (s := c) (p := by32 (ladN (kn a) 9)) hc (by32_size _) (by rw [kp_by32 la]) n3 W hW
  have K7 := fun W hW => shared_v (s := b) (p := by32 (ladN (kn c) (ladN (kn a) 9))) hb (by32_size _) (by rw [kp_by32 lca]; exact e2) n2 W hW
  have K8 := fun W hW => alive_any W hW
  generalize by32 (ladN (kn c) (ladN (kn a) (ladN (kn b) 9))) = tx at *
  generalize by32 (ladN (kn c) (ladN (kn a) 9)) = tu at *
  generalize by32 (ladN (kn a) (ladN (kn b) 9)) = ts at *
  generalize by32 (ladN (kn a) 9) = tp at *
  generalize by32 (ladN (kn b) 9) = tq at *
  have H1 := hid (p := _) K1
  have H2 := hid (p := _) K2
  have H3 := hid (p := _) K3
  have H4 := hid (p := _) K4
  have H5 := hid (p := _) K5
  have H6 := hid (p := _) K6
  have H7 := hid (p := _) K7
  have H8 := hid (p := _) K8
  have h1 : (a.size : Int) = 32 := by omega
  have h2 : (b.size : Int) = 32 := by omega
  have h3 : (c.size : Int) = 32 := by omega
  clear K1 K2 K3 K4 K5 K6 K7 K8 n1 e1 n2 n3 e2 la lb lab lca ha hb hc hP
  have F := hid (p := _) (Fr.refl [] w)
  go_enter Tryd.func4, Tryd.ntmps4
  go_wp2_with fail
  with_reducible refine (H1.out _ (hP2.out.fr F.out)).mono ?_
  rintro e V1 ⟨rfl, hF⟩
  have G := hid (p := _) (F.out.trans0 hF)
  clear hF F
  have F := G
  clear G
  go_wp2_with fail
  with_reducible refine (H2.out _ (hP2.out.fr F.out)).mono ?_
  rintro e V2 ⟨rfl, hF⟩
  have G := hid (p := _) (F.out.trans0 hF)
  clear hF F
  have F := G
  clear G
  go_wp2_with fail
  with_reducible refine (H3.out _ (hP2.out.fr F.out)).mono ?_
  rintro e V3 ⟨rfl, hF⟩
  have G := hid (p := _) (F.out.trans0 hF)
  clear hF F
  have F := G
  clear G
  go_wp2_with fail
  with_reducible refine (H4.out _ (hP2.out.fr F.out)).mono ?_
  rintro e V4 ⟨rfl, hF⟩
  have G := hid (p := _) (F.out.trans0 hF)
  clear hF F
  have F := G
  clear G
  go_wp2_with fail
  with_reducible refine (H5.out _ (hP2.out.fr F.out)).mono ?_
  rintro e V5 ⟨rfl, hF⟩
  have G := hid (p := _) (F.out.trans0 hF)
  clear hF F
  have F := G
  clear G
  go_wp2_with fail
  with_reducible refine (H6.out _ (hP2.out.fr F.out)).mono ?_
  rintro e V6 ⟨rfl, hF⟩
  have G := hid (p := _) (F.out.trans0 hF)
  clear hF F
  have F := G
  clear G
  go_wp2_with fail
  with_reducible refine (H7.out _ (hP2.out.fr F.out)).mono ?_
  rintro e V7 ⟨rfl, hF⟩
  have G := hid (p := _) (F.out.trans0 hF)
  clear hF F
  have F := G
  clear G
  go_wp2_with fail
  with_reducible refine (H8.out _ (hP2.out.fr F.out)).mono ?_
  rintro e V8 ⟨rfl, hF⟩
  have G := hid (p := _) (F.out.trans0 hF)
  clear hF F
  have F := G
  clear G
  go_wp2_with fail
  go_ret
  exact ⟨rfl, F.out⟩
theorem both_any (a b c : ByteArray) (w : World) (hP : PV w) : Calls Tryd.prog 4 #[.string a, .string b, .string c] w fun e w' => e = .returned (.bool true) ∧ Fr [] w w' := by
  by_cases h : a.size = 32 ∧ b.size = 32 ∧ c.size = 32
  · exact both_yes a b c h.1 h.2.1 h.2.2 w hP
  · exact both_no a b c h w hP
end Go.Proofs.YthbkhbfcocbnoaaDoor
