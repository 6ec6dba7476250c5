/-
  MontKeys: its walk. No statement is proved here.
-/
import Derived.Test.YthbkhbfcocbnoaaDoorMonM
namespace Go.Proofs.YthbkhbfcocbnoaaDoor
open Go.RowKit Go.Lib Go.BigFrame
set_option linter.unusedVariables false
set_option linter.unusedSimpArgs false
set_option maxRecDepth 1000000
set_option maxHeartbeats 4000000

theorem keys_no (k p : ByteArray) (y : Nat) (h : ¬ (k.size = 32 ∧ p.size = 32)) (w : World) (hP : PV w) : Calls Tryd.prog 5 #[.string k, .string p, .int .u8 (y : Nat)] w fun e w' => e = .returned (.bool true) ∧ Fr [] w w' := by
  have H1 := hid (p := _) (alive_any w hP)
  by_cases hk : k.size = 32
  · have hp : p.size ≠ 32 := fun e => h ⟨hk, e⟩
    have hki : (k.size : Int) = 32 := by omega
    have hpi : ¬ (p.size : Int) = 32 := by omega
    have hpb : ((p.size : Int) != 32) = true := bne_iff_ne.2 hpi
    clear h hk hp hP
    go_enter Tryd.func5, Tryd.ntmps5
    go_wp2_with (go_at_call 6; with_reducible refine H1.out.mono ?_; rintro e V ⟨rfl, hF⟩; have F := hid (p := _) hF; clear hF)
    go_ret
    exact ⟨rfl, F.out⟩
  · have hki : ¬ (k.size : Int) = 32 := by omega
    have hkb : ((k.size : Int) != 32) = true := bne_iff_ne.2 hki
    clear h hk hP
    go_enter Tryd.func5, Tryd.ntmps5
    go_wp2_with (go_at_call 6; with_reducible refine H1.out.mono ?_; rintro e V ⟨rfl, hF⟩; have F := hid (p := _) hF; clear hF)
    go_ret
    exact ⟨rfl, F.out⟩
theorem keys_yes (k p : ByteArray) (y : Nat) (hy : y < 256) (hk : k.size = 32) (hp : p.size = 32) (w : World) (hP : PV w) : Calls Tryd.prog 5 #[.string k, .string p, .int .u8 (y : Nat)] w fun e w' => e = .returned (.bool true) ∧ Fr [] w w' := by
  have hP2 := hid (p := _) hP
  have K1 := fun W hW => shared_tell k p hk hp W hW
  have K2 := fun W hW => shared_tell k (sbi (f1 p)) hk (sbi_size _) W hW
  have K3 := fun W hW => shared_tell k (by32 (kp p)) hk (by32_size _) W hW
  have K4 := fun W hW => shared_tell (sbi (g1 k y)) p (sbi_size _) hp W hW
  have K5 := fun W => rof_any (sbi (f2 p)) (sbi_size _) W
  have K6 := fun W => rbytes_any (kp p) (lt4 (kp_lt p)) W
  have K7 := fun W hW => alive_any W hW
  rw [kp_f1] at K2
  rw [kp_by32 (kp_lt p)] at K3
  rw [kn_g1 k y hy] at K4
  rw [of_f2] at K5
  obtain ⟨t, e, ht⟩ := tell_open (ladN (kn k) (kp p))
  rw [ht] at K1 K2 K3 K4
  generalize by32 (kp p) = tb at *
  generalize nd (kp p) = nv at *
  have H1 := hid (p := _) K1
  have H2 := hid (p := _) K2
  have H3 := hid (p := _) K3
  have H4 := hid (p := _) K4
  have H5 := hid (p := _) K5
  have H6 := hid (p := _) K6
  have H7 := hid (p := _) K7
  have HCk := hid (p := _) (fun W => conv_in k hk W)
  have HCp := hid (p := _) (fun W => conv_in p hp W)
  have hki : (k.size : Int) = 32 := by omega
  have hpi : (p.size : Int) = 32 := by omega
  clear K1 K2 K3 K4 K5 K6 K7 ht hP hy hk hp
  have F := hid (p := _) (Fr.refl [] w)
  go_enter Tryd.func5, Tryd.ntmps5
  go_wp2_with fail
  with_reducible refine (H1.out _ (hP2.out.fr F.out)).mono ?_
  rintro e1 V1 ⟨rfl, hF⟩
  have F1 := hid (p := _) (F.out.trans0 hF)
  clear hF F H1
  obtain ⟨cap, W, hcv, FW, B⟩ := HCp.out V1
  have B1 := B.set 31 (by decide) (bits .xor .u8 ((byt p 31 : Nat) : Int) 128)
  have hback := B1.back cap
  rw [show (fun j => if j = 31 then bits .xor .u8 ((byt p 31 : Nat) : Int) 128 else ((byt p j : Nat) : Int)) = f1 p from rfl] at hback
  obtain ⟨c31, g31⟩ := B.2 31 (by decide)
  have hlW := B.1
  have F2 := hid (p := _) ((F1.out.trans0 FW).setCell (p := ⟨V1.heap.size, 31, none⟩) (.inr F1.out.size) (.int .u8 (bits .xor .u8 ((byt p 31 : Nat) : Int) 128)))
  have HB1 := hid (p := _) B1
  have hV1 := hid (p := _) F1.out.size
  clear FW B B1
  generalize V1.heap.size = pb at *
  go_wp2_with fail
  with_reducible refine (H2.out _ (hP2.out.fr F2.out)).mono ?_
  rintro e2 V2 ⟨rfl, hF⟩
  have F3 := hid (p := _) (F2.out.trans0 hF)
  have B2 := HB1.out.fr hF
  clear hF hcv hback c31 g31 hlW HB1 F2 H2
  have B3 := B2.set 31 (by decide) (bits .and .u8 (bits .xor .u8 ((byt p 31 : Nat) : Int) 128) 127)
  have hback := B3.back cap
  rw [show (fun j => if j = 31 then bits .and .u8 (bits .xor .u8 ((byt p 31 : Nat) : Int) 128) 127 else if j = 31 then bits .xor .u8 ((byt p 31 : Nat) : Int) 128 else ((byt p j : Nat) : Int)) = f2 p from rfl] at hback
  obtain ⟨c31, g31⟩ := B2.2 31 (by decide)
  have hlW := B2.1
  simp only [if_true] at c31
  have F4 := hid (p := _) (F3.out.setCell (p := ⟨pb, 31, none⟩) (.inr hV1.out) (.int .u8 (bits .and .u8 (bits .xor .u8 ((byt p 31 : Nat) : Int) 128) 127)))
  clear B2 B3
  go_wp2_with fail
  with_reducible refine (H5.out _).mono ?_
  rintro e3 V3 ⟨rfl, hF⟩
  have F5 := hid (p := _) (F4.out.trans0 hF)
  clear hF hback c31 g31 hlW F4 H5
  go_wp2_with fail
  with_reducible refine (H6.out _).mono ?_
  rintro e4 V4 ⟨rfl, hF⟩
  have F6 := hid (p := _) (F5.out.trans0 hF)
  clear hF F5 H6
  go_wp2_with fail
  with_reducible refine (H3.out _ (hP2.out.fr F6.out)).mono ?_
  rintro e5 V5 ⟨rfl, hF⟩
  have F7 := hid (p := _) (F6.out.trans0 hF)
  clear hF F6 H3
  obtain ⟨cap2, W2, hcv, FW, B⟩ := HCk.out V5
  have B1 := B.set 0 (by decide) (bits .xor .u8 ((byt k 0 : Nat) : Int) (bits .and .u8 ((y : Nat) : Int) 7))
  have B2 := B1.set 31 (by decide) (bits .xor .u8 ((byt k 31 : Nat) : Int) (bits .and .u8 ((y : Nat) : Int) 192))
  have hback := B2.back cap2
  rw [show (fun j => if j = 31 then bits .xor .u8 ((byt k 31 : Nat) : Int) (bits .and .u8 ((y : Nat) : Int) 192) else if j = 0 then bits .xor .u8 ((byt k 0 : Nat) : Int) (bits .and .u8 ((y : Nat) : Int) 7) else ((byt k j : Nat) : Int)) = g1 k y from rfl] at hback
  obtain ⟨c0, g0⟩ := B.2 0 (by decide)
  obtain ⟨c31, g31⟩ := B.2 31 (by decide)
  have hlW := B.1
  have F8 := hid (p := _) (((F7.out.trans0 FW).setCell (p := ⟨V5.heap.size, 0, none⟩) (.inr F7.out.size) (.int .u8 (bits .xor .u8 ((byt k 0 : Nat) : Int) (bits .and .u8 ((y : Nat) : Int) 7)))).setCell (p := ⟨V5.heap.size, 31, none⟩) (.inr F7.out.size) (.int .u8 (bits .xor .u8 ((byt k 31 : Nat) : Int) (bits .and .u8 ((y : Nat) : Int) 192))))
  clear FW B B1 B2
  generalize V5.heap.size = kb at *
  go_wp2_with fail
  with_reducible refine (H4.out _ (hP2.out.fr F8.out)).mono ?_
  rintro e6 V6 ⟨rfl, hF⟩
  have F9 := hid (p := _) (F8.out.trans0 hF)
  clear hF hback c31 g31 c0 g0 hlW hcv F8 H4
  go_wp2_with fail
  with_reducible refine (H7.out _ (hP2.out.fr F9.out)).mono ?_
  rintro e7 V7 ⟨rfl, hF⟩
  have F10 := hid (p := _) (F9.out.trans0 hF)
  clear hF
  go_wp2_with fail
  go_ret
  exact ⟨rfl, F10.out⟩
theorem keys_any (k p : ByteArray) (y : Nat) (hy : y < 256) (w : World) (hP : PV w) : Calls Tryd.prog 5 #[.string k, .string p, .int .u8 (y : Nat)] w fun e w' => e = .returned (.bool true) ∧ Fr [] w w' := by
  by_cases h : k.size = 32 ∧ p.size = 32
  · exact keys_yes k p y hy h.1 h.2 w hP
  · exact keys_no k p y h w hP
end Go.Proofs.YthbkhbfcocbnoaaDoor
