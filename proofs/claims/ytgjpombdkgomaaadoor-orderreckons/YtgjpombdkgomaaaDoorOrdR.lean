/-
  The document's Clamp (pharosref07); the law's is. No statement is proved here.
-/
import Derived.Test.YtgjpombdkgomaaaDoorOrdQ
namespace Go.Proofs.YtgjpombdkgomaaaDoor
open Go.RowKit Go.Lib Go.BigFrame
set_option linter.unusedVariables false
set_option linter.unusedSimpArgs false
set_option maxRecDepth 1000000
set_option maxHeartbeats 4000000

theorem rclamp_any (s : ByteArray) (hs : s.size = 32) (w : World) : Calls Tryd.prog 11 #[.string s] w fun e w' => e = .returned (.string (sbi (cl s))) ∧ Fr [] w w' := by
  obtain ⟨cap, W, hcv, F, B⟩ := conv_in s hs w
  have B1 := B.set 0 (by decide) (bits .andNot .u8 ((byt s 0 : Nat) : Int) 7)
  have B3 := B1.set 31 (by decide) (bits .or .u8 (bits .andNot .u8 ((byt s 31 : Nat) : Int) 128) 64)
  have hback := B3.back cap
  have e : (fun j => if j = 31 then bits .or .u8 (bits .andNot .u8 ((byt s 31 : Nat) : Int) 128) 64 else if j = 0 then bits .andNot .u8 ((byt s 0 : Nat) : Int) 7 else ((byt s j : Nat) : Int)) = cl s := by
    funext j
    unfold cl
    rfl
  rw [e] at hback
  obtain ⟨c0, g0⟩ := B.2 0 (by decide)
  obtain ⟨c31, g31⟩ := B.2 31 (by decide)
  have hl := B.1
  have HF := hid (p := _) F
  clear e B B1 B3 F hs
  generalize sbi (cl s) = t at *
  go_enter Tryd.func11, Tryd.ntmps11
  go_wp2_with fail
  go_ret
  exact ⟨rfl, (HF.out.setCell (.inr (Nat.le_refl _)) _).setCell (.inr (Nat.le_refl _)) _⟩
end Go.Proofs.YtgjpombdkgomaaaDoor
