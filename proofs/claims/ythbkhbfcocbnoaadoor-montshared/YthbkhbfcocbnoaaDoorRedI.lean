/-
  The document's numbers: Inv, Root. No statement is proved here.
-/
import Derived.Test.YthbkhbfcocbnoaaDoorRedH
namespace Go.Proofs.YthbkhbfcocbnoaaDoor
open Go.RowKit Go.Lib Go.BigFrame
set_option linter.unusedVariables false
set_option linter.unusedSimpArgs false
set_option maxRecDepth 1000000
set_option maxHeartbeats 4000000

def tInv : ByteArray := ⟨#[48, 49, 48, 49, 49]⟩
def tRt : ByteArray := ⟨#[49, 48]⟩
def tI : ByteArray := ⟨#[48, 49, 49]⟩
theorem px_step (a : Nat) (s : ByteArray) (n : Nat) : px a s (n + 1) = pb a (px a s n) (bt s n) := by rw [px]
theorem px_inv_gen (a n : Nat) (s : ByteArray) (x : Nat) (hx : px a s n = x) (h0 : bt s (n) = false) (h1 : bt s (n + 1) = true) (h2 : bt s (n + 1 + 1) = false) (h3 : bt s (n + 1 + 1 + 1) = true) (h4 : bt s (n + 1 + 1 + 1 + 1) = true) : px a s (n + 5) = [false, true, false, true, true].foldl (pb a) x := by
  rw [show n + 5 = n + 1 + 1 + 1 + 1 + 1 from rfl, px_step, px_step, px_step, px_step, px_step, hx, h0, h1, h2, h3, h4]; rfl
theorem px_rt_gen (a n : Nat) (s : ByteArray) (x : Nat) (hx : px a s n = x) (h0 : bt s (n) = true) (h1 : bt s (n + 1) = false) : px a s (n + 2) = [true, false].foldl (pb a) x := by
  rw [show n + 2 = n + 1 + 1 from rfl, px_step, px_step, hx, h0, h1]; rfl
theorem px_i_gen (a n : Nat) (s : ByteArray) (x : Nat) (hx : px a s n = x) (h0 : bt s (n) = false) (h1 : bt s (n + 1) = true) (h2 : bt s (n + 1 + 1) = true) : px a s (n + 3) = [false, true, true].foldl (pb a) x := by
  rw [show n + 3 = n + 1 + 1 + 1 from rfl, px_step, px_step, px_step, hx, h0, h1, h2]; rfl
theorem bt_tInv0 : bt tInv (250) = false := by decide +kernel
theorem bt_tInv1 : bt tInv (250 + 1) = true := by decide +kernel
theorem bt_tInv2 : bt tInv (250 + 1 + 1) = false := by decide +kernel
theorem bt_tInv3 : bt tInv (250 + 1 + 1 + 1) = true := by decide +kernel
theorem bt_tInv4 : bt tInv (250 + 1 + 1 + 1 + 1) = true := by decide +kernel
theorem bt_tRt0 : bt tRt (250) = true := by decide +kernel
theorem bt_tRt1 : bt tRt (250 + 1) = false := by decide +kernel
theorem bt_tI0 : bt tI (250) = false := by decide +kernel
theorem bt_tI1 : bt tI (250 + 1) = true := by decide +kernel
theorem bt_tI2 : bt tI (250 + 1 + 1) = true := by decide +kernel
theorem px_inv (a : Nat) : px a tInv (250 + tInv.size) = iv a := by
  rw [show tInv.size = 5 from rfl, px_inv_gen a 250 tInv (pw a 250) (px_ones a tInv 250 (Nat.le_refl _)) bt_tInv0 bt_tInv1 bt_tInv2 bt_tInv3 bt_tInv4]
  exact inv_pws a
theorem px_rt (a : Nat) : px a tRt (250 + tRt.size) = Nt.c1 a := by
  rw [show tRt.size = 2 from rfl, px_rt_gen a 250 tRt (pw a 250) (px_ones a tRt 250 (Nat.le_refl _)) bt_tRt0 bt_tRt1]
  exact root_pws a
theorem i_pows (a x : Nat) : [false, true, true].foldl (pb a) (a ^ x % Nt.P) = a ^ (2 * (2 * (2 * x + 0) + 1) + 1) % Nt.P := by
  simp only [List.foldl, pb_pow, cond_true, cond_false]
theorem i_exp : 2 * (2 * (2 * ex 250 + 0) + 1) + 1 = 2 * Nt.K + 1 := by rw [Nt.K_val, ex_def]
theorem i_pm (a : Nat) : a ^ (2 * Nt.K + 1) % Nt.P = Nt.pm Nt.P 255 a (2 * Nt.K + 1) := (Nt.pm_eq Nt.P 255 a _ (by rw [Nt.K_val]; decide +kernel)).symm
theorem i_gen (t : Nat) (ht : t = 2) : t ^ (2 * Nt.K + 1) % Nt.P = Nt.I := by
  rw [i_pm, ht, Nt.P_val, Nt.K_val, Nt.I_val]; decide +kernel
theorem px_i (t : Nat) (ht : t = 2) : px t tI (250 + tI.size) = Nt.I := by
  rw [show tI.size = 3 from rfl, px_i_gen t 250 tI (pw t 250) (px_ones t tI 250 (Nat.le_refl _)) bt_tI0 bt_tI1 bt_tI2]
  unfold pw
  rw [i_pows, i_exp, i_gen t ht]
theorem rinv_any (a : Nat) (ha : a < Nt.P) (w : World) : Calls Tryd.prog 36 #[nd a] w fun e w' => e = .returned (nd (iv a)) ∧ Fr [] w w' := by
  have K := fun W => rpower_any a ha tInv (by decide) W
  rw [px_inv] at K
  obtain ⟨a0, a1, a2, a3, a4, a5, a6, a7, a8, ea, wa⟩ := nd_open a
  obtain ⟨c0, c1, c2, c3, c4, c5, c6, c7, c8, ec, wc'⟩ := nd_open (iv a)
  rw [wa, wc'] at K
  rw [wa, wc']
  have H : Hid (∀ W : World, Calls Tryd.prog 49 #[.agg #[.int .u64 (a0 : Nat), .int .u64 (a1 : Nat), .int .u64 (a2 : Nat), .int .u64 (a3 : Nat), .int .u64 (a4 : Nat), .int .u64 (a5 : Nat), .int .u64 (a6 : Nat), .int .u64 (a7 : Nat), .int .u64 (a8 : Nat)], .int .i64 250, .string ⟨#[48, 49, 48, 49, 49]⟩] W fun e w' => e = .returned (.agg #[.int .u64 (c0 : Nat), .int .u64 (c1 : Nat), .int .u64 (c2 : Nat), .int .u64 (c3 : Nat), .int .u64 (c4 : Nat), .int .u64 (c5 : Nat), .int .u64 (c6 : Nat), .int .u64 (c7 : Nat), .int .u64 (c8 : Nat)]) ∧ Fr [] W w') := hid K
  clear K wa wc' ea ec ha
  go_enter Tryd.func36, Tryd.ntmps36
  go_wp2_with (go_at_call 49; with_reducible refine (H.out _).mono ?_; rintro e V ⟨rfl, hF⟩; have F := hid (p := _) ((((Fr.refl [] w).alloc _).alloc _).trans0 hF); have Z := (RW.ofz (heap_new1 w _ _)).fr hF; obtain ⟨_, _, _, _, _, _, _, _, _, _, _, _, _, _, _, _, _, _, _, _⟩ := Z.all; clear hF)
  simp [bodyPost, results, Tryd.results36, go_sem, *]
  exact F.out.set9 (by omega) _ _ _ _ _ _ _ _ _
end Go.Proofs.YthbkhbfcocbnoaaDoor
