/-
  Package order: Of, Canonical, Same. No statement is proved here.
-/
import Derived.Test.YtgjpombdkgomaaaDoorOrdF
import Derived.Laws.Cover3
namespace Go.Proofs.YtgjpombdkgomaaaDoor
open Go.RowKit Go.Lib Go.BigFrame
set_option linter.unusedVariables false
set_option linter.unusedSimpArgs false
set_option maxRecDepth 1000000
set_option maxHeartbeats 4000000

theorem rd_top (s : ByteArray) (n : Nat) : rd s (8 * n) / 2 ^ (64 * n) = 0 := by
  refine Nat.div_eq_of_lt ?_
  have h := rd_lt s (8 * n)
  have e : 256 ^ (8 * n) = 2 ^ (64 * n) := by
    rw [show (256 : Nat) = 2 ^ 8 from rfl, ← Nat.pow_mul]
    congr 1; omega
  rw [e] at h
  exact h
/-- What Of answers. -/
def of (s : ByteArray) : Nat := rd s s.size % Lq
theorem of_ltL (s : ByteArray) : of s < Lq := Nat.mod_lt _ Lq_pos
/-- The lengths that Of takes. -/
def fits (s : ByteArray) : Prop := s.size = 32 ∨ s.size = 64
theorem of_gen (s : ByteArray) (n : Nat) (hn : n ≤ 8) (hs : s.size = 8 * n) (h : (s.size : Int) = 32 ∨ (¬ (s.size : Int) = 32 ∧ (s.size : Int) = 64)) (w : World) (hP : PV w) : Calls Tryd.prog 7 #[.string s] w fun e w' => e = .returned (.tuple #[wd (of s), .int .i64 0]) ∧ Fr [] w w' := by
  have hP2 := hid (p := _) hP
  have K1 := fun W => read_any s n hn hs W
  have K2 := fun b t W hW hR => modulo_any (rd s (8 * n)) n b t hn (rd_top s n) W hW hR
  have e : rd s (8 * n) % Lq = of s := by unfold of; rw [hs]
  rw [e] at K2
  obtain ⟨c0, c1, c2, c3, -, -, -, -, -, wc'⟩ := wd_open (of s) (lt4 (of_ltL s))
  rw [wc'] at K2
  rw [wc']
  have H1 := hid (p := _) K1
  have H2 := hid (p := _) K2
  clear K1 K2 e wc' hP hs hn
  rcases h with h | ⟨h0, h⟩
  all_goals
    go_enter Tryd.func7, Tryd.ntmps7
    go_wp2_with (first | (go_at_call 21; with_reducible refine (H1.out _).mono ?_; rintro e V ⟨rfl, hF, hR⟩; have C := hid (p := _) ((L4.new w 27 _ _ _ _).fr hF); have F := hid (p := _) (((Fr.refl [] w).alloc _).trans0 hF); have R : Hid (RW V (w.heap.size + 1) 23 (dw (rd s (8 * n)) n)) := hid (by simpa using hR); clear hF hR) | (go_at_call 20; with_reducible refine (H2.out _ _ _ (hP2.out.fr F.out (by simp)) R.out).mono ?_; rintro e V2 ⟨rfl, hF⟩; have C2 := C.out.fr hF; have F2 := F.out.trans0 hF; obtain ⟨x0c, x1c, x2c, x3c, x4c, x5c, x6c, x7c, x8c, x9c⟩ := C2.all; clear hF))
    simp [bodyPost, results, Tryd.results7, go_sem, *]
    exact F2.set4 (by omega) _ _ _ _
theorem of_yes (s : ByteArray) (h : fits s) (w : World) (hP : PV w) : Calls Tryd.prog 7 #[.string s] w fun e w' => e = .returned (.tuple #[wd (of s), .int .i64 0]) ∧ Fr [] w w' := by
  rcases h with h | h
  · exact of_gen s 4 (by decide) h (.inl (by omega)) w hP
  · exact of_gen s 8 (by decide) h (.inr ⟨by omega, by omega⟩) w hP
theorem wd_0 : Value.agg #[.int .u64 0, .int .u64 0, .int .u64 0, .int .u64 0] = wd 0 := rfl
theorem of_no (s : ByteArray) (h : ¬ fits s) (w : World) : Calls Tryd.prog 7 #[.string s] w fun e w' => e = .returned (.tuple #[wd 0, .int .i64 2]) ∧ Fr [] w w' := by
  have h1 : ¬ (s.size : Int) = 32 := fun e => h (.inl (by omega))
  have h2 : ¬ (s.size : Int) = 64 := fun e => h (.inr (by omega))
  have h3 : ((s.size : Int) != 32) = true := bne_iff_ne.2 h1
  have h4 : ((s.size : Int) != 64) = true := bne_iff_ne.2 h2
  rw [← wd_0]
  clear h
  go_enter Tryd.func7, Tryd.ntmps7
  go_wp2_with fail
  simp [bodyPost, results, Tryd.results7, go_sem, *]
  exact (Fr.refl [] w).alloc _
theorem same_any (a b : Nat) (ha : a < 115792089237316195423570985008687907853269984665640564039457584007913129639936) (hb : b < 115792089237316195423570985008687907853269984665640564039457584007913129639936) (w : World) : Calls Tryd.prog 12 #[wd a, wd b] w fun e w' => e = .returned (.bool (decide (a = b))) ∧ Fr [] w w' := by
  have K := fun W => like_any a b ha hb W
  obtain ⟨a0, a1, a2, a3, -, -, -, -, -, wa⟩ := wd_open a ha
  obtain ⟨b0, b1, b2, b3, -, -, -, -, -, wb⟩ := wd_open b hb
  rw [wa, wb] at K
  rw [wa, wb]
  have H := hid (p := _) K
  clear K wa wb
  generalize decide (a = b) = r at *
  go_enter Tryd.func12, Tryd.ntmps12
  go_wp2_with (go_at_call 23; with_reducible refine (H.out _).mono ?_; rintro e V ⟨rfl, hF⟩; have F := hid (p := _) ((((Fr.refl [] w).alloc _).alloc _).trans0 hF); clear hF)
  go_ret
  exact ⟨rfl, F.out⟩
theorem wd_dw (N : Nat) : Value.agg (wc (dw N 4)) = wd N := by
  have e0 : wo N 0 = N % 18446744073709551616 := by unfold wo; rw [Nat.mul_zero, Nat.pow_zero, Nat.div_one]
  show Value.agg #[.int .u64 ((wo N 0 : Nat) : Int), .int .u64 ((wo N 1 : Nat) : Int), .int .u64 ((wo N 2 : Nat) : Int), .int .u64 ((wo N 3 : Nat) : Int)] = wd N
  rw [e0]
  rfl
theorem rd_lt4 (s : ByteArray) : rd s 32 < 115792089237316195423570985008687907853269984665640564039457584007913129639936 := rd_lt s 32
theorem canon_no (s : ByteArray) (h : s.size ≠ 32) (w : World) : Calls Tryd.prog 9 #[.string s] w fun e w' => e = .returned (.bool false) ∧ Fr [] w w' := by
  have h1 : ¬ (s.size : Int) = 32 := by omega
  clear h
  go_enter Tryd.func9, Tryd.ntmps9
  go_wp2_with fail
  go_ret
  exact ⟨rfl, Fr.refl [] w⟩
theorem canon_yes (s : ByteArray) (h : s.size = 32) (w : World) (hP : PV w) : Calls Tryd.prog 9 #[.string s] w fun e w' => e = .returned (.bool (decide (rd s 32 < Lq))) ∧ Fr [] w w' := by
  have hP2 := hid (p := _) hP
  have K1 := fun W => read_any s 4 (by decide) h W
  have K2 := fun W hW => below_any (rd s 32) (rd_lt4 s) W hW
  rw [show 8 * 4 = 32 from rfl] at K1
  obtain ⟨a0, a1, a2, a3, -, -, -, -, -, wa⟩ := wd_open (rd s 32) (rd_lt4 s)
  have hd := wd_dw (rd s 32)
  rw [wa] at K2 hd
  generalize decide (rd s 32 < Lq) = r at *
  have hd2 : wc (dw (rd s 32) 4) = #[.int .u64 (a0 : Nat), .int .u64 (a1 : Nat), .int .u64 (a2 : Nat), .int .u64 (a3 : Nat)] := by injection hd
  have H1 : Hid (∀ W : World, Calls Tryd.prog 21 #[.string s] W fun e w' => e = .returned (.slice (some ⟨W.heap.size, 0, none⟩) 4 4) ∧ Fr [] W w' ∧ L4 w' W.heap.size 23 (.int .u64 (a0 : Nat)) (.int .u64 (a1 : Nat)) (.int .u64 (a2 : Nat)) (.int .u64 (a3 : Nat))) := hid (fun W => (K1 W).mono fun _ _ h => ⟨h.1, h.2.1, by have := h.2.2; unfold RW at this; rw [hd2] at this; exact this⟩)
  have H2 := hid (p := _) K2
  have h1 : (s.size : Int) = 32 := by omega
  clear K1 K2 wa hd hd2 h hP
  have hat : ∀ (a : Option Addr) (W : World), (Instr.arrayAt 25 (.slice a 4 4)).run Tryd.prog W = .ok (.pointer a) W := fun a W => run_arrayAt W 25 23 4 a 4 4 (by kernel_rfl) (Nat.le_refl _)
  go_enter Tryd.func9, Tryd.ntmps9
  go_wp2_with (first | (go_at_call 21; with_reducible refine (H1.out _).mono ?_; rintro e V ⟨rfl, hF, hR⟩; have F := hid (p := _) hF; obtain ⟨x0c, x1c, x2c, x3c, x4c, x5c, x6c, x7c, x8c, x9c⟩ := hR.all; clear hF hR) | (go_at_call 22; with_reducible refine (H2.out _ (hP2.out.fr F.out (by simp))).mono ?_; rintro e V2 ⟨rfl, hF⟩; have F2 := hid (p := _) (F.out.trans0 hF); clear hF))
  go_ret
  exact ⟨rfl, F2.out⟩
end Go.Proofs.YtgjpombdkgomaaaDoor
