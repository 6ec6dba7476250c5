/-
  Package num: join, ones. No statement is proved here.
-/
import Derived.Test.YthbkhbfcocbnoaaDoorNumG
import Derived.Deep.LoopGhost
import Derived.Laws.Rows
namespace Go.Proofs.YthbkhbfcocbnoaaDoor
open Go.RowKit Go.Lib Go.BigFrame
set_option linter.unusedVariables false
set_option linter.unusedSimpArgs false
set_option maxRecDepth 1000000
set_option maxHeartbeats 4000000

section
variable {V V' : World} {b t : Nat} {v0 v1 v2 v3 : Value}
theorem L4.set4 (h : L4 V b t v0 v1 v2 v3) (u0 u1 u2 u3 : Value) : L4 ((((V.setCell ⟨b, 0, none⟩ u0).setCell ⟨b, 1, none⟩ u1).setCell ⟨b, 2, none⟩ u2).setCell ⟨b, 3, none⟩ u3) b t u0 u1 u2 u3 := by
  have h0 := heap_setCell_same V b 0 _ t u0 h
  have h1 := heap_setCell_same _ b 1 _ t u1 h0
  have h2 := heap_setCell_same _ b 2 _ t u2 h1
  have h3 := heap_setCell_same _ b 3 _ t u3 h2
  exact h3
theorem L4.other (h : L4 V b t v0 v1 v2 v3) {b' : Nat} (hne : b ≠ b') (u0 u1 u2 u3 : Value) : L4 ((((V.setCell ⟨b', 0, none⟩ u0).setCell ⟨b', 1, none⟩ u1).setCell ⟨b', 2, none⟩ u2).setCell ⟨b', 3, none⟩ u3) b t v0 v1 v2 v3 := by
  unfold L4
  rw [heap_setCell_other _ _ _ _ hne, heap_setCell_other _ _ _ _ hne, heap_setCell_other _ _ _ _ hne, heap_setCell_other _ _ _ _ hne]
  exact h
end
/-- A variable that holds four words. -/
def LE (V : World) (b t v : Nat) : Prop := L4 V b t (.int .u64 ((v % 18446744073709551616 : Nat) : Int)) (.int .u64 ((v / 18446744073709551616 % 18446744073709551616 : Nat) : Int)) (.int .u64 ((v / 340282366920938463463374607431768211456 % 18446744073709551616 : Nat) : Int)) (.int .u64 ((v / 6277101735386680763835789423207666416102355444464034512896 % 18446744073709551616 : Nat) : Int))
theorem LE.iff {V : World} {b t v a0 a1 a2 a3 : Nat} (h : wd v = .agg #[.int .u64 (a0 : Nat), .int .u64 (a1 : Nat), .int .u64 (a2 : Nat), .int .u64 (a3 : Nat)]) : LE V b t v ↔ L4 V b t (.int .u64 (a0 : Nat)) (.int .u64 (a1 : Nat)) (.int .u64 (a2 : Nat)) (.int .u64 (a3 : Nat)) := by
  unfold wd at h
  injection h with h
  have h := congrArg Array.toList h
  injection h with h0 h
  injection h with h1 h
  injection h with h2 h
  injection h with h3 h
  unfold LE
  rw [h0, h1, h2, h3]
theorem LE.fr {V V' : World} {b t v : Nat} (h : LE V b t v) (hF : Fr [] V V') : LE V' b t v := L4.fr h hF

/-- Squared so many times. -/
def sq (a : Nat) : Nat → Nat
  | 0 => a
  | i + 1 => sq a i * sq a i % Nt.P
theorem P_pos : 0 < Nt.P := by have := P_two_lt; omega
theorem sq_lt {a : Nat} (ha : a < 115792089237316195423570985008687907853269984665640564039457584007913129639936) : ∀ i, sq a i < 115792089237316195423570985008687907853269984665640564039457584007913129639936
  | 0 => ha
  | i + 1 => lt4 (Nat.mod_lt _ P_pos)
theorem sq_mod (a : Nat) : ∀ i, sq a i % Nt.P = a ^ 2 ^ i % Nt.P
  | 0 => by rw [Nat.pow_zero, Nat.pow_one]; rfl
  | i + 1 => by
    have e : sq a (i + 1) = sq a i * sq a i % Nt.P := rfl
    rw [e, Nat.mod_mod, ← Nt.mm, sq_mod a i, Nt.mm, ← Nat.pow_add, Nat.pow_succ, Nat.mul_two]

theorem join_any (a b n : Nat) (ha : a < 115792089237316195423570985008687907853269984665640564039457584007913129639936) (hb : b < 115792089237316195423570985008687907853269984665640564039457584007913129639936) (hn : n ≤ 1000) (w : World) (hP : PV w) : Calls Tryd.prog 64 #[wd a, wd b, .int .i64 (n : Nat)] w fun e w' => e = .returned (wd (sq a n * b % Nt.P)) ∧ Fr [] w w' := by
  have hP2 := hid (p := _) hP
  have hc : sq a n * b % Nt.P < 115792089237316195423570985008687907853269984665640564039457584007913129639936 := lt4 (Nat.mod_lt _ P_pos)
  have KE := hid (p := _) (fun W (h : PV W) => mul_any (sq a n) b (sq_lt ha n) hb W h)
  have KR := hid (p := _) (fun i W (h : PV W) => mul_any (sq a i) (sq a i) (sq_lt ha i) (sq_lt ha i) W h)
  have SL := hid (p := _) (fun i => sq_lt ha i)
  obtain ⟨a0, a1, a2, a3, _, _, _, _, _, wa⟩ := wd_open a ha
  obtain ⟨b0, b1, b2, b3, _, _, _, _, _, wb⟩ := wd_open b hb
  obtain ⟨c0, c1, c2, c3, _, _, _, _, _, wc⟩ := wd_open _ hc
  rw [wa, wb, wc]
  have HA := hid (p := _) wa
  have HB := hid (p := _) wb
  have HC := hid (p := _) wc
  clear wa wb wc hc hP
  go_enter Tryd.func64, Tryd.ntmps64
  go_wp2_with fail
  go_loopg [8] n (fun gk q wr => ∃ i : Nat, i ≤ n ∧ gk = n - i ∧ q = .int .i64 i ∧ Hid (Fr [] w wr ∧ LE wr w.heap.size 43 (sq a i) ∧ L4 wr (w.heap.size + 1) 43 (.int .u64 (b0 : Nat)) (.int .u64 (b1 : Nat)) (.int .u64 (b2 : Nat)) (.int .u64 (b3 : Nat)) ∧ L4 wr (w.heap.size + 2) 43 (.int .u64 0) (.int .u64 0) (.int .u64 0) (.int .u64 0)))
  case atStart =>
    exact ⟨0, Nat.zero_le _, rfl, rfl, hid ⟨(((Fr.refl [] w).alloc _).alloc _).alloc _, (LE.iff HA.out).2 (((L4.new w 43 _ _ _ _).alloc _).alloc _), (L4.new1 w _ 43 _ _ _ _).alloc _, L4.new2 w _ _ 43 _ _ _ _⟩⟩
  case round =>
    obtain ⟨i, hi, hgk, rfl, K⟩ := hrel
    obtain ⟨s0, s1, s2, s3, _, _, _, _, _, ws⟩ := wd_open (sq a i) (SL.out i)
    have A := (LE.iff ws).1 K.out.2.1
    have HF := hid (p := _) K.out.1
    have HBb := hid (p := _) K.out.2.2.1
    have HCc := hid (p := _) K.out.2.2.2
    have HPW := hid (p := _) (hP2.out.fr K.out.1)
    obtain ⟨a0c, a1c, a2c, a3c, a4c, a5c, a6c, a7c, a8c, a9c⟩ := A.all
    by_cases hlt : i < n
    · have hlt' : (i : Int) < (n : Int) := by omega
      obtain ⟨t0, t1, t2, t3, _, _, _, _, _, wt⟩ := wd_open (sq a (i + 1)) (SL.out (i + 1))
      have K1 := KR.out i
      have e1 : sq a i * sq a i % Nt.P = sq a (i + 1) := rfl
      rw [e1, ws, wt] at K1
      have H1 := hid (p := _) K1
      have HT := hid (p := _) wt
      have HAA := hid (p := _) A
      clear K1 ws wt K e1 A
      go_wp2_with (go_at_call 27; refine (H1.out _ HPW.out).mono ?_; rintro e V ⟨rfl, hF⟩; have A2 := HAA.out.fr hF; have B2 := HBb.out.fr hF; have C2 := HCc.out.fr hF; have F2 := HF.out.trans0 hF; obtain ⟨x0c, x1c, x2c, x3c, x4c, x5c, x6c, x7c, x8c, x9c⟩ := A2.all; clear hF)
      go_roundg (n - (i + 1))
      case measure => omega
      case rel => exact ⟨i + 1, by omega, rfl, by go_num, hid ⟨F2.set4 (Nat.le_refl _) _ _ _ _, (LE.iff HT.out).2 (A2.set4 _ _ _ _), B2.other (by omega) _ _ _ _, C2.other (by omega) _ _ _ _⟩⟩
    · obtain rfl : i = n := by omega
      have K1 := KE.out
      rw [ws, HB.out, HC.out] at K1
      have H1 := hid (p := _) K1
      obtain ⟨b0c, b1c, b2c, b3c, _, _, _, _, _, _⟩ := HBb.out.all
      clear K1 ws K A
      go_wp2_with (go_at_call 27; refine (H1.out _ HPW.out).mono ?_; rintro e V ⟨rfl, hF⟩; have C2 := HCc.out.fr hF; have F2 := HF.out.trans0 hF; obtain ⟨x0c, x1c, x2c, x3c, x4c, x5c, x6c, x7c, x8c, x9c⟩ := C2.all; clear hF)
      simp [bodyPost, results, Tryd.results64, go_sem, *]
      exact F2.set4 (by omega) _ _ _ _

end Go.Proofs.YthbkhbfcocbnoaaDoor
