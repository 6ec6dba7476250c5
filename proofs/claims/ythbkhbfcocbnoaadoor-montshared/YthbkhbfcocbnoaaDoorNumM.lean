/-
  Package num: read, Of. No statement is proved here.
-/
import Derived.Test.YthbkhbfcocbnoaaDoorNumK
namespace Go.Proofs.YthbkhbfcocbnoaaDoor
open Go.RowKit Go.Lib Go.BigFrame
set_option linter.unusedVariables false
set_option linter.unusedSimpArgs false
set_option maxRecDepth 1000000
set_option maxHeartbeats 4000000

/-- A byte of a text. -/
def byt (s : ByteArray) (i : Nat) : Nat := (s.data.getD i 0).toNat
theorem byt_lt (s : ByteArray) (i : Nat) : byt s i < 256 := (s.data.getD i 0).toNat_lt
theorem byt_get (s : ByteArray) (i : Nat) (h : i < s.size) : s[i].toNat = byt s i := by
  have h2 : i < s.data.size := h
  unfold byt
  rw [Array.getD_eq_getD_getElem?, Array.getElem?_eq_getElem h2]
  rfl
/-- The number of the first i bytes. -/
def rd (s : ByteArray) : Nat → Nat
  | 0 => 0
  | i + 1 => rd s i + byt s i * 256 ^ i
theorem rd_lt (s : ByteArray) : ∀ i, rd s i < 256 ^ i
  | 0 => by rw [rd, Nat.pow_zero]; omega
  | i + 1 => by
    have h := rd_lt s i
    have h2 : byt s i ≤ 255 := by have := byt_lt s i; omega
    have h3 := Nat.mul_le_mul_right (256 ^ i) h2
    rw [rd, Nat.pow_succ]
    omega
def dg (v : Nat) : Nat → Nat
  | 0 => v % 18446744073709551616
  | 1 => v / 18446744073709551616 % 18446744073709551616
  | 2 => v / 340282366920938463463374607431768211456 % 18446744073709551616
  | 3 => v / 6277101735386680763835789423207666416102355444464034512896 % 18446744073709551616
  | _ => 0
def MQ : Nat → Nat
  | 0 => 1
  | 1 => 18446744073709551616
  | 2 => 340282366920938463463374607431768211456
  | _ => 6277101735386680763835789423207666416102355444464034512896
theorem MQ_pow : ∀ i, i < 32 → MQ (i / 8) * 2 ^ (i % 8 * 8) = 256 ^ i := by
  have : ∀ i : Fin 32, MQ (i.1 / 8) * 2 ^ (i.1 % 8 * 8) = 256 ^ i.1 := by decide +kernel
  exact fun i h => this ⟨i, h⟩
theorem pow_le56 : ∀ i, i < 8 → 2 ^ (i * 8) ≤ 72057594037927936 := by
  have : ∀ i : Fin 8, 2 ^ (i.1 * 8) ≤ 72057594037927936 := by decide +kernel
  exact fun i h => this ⟨i, h⟩
theorem LE.cell {V : World} {b t v : Nat} (h : LE V b t v) (q : Nat) (hq : q < 4) : V.cell? ⟨b, q, none⟩ = some (.int .u64 (dg v q : Nat)) ∧ V.frozen? ⟨b, q, none⟩ = false := by
  obtain ⟨h0, h1, h2, h3, f0, f1, f2, f3, -, -⟩ := L4.all h
  match q, hq with
  | 0, _ => exact ⟨h0, f0⟩
  | 1, _ => exact ⟨h1, f1⟩
  | 2, _ => exact ⟨h2, f2⟩
  | 3, _ => exact ⟨h3, f3⟩
theorem dg_lt {v q R : Nat} (hq : q < 4) (hv : v < MQ q * R) : dg v q < R := by
  match q, hq with
  | 0, _ => simp only [MQ] at hv; simp only [dg]; omega
  | 1, _ => simp only [MQ] at hv; simp only [dg]; omega
  | 2, _ => simp only [MQ] at hv; simp only [dg]; omega
  | 3, _ => simp only [MQ] at hv; simp only [dg]; omega
theorem dg_add {v q R Y : Nat} (hq : q < 4) (hv : v < MQ q * R) (hY : Y ≤ 255 * R) (hR : R ≤ 72057594037927936) (j : Nat) (hj : j < 4) : dg (v + MQ q * Y) j = if j = q then dg v q + Y else dg v j := by
  match q, hq with
  | 0, _ => simp only [MQ] at *; match j, hj with
    | 0, _ | 1, _ | 2, _ | 3, _ => simp [dg] <;> omega
  | 1, _ => simp only [MQ] at *; match j, hj with
    | 0, _ | 1, _ | 2, _ | 3, _ => simp [dg] <;> omega
  | 2, _ => simp only [MQ] at *; match j, hj with
    | 0, _ | 1, _ | 2, _ | 3, _ => simp [dg] <;> omega
  | 3, _ => simp only [MQ] at *; match j, hj with
    | 0, _ | 1, _ | 2, _ | 3, _ => simp [dg] <;> omega
theorem LE.setq {V : World} {b t v q R Y : Nat} (h : LE V b t v) (hq : q < 4) (hv : v < MQ q * R) (hY : Y ≤ 255 * R) (hR : R ≤ 72057594037927936) : LE (V.setCell ⟨b, q, none⟩ (.int .u64 ((dg v q + Y : Nat) : Int))) b t (v + MQ q * Y) := by
  have h2 := heap_setCell_same V b q _ t (.int .u64 ((dg v q + Y : Nat) : Int)) h
  have hd := dg_add hq hv hY hR
  have k0 := hd 0 (by decide)
  have k1 := hd 1 (by decide)
  have k2 := hd 2 (by decide)
  have k3 := hd 3 (by decide)
  unfold LE L4
  rw [h2]
  have e0 : (v + MQ q * Y) % 18446744073709551616 = dg (v + MQ q * Y) 0 := rfl
  have e1 : (v + MQ q * Y) / 18446744073709551616 % 18446744073709551616 = dg (v + MQ q * Y) 1 := rfl
  have e2 : (v + MQ q * Y) / 340282366920938463463374607431768211456 % 18446744073709551616 = dg (v + MQ q * Y) 2 := rfl
  have e3 : (v + MQ q * Y) / 6277101735386680763835789423207666416102355444464034512896 % 18446744073709551616 = dg (v + MQ q * Y) 3 := rfl
  rw [e0, e1, e2, e3, k0, k1, k2, k3]
  match q, hq with
  | 0, _ | 1, _ | 2, _ | 3, _ => rfl
theorem LE.alloc {V : World} {b t v : Nat} (h : LE V b t v) (o : Obj) : LE (V.alloc o) b t v := L4.alloc h o

theorem read_any (s : ByteArray) (hs : s.size = 32) (w : World) : Calls Tryd.prog 41 #[.string s] w fun e w' => e = .returned (wd (rd s 32)) ∧ Fr [] w w' := by
  have HS := hid (p := _) hs
  have hr4 : rd s 32 < 115792089237316195423570985008687907853269984665640564039457584007913129639936 := rd_lt s 32
  obtain ⟨c0, c1, c2, c3, -, -, -, -, -, wc⟩ := wd_open _ hr4
  rw [wc]
  have HC := hid (p := _) wc
  clear wc hr4
  go_enter Tryd.func41, Tryd.ntmps41
  go_wp2_with fail
  go_loopg [5] 32 (fun gk q wr => ∃ i : Nat, i ≤ 32 ∧ gk = 32 - i ∧ q = .int .i64 i ∧ Hid (Fr [] w wr ∧ LE wr (w.heap.size + 1) 41 (rd s i) ∧ L4 wr w.heap.size 41 (.int .u64 0) (.int .u64 0) (.int .u64 0) (.int .u64 0)))
  case atStart =>
    exact ⟨0, Nat.zero_le _, rfl, rfl, hid ⟨((Fr.refl [] w).alloc _).alloc _, (LE.iff (v := 0) rfl).2 (L4.new1 w _ 41 _ _ _ _), (L4.new w 41 _ _ _ _).alloc _⟩⟩
  case round =>
    obtain ⟨i, hi, hgk, rfl, K⟩ := hrel
    by_cases hlt : i < 32
    · have hlt' : (i : Int) < 32 := by omega
      have hb : i < s.size := by omega
      have hq : i / 8 < 4 := by omega
      have hv : rd s i < MQ (i / 8) * 2 ^ (i % 8 * 8) := by rw [MQ_pow i hlt]; exact rd_lt s i
      have hR := pow_le56 (i % 8) (by omega)
      have hB := byt_lt s i
      have hY : byt s i * 2 ^ (i % 8 * 8) ≤ 255 * 2 ^ (i % 8 * 8) := Nat.mul_le_mul_right _ (by omega)
      have hx := dg_lt hq hv
      have h1 := byt_get s i hb
      have h2 : IntKind.u64.wrap (byt s i : Int) = (byt s i : Int) := wrapN _ (by omega)
      have h3 : IntKind.u64.wrap ((byt s i : Int) * 2 ^ (i % 8 * 8)) = ((byt s i * 2 ^ (i % 8 * 8) : Nat) : Int) := by
        have e : ((byt s i : Int) * 2 ^ (i % 8 * 8)) = ((byt s i * 2 ^ (i % 8 * 8) : Nat) : Int) := by rw [Int.natCast_mul, Int.natCast_pow]; rfl
        rw [e]; exact wrapN _ (by omega)
      have h4 : bits .or .u64 ((dg (rd s i) (i / 8) : Nat) : Int) ((byt s i * 2 ^ (i % 8 * 8) : Nat) : Int) = ((dg (rd s i) (i / 8) + byt s i * 2 ^ (i % 8 * 8) : Nat) : Int) := by
        have e := bits_or_u64_nat (dg (rd s i) (i / 8)) (byt s i * 2 ^ (i % 8 * 8)) (by omega) (by omega)
        rw [Nat.or_comm, nat_join (i % 8 * 8) _ _ (Nat.mul_mod_left _ _) hx, Nat.add_comm] at e
        exact e
      have hnext : rd s i + MQ (i / 8) * (byt s i * 2 ^ (i % 8 * 8)) = rd s (i + 1) := by
        rw [rd, ← MQ_pow i hlt, Nat.mul_left_comm]
      have c1 := (K.out.2.1.cell (i / 8) hq).1
      have c2 := (K.out.2.1.cell (i / 8) hq).2
      have c3 : w.heap.size + 1 < wr.heap.size := lt_of_heap K.out.2.1
      have KN := hid (p := _) (fun x => (show LE ((ext wr x).setCell ⟨w.heap.size + 1, i / 8, none⟩ (.int .u64 ((dg (rd s i) (i / 8) + byt s i * 2 ^ (i % 8 * 8) : Nat) : Int))) (w.heap.size + 1) 41 (rd s (i + 1)) from by
        rw [← hnext]; exact (K.out.2.1.fr (ext_fr wr x)).setq hq hv hY hR))
      have KF := hid (p := _) K.out.1
      have KR := hid (p := _) K.out.2.2
      generalize dg (rd s i) (i / 8) + byt s i * 2 ^ (i % 8 * 8) = Z at *
      generalize byt s i * 2 ^ (i % 8 * 8) = Y at *
      generalize dg (rd s i) (i / 8) = x at *
      generalize byt s i = B at *
      clear hv hR hB hY hx hnext K
      go_wp2_with fail
      refine wp_region_last_ext [_, _, _, _, _, _, _, _, _, _, _, _, _, _] _ (by kernel_rfl) (by kernel_rfl) (by kernel_rfl) (by kernel_rfl) (by kernel_rfl) ?_
      simp only [List.cons_append, List.nil_append, idle]
      repeat (go_big_quiet_step (fail))
      refine wpQuiet_nil ?_
      rintro _ ⟨xq, rfl⟩
      go_simp
      go_wp2
      go_roundg (32 - (i + 1))
      case measure => omega
      case rel =>
        refine ⟨i + 1, by omega, rfl, by go_num, hid ⟨(KF.out.ext xq).setCell (.inr (by show w.heap.size ≤ w.heap.size + 1; omega)) _, KN.out xq, ?_⟩⟩
        have h5 := KR.out.fr (ext_fr wr xq)
        unfold L4 at h5 ⊢
        rw [heap_setCell_other _ _ _ _ (by show w.heap.size ≠ w.heap.size + 1; omega)]
        exact h5
    · obtain rfl : i = 32 := by omega
      have A := (LE.iff HC.out).1 K.out.2.1
      have C := K.out.2.2
      have F := K.out.1
      obtain ⟨a0c, a1c, a2c, a3c, a4c, a5c, a6c, a7c, a8c, a9c⟩ := A.all
      obtain ⟨x0c, x1c, x2c, x3c, x4c, x5c, x6c, x7c, x8c, x9c⟩ := C.all
      clear K
      go_wp2_with fail
      simp [bodyPost, results, Tryd.results41, go_sem, *]
      exact F.set4 (by omega) _ _ _ _


/-- What Of answers to 32 bytes. -/
def of (s : ByteArray) : Nat := rd s 32 % Nt.P
theorem of_ltP (s : ByteArray) : of s < Nt.P := Nat.mod_lt _ P_pos
theorem of_yes (s : ByteArray) (hs : s.size = 32) (w : World) (hP : PV w) : Calls Tryd.prog 23 #[.string s] w fun e w' => e = .returned (.tuple #[wd (of s), .int .i64 0]) ∧ Fr [] w w' := by
  have hP2 := hid (p := _) hP
  have K1 := fun W => read_any s hs W
  have K2 := fun W (h : PV W) => fold_any (rd s 32) 0 (rd_lt s 32) (by decide) W h
  rw [Nat.mul_zero, Nat.add_zero] at K2
  have e : rd s 32 % Nt.P = of s := rfl
  rw [e] at K2
  obtain ⟨c0, c1, c2, c3, -, -, -, -, -, wc⟩ := wd_open (of s) (lt4 (of_ltP s))
  rw [wc] at K2
  rw [wc]
  have H1 := hid (p := _) K1
  have H2 : Hid (∀ W, PV W → Calls Tryd.prog 40 #[wd (rd s 32), .int .u64 0] W fun e w' => e = .returned (.agg #[.int .u64 (c0 : Nat), .int .u64 (c1 : Nat), .int .u64 (c2 : Nat), .int .u64 (c3 : Nat)]) ∧ Fr [] W w') := hid K2
  clear K1 K2 e wc hP
  generalize wd (rd s 32) = r at *
  have hsi : (s.size : Int) = 32 := by omega
  go_enter Tryd.func23, Tryd.ntmps23
  go_wp2_with (first | (go_at_call 41; refine (H1.out _).mono ?_; rintro e V ⟨rfl, hF⟩; have C := (L4.new w 43 _ _ _ _).fr hF; have F := ((Fr.refl [] w).alloc _).trans0 hF; clear hF) | (go_at_call 40; refine (H2.out _ (hP2.out.fr F)).mono ?_; rintro e V2 ⟨rfl, hF⟩; have C2 := C.fr hF; have F2 := F.trans0 hF; obtain ⟨x0c, x1c, x2c, x3c, x4c, x5c, x6c, x7c, x8c, x9c⟩ := C2.all; clear hF))
  simp [bodyPost, results, Tryd.results23, go_sem, *]
  exact F2.set4 (by omega) _ _ _ _
theorem of_no (s : ByteArray) (hs : s.size ≠ 32) (w : World) : Calls Tryd.prog 23 #[.string s] w fun e w' => e = .returned (.tuple #[wd 0, .int .i64 2]) ∧ Fr [] w w' := by
  have hsi : ¬ (s.size : Int) = 32 := by omega
  rw [← wd_0]
  go_enter Tryd.func23, Tryd.ntmps23
  go_wp2_with fail
  simp [bodyPost, results, Tryd.results23, go_sem, *]
  exact (Fr.refl [] w).alloc _

end Go.Proofs.YthbkhbfcocbnoaaDoor
