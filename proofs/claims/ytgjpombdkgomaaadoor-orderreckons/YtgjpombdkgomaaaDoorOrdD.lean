/-
  Package order: rows of words; modulo. No statement is proved here.
-/
import Derived.Test.YtgjpombdkgomaaaDoorOrdC
import Derived.Deep.LoopGhost
import Derived.Laws.Rows
namespace Go.Proofs.YtgjpombdkgomaaaDoor
open Go.RowKit Go.Lib Go.BigFrame
set_option linter.unusedVariables false
set_option linter.unusedSimpArgs false
set_option maxRecDepth 1000000
set_option maxHeartbeats 4000000

/-- The cells of a row of words. -/
def wc (l : List Nat) : Array Value := (l.map fun x => Value.int .u64 ((x : Nat) : Int)).toArray
/-- A row of words in a block of its own. -/
def RW (V : World) (b t : Nat) (l : List Nat) : Prop := V.heap[b]? = some (.cells (wc l) t)
section
variable {V V' : World} {b t : Nat} {l : List Nat}
theorem RW.frS {S : List Nat} (h : RW V b t l) (hF : Fr S V V') (hb : b ∉ S) : RW V' b t l := hF.heap h hb
theorem RW.fr (h : RW V b t l) (hF : Fr [] V V') : RW V' b t l := hF.heap h (by simp)
theorem RW.alloc (h : RW V b t l) (o : Obj) : RW (V.alloc o) b t l := h.fr ((Fr.refl [] V).alloc o)
theorem RW.lt (h : RW V b t l) : b < V.heap.size := lt_of_heap h
theorem RW.cell (h : RW V b t l) (i : Nat) (hi : i < l.length) : V.cell? ⟨b, i, none⟩ = some (.int .u64 ((l.getD i 0 : Nat) : Int)) :=
  cell_of_heap h (by simp [wc, hi])
theorem RW.frozen (h : RW V b t l) (i : Nat) : V.frozen? ⟨b, i, none⟩ = false := frozen_of_heap h
theorem RW.set (h : RW V b t l) (i x : Nat) : RW (V.setCell ⟨b, i, none⟩ (.int .u64 ((x : Nat) : Int))) b t (l.set i x) := by
  have h2 := heap_setCell_same V b i _ t (.int .u64 ((x : Nat) : Int)) h
  unfold RW
  rw [h2]
  congr 2
  simp [wc, List.map_set]
theorem RW.other (h : RW V b t l) {p : Addr} (hne : b ≠ p.block) (u : Value) : RW (V.setCell p u) b t l := by
  unfold RW
  rw [heap_setCell_other _ _ _ _ hne]; exact h
theorem RW.ext (h : RW V b t l) (x : World) : RW (Go.Proofs.YtgjpombdkgomaaaDoor.ext V x) b t l := h.fr (ext_fr V x)
end
theorem L4.frS {S : List Nat} {V V' : World} {b t : Nat} {v0 v1 v2 v3 : Value} (h : L4 V b t v0 v1 v2 v3) (hF : Fr S V V') (hb : b ∉ S) : L4 V' b t v0 v1 v2 v3 := hF.heap h hb
/-- The word i of a number. -/
def wo (N i : Nat) : Nat := N / 2 ^ (64 * i) % 18446744073709551616
def dw (N n : Nat) : List Nat := (List.range n).map (wo N)
theorem dw_len (N n : Nat) : (dw N n).length = n := by simp [dw]
theorem dw_get (N n i : Nat) (h : i < n) : (dw N n).getD i 0 = wo N i := by simp [dw, h]
theorem wo_lt (N i : Nat) : wo N i < 18446744073709551616 := Nat.mod_lt _ (by decide)
/-- The bit of a digit is the number's. -/
theorem dig_bit {k r : Nat} (hr : r < k) (v q : Nat) : v / 2 ^ (k * q) % 2 ^ k / 2 ^ r % 2 = v / 2 ^ (k * q + r) % 2 := by
  obtain ⟨d, rfl⟩ : ∃ d, k = r + 1 + d := ⟨k - r - 1, by omega⟩
  have h : 2 ^ (r + 1 + d) = 2 ^ r * (2 * 2 ^ d) := by rw [Nat.pow_add, Nat.pow_succ, Nat.mul_assoc]
  rw [show ∀ a : Nat, a % 2 ^ (r + 1 + d) = a % (2 ^ r * (2 * 2 ^ d)) from fun a => by rw [h], Nat.mod_mul_right_div_self, Nat.mod_mul_right_mod, Nat.div_div_eq_div_mul, ← Nat.pow_add]
theorem wo_bit (N i j : Nat) (h : j < 64) : wo N i / 2 ^ j % 2 = N / 2 ^ (64 * i + j) % 2 := dig_bit (k := 64) h N i
theorem push_mod (N m L : Nat) : (2 * (N / 2 ^ (m + 1) % L) + N / 2 ^ m % 2) % L = N / 2 ^ m % L := by
  have e : N / 2 ^ (m + 1) = N / 2 ^ m / 2 := by rw [Nat.pow_succ, Nat.div_div_eq_div_mul]
  rw [e]
  generalize N / 2 ^ m = Q
  have h : Q = 2 * (Q / 2) + Q % 2 := by omega
  generalize Q / 2 = x at *
  generalize Q % 2 = r at *
  subst h
  rw [Nat.add_mod, Nat.mul_mod, Nat.mod_mod, ← Nat.mul_mod, ← Nat.add_mod]
theorem and_one64 (a : Nat) (ha : a < 18446744073709551616) : bits .and .u64 (a : Int) 1 = ((a % 2 : Nat) : Int) := by
  have h := bits_and_u64_nat a 1 ha (by decide)
  rw [nat_mask1] at h
  exact h
theorem mod_ltL (x : Nat) : x % Lq < Lq := Nat.mod_lt _ Lq_pos
theorem lt4 {a : Nat} (h : a < Lq) : a < 115792089237316195423570985008687907853269984665640564039457584007913129639936 := by have := Lq_lt; omega

theorem modulo_any (N n b t : Nat) (hn : n ≤ 8) (hN : N / 2 ^ (64 * n) = 0) (w : World) (hP : PV w) (hR : RW w b t (dw N n)) : Calls Tryd.prog 20 #[.slice (some ⟨b, 0, none⟩) n n] w fun e w' => e = .returned (wd (N % Lq)) ∧ Fr [] w w' := by
  have hP2 := hid (p := _) hP
  have HR := hid (p := _) hR
  have HN := hid (p := _) hN
  obtain ⟨c0, c1, c2, c3, -, -, -, -, -, wc'⟩ := wd_open (N % Lq) (lt4 (mod_ltL N))
  rw [wc']
  have HC := hid (p := _) wc'
  clear wc' hP hR hN
  go_enter Tryd.func20, Tryd.ntmps20
  go_wp2_with fail
  go_loopg [4] n (fun gk q wr => ∃ (k : Nat) (z : Int), k ≤ n ∧ gk = k ∧ q = .int .i64 z ∧ z = (k : Int) - 1 ∧ Hid (Fr [] w wr ∧ LE wr (w.heap.size + 1) 25 (N / 2 ^ (64 * k) % Lq) ∧ L4 wr w.heap.size 25 (.int .u64 0) (.int .u64 0) (.int .u64 0) (.int .u64 0)))
  case atStart =>
    refine ⟨n, _, Nat.le_refl _, rfl, rfl, by go_num, hid ⟨((Fr.refl [] w).alloc _).alloc _, ?_, (L4.new w 25 _ _ _ _).alloc _⟩⟩
    rw [HN.out, Nat.zero_mod]
    exact (LE.iff (v := 0) rfl).2 (L4.new1 w _ 25 _ _ _ _)
  case round =>
    obtain ⟨k, z, hk, hgk, rfl, hz, K1⟩ := hrel
    by_cases hk0 : 0 < k
    · obtain ⟨i, rfl⟩ : ∃ i, k = i + 1 := ⟨k - 1, by omega⟩
      obtain rfl : z = (i : Int) := by omega
      clear hz
      go_wp2_with fail
      go_loopg [5] 64 (fun gj q wr => ∃ (j : Nat) (y : Int), j ≤ 64 ∧ gj = j ∧ q = .int .i64 y ∧ y = (j : Int) - 1 ∧ Hid (Fr [] w wr ∧ LE wr (w.heap.size + 1) 25 (N / 2 ^ (64 * i + j) % Lq) ∧ L4 wr w.heap.size 25 (.int .u64 0) (.int .u64 0) (.int .u64 0) (.int .u64 0)))
      case atStart => exact ⟨64, _, Nat.le_refl _, rfl, rfl, rfl, K1⟩
      case round =>
        clear K1
        obtain ⟨j, y, hj, hgj, rfl, hy, K⟩ := hrel
        by_cases hj0 : 0 < j
        · obtain ⟨j, rfl⟩ : ∃ i, j = i + 1 := ⟨j - 1, by omega⟩
          obtain rfl : y = (j : Int) := by omega
          have hlt : (i : Int) < (n : Int) := by omega
          have hbit := wo_bit N i j (by omega)
          have hwl := wo_lt N i
          have f1 : bits .and .u64 (((wo N i : Nat) : Int) / 2 ^ j) 1 = ((N / 2 ^ (64 * i + j) % 2 : Nat) : Int) := by
            have e : ((wo N i : Int) / 2 ^ j) = ((wo N i / 2 ^ j : Nat) : Int) := by rw [Int.natCast_ediv, Int.natCast_pow]; rfl
            rw [e, ← hbit]
            exact and_one64 _ (Nat.lt_of_le_of_lt (Nat.div_le_self _ _) hwl)
          have R := HR.out.fr K.out.1
          have c1 := R.cell i (by rw [dw_len]; omega)
          rw [dw_get _ _ _ (by omega)] at c1
          have KP := push_any (N / 2 ^ (64 * i + j + 1) % Lq) (N / 2 ^ (64 * i + j) % 2) (w.heap.size + 1) (mod_ltL _) (by omega) wr (hP2.out.fr K.out.1 (by simp)) K.out.2.1
          rw [push_mod] at KP
          have HK := hid (p := _) KP
          have HF := hid (p := _) K.out.1
          have HZ := hid (p := _) K.out.2.2
          clear K KP R hbit hwl hy
          generalize N / 2 ^ (64 * i + j) % 2 = bt at *
          generalize wo N i = x at *
          go_wp2_with (go_at_call 28; with_reducible refine HK.out.mono ?_; rintro e V ⟨rfl, hF, hE⟩; have HE := hid (p := _) hE; have HF2 := hid (p := _) hF; clear hF hE)
          go_roundg j
          case measure => omega
          case rel =>
            exact ⟨j, _, by omega, rfl, by go_num, rfl, hid ⟨HF.out.trans HF2.out (by simp), HE.out, HZ.out.frS HF2.out (by simp)⟩⟩
        · obtain rfl : j = 0 := by omega
          have hy2 : ¬ (0 : Int) ≤ y := by omega
          go_wp2_with fail
          go_roundg i
          case measure => omega
          case rel => exact ⟨i, _, by omega, rfl, by go_num, rfl, K⟩
    · obtain rfl : k = 0 := by omega
      have hz2 : ¬ (0 : Int) ≤ z := by omega
      have A := K1.out.2.1
      rw [Nat.mul_zero, Nat.pow_zero, Nat.div_one] at A
      have A := (LE.iff HC.out).1 A
      have C := K1.out.2.2
      have F := K1.out.1
      obtain ⟨a0c, a1c, a2c, a3c, a4c, a5c, a6c, a7c, a8c, a9c⟩ := A.all
      obtain ⟨x0c, x1c, x2c, x3c, x4c, x5c, x6c, x7c, x8c, x9c⟩ := C.all
      clear K1 HN HR hP2 HC hn hk hgk hk0 hz
      go_wp2_with fail
      simp [bodyPost, results, Tryd.results20, go_sem, *]
      exact F.set4 (by omega) _ _ _ _
end Go.Proofs.YtgjpombdkgomaaaDoor
