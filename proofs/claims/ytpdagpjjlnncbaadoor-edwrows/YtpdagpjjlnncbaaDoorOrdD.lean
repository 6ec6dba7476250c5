/-
  Package order: rows of words; modulo. No statement is proved here.
-/
import Derived.Test.YtpdagpjjlnncbaaDoorOrdB
import Derived.Deep.LoopGhost
import Derived.Laws.Rows
import Derived.Laws.BytesString
import Derived.Laws.Cells
import Derived.Laws.MakeOwn
namespace Go.Proofs.YtpdagpjjlnncbaaDoor.Ord
open Go.RowKit Go.Lib Go.BigFrame
set_option linter.unusedVariables false
set_option linter.unusedSimpArgs false
set_option maxRecDepth 1000000
set_option maxHeartbeats 4000000

/-- The cells of a row of words. -/
def wc (l : List Nat) : Array Value := (l.map fun x => Value.int .u64 ((x : Nat) : Int)).toArray
/-- A row of words in a block of its own. -/
def RW (V : World) (b t : Nat) (l : List Nat) : Prop := V.heap[b]? = some (.cells (wc l) t)
section
variable {V V' : World} {b t : Nat} {l : List Nat}
theorem RW.frS {S : List Nat} (h : RW V b t l) (hF : Fr S V V') (hb : b ∉ S) : RW V' b t l := hF.heap h hb
theorem RW.fr (h : RW V b t l) (hF : Fr [] V V') : RW V' b t l := hF.heap h (by simp)
theorem RW.alloc (h : RW V b t l) (o : Obj) : RW (V.alloc o) b t l := h.fr ((Fr.refl [] V).alloc o)
theorem RW.lt (h : RW V b t l) : b < V.heap.size := lt_of_heap h
theorem RW.cell (h : RW V b t l) (i : Nat) (hi : i < l.length) : V.cell? ⟨b, i, none⟩ = some (.int .u64 ((l.getD i 0 : Nat) : Int)) :=
  cell_of_heap h (by simp [wc, hi])
theorem RW.frozen (h : RW V b t l) (i : Nat) : V.frozen? ⟨b, i, none⟩ = false := frozen_of_heap h
theorem RW.set (h : RW V b t l) (i x : Nat) : RW (V.setCell ⟨b, i, none⟩ (.int .u64 ((x : Nat) : Int))) b t (l.set i x) := by
  have h2 := heap_setCell_same V b i _ t (.int .u64 ((x : Nat) : Int)) h
  unfold RW
  rw [h2]
  congr 2
  simp [wc, List.map_set]
theorem RW.other (h : RW V b t l) {p : Addr} (hne : b ≠ p.block) (u : Value) : RW (V.setCell p u) b t l := by
  unfold RW
  rw [heap_setCell_other _ _ _ _ hne]; exact h
theorem RW.ext (h : RW V b t l) (x : World) : RW (Go.Proofs.YtpdagpjjlnncbaaDoor.ext V x) b t l := h.fr (ext_fr V x)
end
theorem L4.frS {S : List Nat} {V V' : World} {b t : Nat} {v0 v1 v2 v3 : Value} (h : L4 V b t v0 v1 v2 v3) (hF : Fr S V V') (hb : b ∉ S) : L4 V' b t v0 v1 v2 v3 := hF.heap h hb
/-- The word i of a number. -/
def wo (N i : Nat) : Nat := N / 2 ^ (64 * i) % 18446744073709551616
def dw (N n : Nat) : List Nat := (List.range n).map (wo N)
theorem dw_len (N n : Nat) : (dw N n).length = n := by simp [dw]
theorem dw_get (N n i : Nat) (h : i < n) : (dw N n).getD i 0 = wo N i := by simp [dw, h]
theorem wo_lt (N i : Nat) : wo N i < 18446744073709551616 := Nat.mod_lt _ (by decide)
/-- The bit of a digit is the number's. -/
theorem dig_bit {k r : Nat} (hr : r < k) (v q : Nat) : v / 2 ^ (k * q) % 2 ^ k / 2 ^ r % 2 = v / 2 ^ (k * q + r) % 2 := by
  obtain ⟨d, rfl⟩ : ∃ d, k = r + 1 + d := ⟨k - r - 1, by omega⟩
  have h : 2 ^ (r + 1 + d) = 2 ^ r * (2 * 2 ^ d) := by rw [Nat.pow_add, Nat.pow_succ, Nat.mul_assoc]
  rw [show ∀ a : Nat, a % 2 ^ (r + 1 + d) = a % (2 ^ r * (2 * 2 ^ d)) from fun a => by rw [h], Nat.mod_mul_right_div_self, Nat.mod_mul_right_mod, Nat.div_div_eq_div_mul, ← Nat.pow_add]
theorem wo_bit (N i j : Nat) (h : j < 64) : wo N i / 2 ^ j % 2 = N / 2 ^ (64 * i + j) % 2 := dig_bit (k := 64) h N i
theorem push_mod (N m L : Nat) : (2 * (N / 2 ^ (m + 1) % L) + N / 2 ^ m % 2) % L = N / 2 ^ m % L := by
  have e : N / 2 ^ (m + 1) = N / 2 ^ m / 2 := by rw [Nat.pow_succ, Nat.div_div_eq_div_mul]
  rw [e]
  generalize N / 2 ^ m = Q
  have h : Q = 2 * (Q / 2) + Q % 2 := by omega
  generalize Q / 2 = x at *
  generalize Q % 2 = r at *
  subst h
  rw [Nat.add_mod, Nat.mul_mod, Nat.mod_mod, ← Nat.mul_mod, ← Nat.add_mod]
theorem and_one64 (a : Nat) (ha : a < 18446744073709551616) : bits .and .u64 (a : Int) 1 = ((a % 2 : Nat) : Int) := by
  have h := bits_and_u64_nat a 1 ha (by decide)
  rw [nat_mask1] at h
  exact h
theorem mod_ltL (x : Nat) : x % Lq < Lq := Nat.mod_lt _ Lq_pos
theorem lt4 {a : Nat} (h : a < Lq) : a < 115792089237316195423570985008687907853269984665640564039457584007913129639936 := by have := Lq_lt; omega

theorem modulo_any (N n b t : Nat) (hn : n ≤ 8) (hN : N / 2 ^ (64 * n) = 0) (w : World) (hP : PV w) (hR : RW w b t (dw N n)) : Calls Tryd.prog 48 #[.slice (some ⟨b, 0, none⟩) n n] w fun e w' => e = .returned (wd (N % Lq)) ∧ Fr [] w w' := by
  have hP2 := hid (p := _) hP
  have HR := hid (p := _) hR
  have HN := hid (p := _) hN
  obtain ⟨c0, c1, c2, c3, -, -, -, -, -, wc'⟩ := wd_open (N % Lq) (lt4 (mod_ltL N))
  rw [wc']
  have HC := hid (p := _) wc'
  clear wc' hP hR hN
  go_enter Tryd.func48, Tryd.ntmps48
  go_wp2_with fail
  go_loopg [4] n (fun gk q wr => ∃ (k : Nat) (z : Int), k ≤ n ∧ gk = k ∧ q = .int .i64 z ∧ z = (k : Int) - 1 ∧ Hid (Fr [] w wr ∧ LE wr (w.heap.size + 1) 44 (N / 2 ^ (64 * k) % Lq) ∧ L4 wr w.heap.size 44 (.int .u64 0) (.int .u64 0) (.int .u64 0) (.int .u64 0)))
  case atStart =>
    refine ⟨n, _, Nat.le_refl _, rfl, rfl, by go_num, hid ⟨((Fr.refl [] w).alloc _).alloc _, ?_, (L4.new w 44 _ _ _ _).alloc _⟩⟩
    rw [HN.out, Nat.zero_mod]
    exact (LE.iff (v := 0) rfl).2 (L4.new1 w _ 44 _ _ _ _)
  case round =>
    obtain ⟨k, z, hk, hgk, rfl, hz, K1⟩ := hrel
    by_cases hk0 : 0 < k
    · obtain ⟨i, rfl⟩ : ∃ i, k = i + 1 := ⟨k - 1, by omega⟩
      obtain rfl : z = (i : Int) := by omega
      clear hz
      go_wp2_with fail
      go_loopg [5] 64 (fun gj q wr => ∃ (j : Nat) (y : Int), j ≤ 64 ∧ gj = j ∧ q = .int .i64 y ∧ y = (j : Int) - 1 ∧ Hid (Fr [] w wr ∧ LE wr (w.heap.size + 1) 44 (N / 2 ^ (64 * i + j) % Lq) ∧ L4 wr w.heap.size 44 (.int .u64 0) (.int .u64 0) (.int .u64 0) (.int .u64 0)))
      case atStart => exact ⟨64, _, Nat.le_refl _, rfl, rfl, rfl, K1⟩
      case round =>
        clear K1
        obtain ⟨j, y, hj, hgj, rfl, hy, K⟩ := hrel
        by_cases hj0 : 0 < j
        · obtain ⟨j, rfl⟩ : ∃ i, j = i + 1 := ⟨j - 1, by omega⟩
          obtain rfl : y = (j : Int) := by omega
          have hlt : (i : Int) < (n : Int) := by omega
          have hbit := wo_bit N i j (by omega)
          have hwl := wo_lt N i
          have f1 : bits .and .u64 (((wo N i : Nat) : Int) / 2 ^ j) 1 = ((N / 2 ^ (64 * i + j) % 2 : Nat) : Int) := by
            have e : ((wo N i : Int) / 2 ^ j) = ((wo N i / 2 ^ j : Nat) : Int) := by rw [Int.natCast_ediv, Int.natCast_pow]; rfl
            rw [e, ← hbit]
            exact and_one64 _ (Nat.lt_of_le_of_lt (Nat.div_le_self _ _) hwl)
          have R := HR.out.fr K.out.1
          have c1 := R.cell i (by rw [dw_len]; omega)
          rw [dw_get _ _ _ (by omega)] at c1
          have KP := push_any (N / 2 ^ (64 * i + j + 1) % Lq) (N / 2 ^ (64 * i + j) % 2) (w.heap.size + 1) (mod_ltL _) (by omega) wr (hP2.out.fr K.out.1 (by simp)) K.out.2.1
          rw [push_mod] at KP
          have HK := hid (p := _) KP
          have HF := hid (p := _) K.out.1
          have HZ := hid (p := _) K.out.2.2
          clear K KP R hbit hwl hy
          generalize N / 2 ^ (64 * i + j) % 2 = bt at *
          generalize wo N i = x at *
          go_wp2_with (go_at_call 79; with_reducible refine HK.out.mono ?_; rintro e V ⟨rfl, hF, hE⟩; have HE := hid (p := _) hE; have HF2 := hid (p := _) hF; clear hF hE)
          go_roundg j
          case measure => omega
          case rel =>
            exact ⟨j, _, by omega, rfl, by go_num, rfl, hid ⟨HF.out.trans HF2.out (by simp), HE.out, HZ.out.frS HF2.out (by simp)⟩⟩
        · obtain rfl : j = 0 := by omega
          have hy2 : ¬ (0 : Int) ≤ y := by omega
          go_wp2_with fail
          go_roundg i
          case measure => omega
          case rel => exact ⟨i, _, by omega, rfl, by go_num, rfl, K⟩
    · obtain rfl : k = 0 := by omega
      have hz2 : ¬ (0 : Int) ≤ z := by omega
      have A := K1.out.2.1
      rw [Nat.mul_zero, Nat.pow_zero, Nat.div_one] at A
      have A := (LE.iff HC.out).1 A
      have C := K1.out.2.2
      have F := K1.out.1
      obtain ⟨a0c, a1c, a2c, a3c, a4c, a5c, a6c, a7c, a8c, a9c⟩ := A.all
      obtain ⟨x0c, x1c, x2c, x3c, x4c, x5c, x6c, x7c, x8c, x9c⟩ := C.all
      clear K1 HN HR hP2 HC hn hk hgk hk0 hz
      go_wp2_with fail
      simp [bodyPost, results, Tryd.results48, go_sem, *]
      exact F.set4 (by omega) _ _ _ _
end Go.Proofs.YtpdagpjjlnncbaaDoor.Ord
namespace Go.Proofs.YtpdagpjjlnncbaaDoor.Ord
open Go.RowKit Go.Lib Go.BigFrame
set_option linter.unusedVariables false
set_option linter.unusedSimpArgs false
set_option maxRecDepth 1000000
set_option maxHeartbeats 4000000

/-- A byte of a text. -/
def byt (s : ByteArray) (i : Nat) : Nat := (s.data.getD i 0).toNat
theorem byt_lt (s : ByteArray) (i : Nat) : byt s i < 256 := (s.data.getD i 0).toNat_lt
theorem byt_get (s : ByteArray) (i : Nat) (h : i < s.size) : s[i].toNat = byt s i := by
  have h2 : i < s.data.size := h
  unfold byt
  rw [Array.getD_eq_getD_getElem?, Array.getElem?_eq_getElem h2]
  rfl
/-- The number of the first i bytes. -/
def rd (s : ByteArray) : Nat → Nat
  | 0 => 0
  | i + 1 => rd s i + byt s i * 256 ^ i
theorem rd_lt (s : ByteArray) : ∀ i, rd s i < 256 ^ i
  | 0 => by rw [rd, Nat.pow_zero]; omega
  | i + 1 => by
    have h := rd_lt s i
    have h2 : byt s i ≤ 255 := by have := byt_lt s i; omega
    have h3 := Nat.mul_le_mul_right (256 ^ i) h2
    rw [rd, Nat.pow_succ]
    omega
def dg (v : Nat) : Nat → Nat
  | 0 => v % 18446744073709551616
  | 1 => v / 18446744073709551616 % 18446744073709551616
  | 2 => v / 340282366920938463463374607431768211456 % 18446744073709551616
  | 3 => v / 6277101735386680763835789423207666416102355444464034512896 % 18446744073709551616
  | _ => 0
def MQ : Nat → Nat
  | 0 => 1
  | 1 => 18446744073709551616
  | 2 => 340282366920938463463374607431768211456
  | _ => 6277101735386680763835789423207666416102355444464034512896
theorem MQ_pow : ∀ i, i < 32 → MQ (i / 8) * 2 ^ (i % 8 * 8) = 256 ^ i := by
  have : ∀ i : Fin 32, MQ (i.1 / 8) * 2 ^ (i.1 % 8 * 8) = 256 ^ i.1 := by decide +kernel
  exact fun i h => this ⟨i, h⟩
theorem pow_le56 : ∀ i, i < 8 → 2 ^ (i * 8) ≤ 72057594037927936 := by
  have : ∀ i : Fin 8, 2 ^ (i.1 * 8) ≤ 72057594037927936 := by decide +kernel
  exact fun i h => this ⟨i, h⟩
theorem LE.cell {V : World} {b t v : Nat} (h : LE V b t v) (q : Nat) (hq : q < 4) : V.cell? ⟨b, q, none⟩ = some (.int .u64 (dg v q : Nat)) ∧ V.frozen? ⟨b, q, none⟩ = false := by
  obtain ⟨h0, h1, h2, h3, f0, f1, f2, f3, -, -⟩ := L4.all h
  match q, hq with
  | 0, _ => exact ⟨h0, f0⟩
  | 1, _ => exact ⟨h1, f1⟩
  | 2, _ => exact ⟨h2, f2⟩
  | 3, _ => exact ⟨h3, f3⟩
/-- A byte of a number. -/
def vb (v j : Nat) : Nat := v / 256 ^ j % 256
def vbs (v : Nat) : List Int := (List.range 32).map fun j => ((vb v j : Nat) : Int)
/-- The 32 bytes of a number. -/
def by32 (v : Nat) : ByteArray := (vbs v).foldl (fun r n => r.push (UInt8.ofNat n.toNat)) ByteArray.empty
theorem vb_split {a r k c : Nat} (R : Nat) (hk : k = R * (256 * c)) : a % k / R % 256 = a / R % 256 := by
  rw [hk, Nat.mod_mul_right_div_self, Nat.mod_mul_right_mod]
theorem M_split : ∀ r, r < 8 → ∃ c, 18446744073709551616 = 2 ^ (r * 8) * (256 * c) := fun r h => by
  match r, h with
  | 0, _ => exact ⟨72057594037927936, by decide⟩
  | 1, _ => exact ⟨281474976710656, by decide⟩
  | 2, _ => exact ⟨1099511627776, by decide⟩
  | 3, _ => exact ⟨4294967296, by decide⟩
  | 4, _ => exact ⟨16777216, by decide⟩
  | 5, _ => exact ⟨65536, by decide⟩
  | 6, _ => exact ⟨256, by decide⟩
  | 7, _ => exact ⟨1, by decide⟩
theorem dg_MQ (v q : Nat) (hq : q < 4) : dg v q = v / MQ q % 18446744073709551616 := by
  match q, hq with
  | 0, _ => simp [dg, MQ]
  | 1, _ => rfl
  | 2, _ => rfl
  | 3, _ => rfl
theorem vb_dg (v i : Nat) (hi : i < 32) : dg v (i / 8) / 2 ^ (i % 8 * 8) % 256 = vb v i := by
  obtain ⟨c, hc⟩ := M_split (i % 8) (by omega)
  rw [dg_MQ _ _ (by omega), vb_split (r := 0) _ hc, Nat.div_div_eq_div_mul, MQ_pow i hi]
  rfl
/-- The bytes written so far. -/
def BW (V : World) (b v i : Nat) : Prop := ∃ cs : Array Value, V.heap[b]? = some (.cells cs 54) ∧ cs.size = 32 ∧ ∀ j, j < i → cs[j]? = some (.int .u8 (vb v j : Nat))
theorem BW.cell {V : World} {b v i : Nat} (h : BW V b v i) (j : Nat) (hj : j < 32) : ∃ x, V.cell? ⟨b, j, none⟩ = some x ∧ V.frozen? ⟨b, j, none⟩ = false := by
  obtain ⟨cs, h1, h2, -⟩ := h
  exact ⟨cs[j], cell_of_heap h1 (Array.getElem?_eq_getElem (by omega)), frozen_of_heap h1⟩
theorem BW.set {V : World} {b v i : Nat} (h : BW V b v i) (hi : i < 32) : BW (V.setCell ⟨b, i, none⟩ (.int .u8 (vb v i : Nat))) b v (i + 1) := by
  obtain ⟨cs, h1, h2, h3⟩ := h
  refine ⟨_, heap_setCell_same V b i cs 54 _ h1, by simp [h2], fun j hj => ?_⟩
  by_cases e : i = j
  · subst e; rw [Array.getElem?_setIfInBounds_self_of_lt (by omega)]
  · rw [Array.getElem?_setIfInBounds_ne e]; exact h3 j (by omega)
theorem conv_bytes {V : World} {b v : Nat} (h : BW V b v 32) : (convert 61 9 (.slice (some ⟨b, 0, none⟩) 32 32)).run Tryd.prog V = .ok (.string (by32 v)) V := by
  obtain ⟨cs, h1, h2, h3⟩ := h
  rw [run_convert_bytes_string V 61 9 5 _ _ _ (by kernel_rfl) (by kernel_rfl) (by kernel_rfl)]
  refine run_bytesToString V _ 32 32 (vbs v) ?_
  have hl : ((vbs v).map (Value.int .u8)).length = 32 := by simp [vbs]
  have := run_loadCells_list (P := Tryd.prog) (w := V) ⟨b, 0, none⟩ ((vbs v).map (Value.int .u8)) (fun j u hu => by
    have hj : j < 32 := by
      rcases Nat.lt_or_ge j 32 with h | h
      · exact h
      · rw [List.getElem?_eq_none (by omega)] at hu; cases hu
    have hadd : (⟨b, 0, none⟩ : Addr).add j = ⟨b, j, none⟩ := by unfold Addr.add; split <;> simp_all
    rw [hadd, cell_of_heap h1 (h3 j hj), ← hu]
    simp [vbs, hj])
  rw [hl] at this
  exact this

theorem heap_new1 (V : World) (o q : Obj) : ((V.alloc o).alloc q).heap[V.heap.size + 1]? = some q := by
  have := (MapKept.heap_alloc (V.alloc o) q).1
  simpa using this
theorem write_any (v : Nat) (hv : v < 115792089237316195423570985008687907853269984665640564039457584007913129639936) (w : World) : Calls Tryd.prog 82 #[wd v] w fun e w' => e = .returned (.string (by32 v)) ∧ Fr [] w w' := by
  obtain ⟨c0, c1, c2, c3, -, -, -, -, -, wc⟩ := wd_open v hv
  rw [wc]
  have HC := hid (p := _) wc
  clear wc
  have hu37 : Tryd.prog.underlying 54 = some (.array 32 5) := by kernel_rfl
  go_enter Tryd.func82, Tryd.ntmps82
  go_wp2_with fail
  go_loopg [5] 32 (fun gk q wr => ∃ i : Nat, i ≤ 32 ∧ gk = 32 - i ∧ q = .int .i64 i ∧ Hid (Fr [] w wr ∧ LE wr w.heap.size 44 v ∧ BW wr (w.heap.size + 1) v i))
  case atStart =>
    refine ⟨0, Nat.zero_le _, rfl, rfl, hid ⟨((Fr.refl [] w).alloc _).alloc _, (LE.iff HC.out).2 ((L4.new w 44 _ _ _ _).alloc _), ?_⟩⟩
    exact ⟨_, heap_new1 w _ _, rfl, fun j hj => by omega⟩
  case round =>
    obtain ⟨i, hi, hgk, rfl, K⟩ := hrel
    by_cases hlt : i < 32
    · have hlt' : (i : Int) < 32 := by omega
      have hq : i / 8 < 4 := by omega
      have c1 := (K.out.2.1.cell (i / 8) hq).1
      obtain ⟨y, c2, c3⟩ := K.out.2.2.cell i hlt
      have hb := vb_dg v i hlt
      have h3 : IntKind.u8.wrap (((dg v (i / 8) : Nat) : Int) / 2 ^ (i % 8 * 8)) = ((vb v i : Nat) : Int) := by
        have e : (((dg v (i / 8) : Nat) : Int) / 2 ^ (i % 8 * 8)) = ((dg v (i / 8) / 2 ^ (i % 8 * 8) : Nat) : Int) := by rw [Int.natCast_ediv, Int.natCast_pow]; rfl
        rw [e, IntKind.wrap_u8', ← hb]; omega
      have KN := hid (p := _) (K.out.2.2.set hlt)
      have KF := hid (p := _) K.out.1
      have KA := hid (p := _) K.out.2.1
      generalize vb v i = B at *
      generalize dg v (i / 8) = x at *
      clear hb K
      go_wp2_with fail
      go_roundg (32 - (i + 1))
      case measure => omega
      case rel =>
        refine ⟨i + 1, by omega, rfl, by go_num, hid ⟨KF.out.setCell (.inr (by show w.heap.size ≤ w.heap.size + 1; omega)) _, ?_, KN.out⟩⟩
        have h5 := KA.out
        unfold LE L4 at h5 ⊢
        rw [heap_setCell_other _ _ _ _ (by show w.heap.size ≠ w.heap.size + 1; omega)]
        exact h5
    · obtain rfl : i = 32 := by omega
      have hconv := conv_bytes K.out.2.2
      have F := K.out.1
      clear K
      go_wp2_with fail
      go_ret
      exact ⟨rfl, F⟩


theorem bytes_any (v : Nat) (hv : v < 115792089237316195423570985008687907853269984665640564039457584007913129639936) (w : World) : Calls Tryd.prog 54 #[wd v] w fun e w' => e = .returned (.string (by32 v)) ∧ Fr [] w w' := by
  have K := fun W => write_any v hv W
  obtain ⟨c0, c1, c2, c3, -, -, -, -, -, wc⟩ := wd_open v hv
  rw [wc] at K
  rw [wc]
  have H := hid (p := _) K
  clear K wc
  generalize by32 v = s at *
  go_enter Tryd.func54, Tryd.ntmps54
  go_wp2_with (go_at_call 82; refine (H.out _).mono ?_; rintro e V ⟨rfl, hF⟩; have F := ((Fr.refl [] w).alloc _).trans0 hF; clear hF)
  go_ret
  exact ⟨rfl, F⟩
theorem by32_data (v : Nat) : (by32 v).data = ((List.range 32).map fun j => UInt8.ofNat (vb v j)).toArray := by
  have h : ∀ (l : List Nat) (s : ByteArray), ((l.map fun j => ((vb v j : Nat) : Int)).foldl (fun r n => r.push (UInt8.ofNat n.toNat)) s).data = s.data ++ (l.map fun j => UInt8.ofNat (vb v j)).toArray := by
    intro l
    induction l with
    | nil => intro s; simp
    | cons x l ih =>
      intro s
      rw [List.map_cons, List.foldl_cons, ih]
      show (s.data.push _) ++ _ = _
      simp
  have := h (List.range 32) ByteArray.empty
  rw [by32, vbs, this]
  show #[] ++ _ = _
  simp
theorem by32_size (v : Nat) : (by32 v).size = 32 := by
  show (by32 v).data.size = 32
  rw [by32_data]; simp


end Go.Proofs.YtpdagpjjlnncbaaDoor.Ord
