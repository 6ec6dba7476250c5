/-
  Package order: MulAdd, Clamp; the document's Order and Bytes. No statement is proved here.
-/
import Derived.Test.YtgjpombdkgomaaaDoorOrdH
import Derived.Laws.IdiomStrings
namespace Go.Proofs.YtgjpombdkgomaaaDoor
open Go.RowKit Go.Lib Go.BigFrame
set_option linter.unusedVariables false
set_option linter.unusedSimpArgs false
set_option maxRecDepth 1000000
set_option maxHeartbeats 4000000

theorem L4.new3 (V : World) (o p q : Obj) (t : Nat) (v0 v1 v2 v3 : Value) : L4 ((((V.alloc o).alloc p).alloc q).alloc (.cells #[v0, v1, v2, v3] t)) (V.heap.size + 3) t v0 v1 v2 v3 := by
  have := L4.new (((V.alloc o).alloc p).alloc q) t v0 v1 v2 v3
  simpa using this
theorem RW.new8 (V : World) (t x0 x1 x2 x3 x4 x5 x6 x7 : Nat) : RW (V.alloc (.cells #[.int .u64 (x0 : Nat), .int .u64 (x1 : Nat), .int .u64 (x2 : Nat), .int .u64 (x3 : Nat), .int .u64 (x4 : Nat), .int .u64 (x5 : Nat), .int .u64 (x6 : Nat), .int .u64 (x7 : Nat)] t)) V.heap.size t [x0, x1, x2, x3, x4, x5, x6, x7] := (MapKept.heap_alloc V _).1
theorem prod_top {N e p q : Nat} (he : e = p + q) (h : N < 2 ^ p * 2 ^ q) : N / 2 ^ e = 0 := by
  rw [he, Nat.pow_add]; exact Nat.div_eq_of_lt h
theorem sum_lt {a b c m : Nat} (ha : a < m) (hb : b < m) (hc : c < m) : a * b + c < m * m := by
  have h1 : a * b ≤ (m - 1) * (m - 1) := Nat.mul_le_mul (by omega) (by omega)
  obtain ⟨n, rfl⟩ : ∃ n, m = n + 1 := ⟨m - 1, by omega⟩
  rw [Nat.add_sub_cancel] at h1
  rw [Nat.mul_add, Nat.add_mul, Nat.one_mul, Nat.mul_one]
  omega
theorem muladd_any (a b c : Nat) (ha : a < 115792089237316195423570985008687907853269984665640564039457584007913129639936) (hb : b < 115792089237316195423570985008687907853269984665640564039457584007913129639936) (hc : c < 115792089237316195423570985008687907853269984665640564039457584007913129639936) (w : World) (hP : PV w) : Calls Tryd.prog 15 #[wd a, wd b, wd c] w fun e w' => e = .returned (wd ((a * b + c) % Lq)) ∧ Fr [] w w' := by
  have hP2 := hid (p := _) hP
  have ht := prod_top (N := a * b + c) (e := 64 * 8) (p := 256) (q := 256) (by omega) (sum_lt ha hb hc)
  have K1 := fun W => product_any a b c ha hb hc W
  have K2 := fun bb t W hW hR => modulo_any (a * b + c) 8 bb t (Nat.le_refl _) ht W hW hR
  obtain ⟨a0, a1, a2, a3, -, -, -, -, -, wa⟩ := wd_open a ha
  obtain ⟨b0, b1, b2, b3, -, -, -, -, -, wb⟩ := wd_open b hb
  obtain ⟨c0, c1, c2, c3, -, -, -, -, -, wc'⟩ := wd_open c hc
  obtain ⟨r0, r1, r2, r3, -, -, -, -, -, wr⟩ := wd_open ((a * b + c) % Lq) (lt4 (mod_ltL _))
  obtain ⟨x0, x1, x2, x3, x4, x5, x6, x7, ex⟩ := open8 (dw (a * b + c) 8) (dw_len _ _)
  rw [wa, wb, wc', ex] at K1
  rw [wr, ex] at K2
  rw [wa, wb, wc', wr]
  have H1 : Hid (∀ W : World, Calls Tryd.prog 26 #[.agg #[.int .u64 (a0 : Nat), .int .u64 (a1 : Nat), .int .u64 (a2 : Nat), .int .u64 (a3 : Nat)], .agg #[.int .u64 (b0 : Nat), .int .u64 (b1 : Nat), .int .u64 (b2 : Nat), .int .u64 (b3 : Nat)], .agg #[.int .u64 (c0 : Nat), .int .u64 (c1 : Nat), .int .u64 (c2 : Nat), .int .u64 (c3 : Nat)]] W fun e w' => e = .returned (.agg #[.int .u64 (x0 : Nat), .int .u64 (x1 : Nat), .int .u64 (x2 : Nat), .int .u64 (x3 : Nat), .int .u64 (x4 : Nat), .int .u64 (x5 : Nat), .int .u64 (x6 : Nat), .int .u64 (x7 : Nat)]) ∧ Fr [] W w') := hid K1
  have H2 := hid (p := _) K2
  clear K1 K2 wa wb wc' wr ex ht ha hb hc hP
  go_enter Tryd.func15, Tryd.ntmps15
  go_wp2_with (first | (go_at_call 26; with_reducible refine (H1.out _).mono ?_; rintro e V ⟨rfl, hF⟩; have F := hid (p := _) (((((Fr.refl [] w).alloc _).alloc _).alloc _).alloc _ |>.trans0 hF); have Z := hid (p := _) ((show L4 _ (w.heap.size + 1 + 1 + 1) 27 _ _ _ _ from (L4.new3 w _ _ _ 27 _ _ _ _)).fr hF); clear hF) | (go_at_call 20; with_reducible refine (H2.out _ _ _ (hP2.out.fr (F.out.alloc _) (by simp)) (RW.new8 V 52 x0 x1 x2 x3 x4 x5 x6 x7)).mono ?_; rintro e V2 ⟨rfl, hF⟩; have Z2 := (Z.out.alloc _).fr hF; have F2 := (F.out.alloc _).trans0 hF; obtain ⟨_, _, _, _, _, _, _, _, _, _⟩ := Z2.all; clear hF))
  simp [bodyPost, results, Tryd.results15, go_sem, *]
  exact F2.set4 (by omega) _ _ _ _

/-- 32 bytes in a row. -/
def BX (V : World) (b : Nat) (f : Nat → Int) : Prop := b < V.heap.size ∧ ∀ j, j < 32 → V.cell? ⟨b, j, none⟩ = some (.int .u8 (f j)) ∧ V.frozen? ⟨b, j, none⟩ = false
theorem BX.set {V : World} {b : Nat} {f : Nat → Int} (h : BX V b f) (k : Nat) (hk : k < 32) (z : Int) : BX (V.setCell ⟨b, k, none⟩ (.int .u8 z)) b (fun j => if j = k then z else f j) := by
  refine ⟨by simpa [World.setCell] using h.1, fun j hj => ⟨?_, ?_⟩⟩
  · by_cases e : j = k
    · subst e
      rw [World.cell?_setCell_same _ _ _ (h.2 j hj).1]; simp
    · rw [World.cell?_setCell_other _ _ _ _ (by simp <;> omega), (h.2 j hj).1]; simp [e]
  · rw [World.frozen?_setCell]; exact (h.2 j hj).2
/-- A text of 32 bytes. -/
def sbi (f : Nat → Int) : ByteArray := ((List.range 32).map f).foldl (fun r n => r.push (UInt8.ofNat n.toNat)) ByteArray.empty
theorem BX.back {V : World} {b : Nat} {f : Nat → Int} (h : BX V b f) (cap : Nat) : (convert 43 9 (.slice (some ⟨b, 0, none⟩) 32 cap)).run Tryd.prog V = .ok (.string (sbi f)) V := by
  rw [run_convert_bytes_string V 43 9 5 _ _ _ (by kernel_rfl) (by kernel_rfl) (by kernel_rfl)]
  refine run_bytesToString V _ 32 cap ((List.range 32).map f) ?_
  have hl : (((List.range 32).map f).map (Value.int .u8)).length = 32 := by simp
  have := run_loadCells_list (P := Tryd.prog) (w := V) ⟨b, 0, none⟩ (((List.range 32).map f).map (Value.int .u8)) (fun j u hu => by
    have hj : j < 32 := by
      rcases Nat.lt_or_ge j 32 with h | h
      · exact h
      · rw [List.getElem?_eq_none (by omega)] at hu; cases hu
    have hadd : (⟨b, 0, none⟩ : Addr).add j = ⟨b, j, none⟩ := by unfold Addr.add; split <;> simp_all
    rw [hadd, (h.2 j hj).1, ← hu]
    simp [hj])
  rw [hl] at this
  exact this
theorem conv_in (s : ByteArray) (hs : s.size = 32) (w : World) : ∃ (cap : Nat) (W : World), (convert 9 43 (.string s)).run Tryd.prog w = .ok (.slice (some ⟨w.heap.size, 0, none⟩) 32 cap) W ∧ Fr [] w W ∧ BX W w.heap.size (fun j => (byt s j : Nat)) := by
  have h := run_bytes_of_string (P := Tryd.prog) w 9 43 5 s (by kernel_rfl) (by kernel_rfl) (by kernel_rfl)
  refine ⟨_, _, by rw [h, hs], (Fr.refl [] w).drew.alloc _, ?_, fun j hj => ⟨?_, ?_⟩⟩
  · simp
  · have e := (MapKept.heap_alloc w.drew (.cells (bytesRow s (grownCap w s.size 0 5)) 5 ((bytesRow s (grownCap w s.size 0 5)).size, (bytesRow s (grownCap w s.size 0 5)).size + 1))).1
    have e' : (w.drew.alloc (.cells (bytesRow s (grownCap w s.size 0 5)) 5 ((bytesRow s (grownCap w s.size 0 5)).size, (bytesRow s (grownCap w s.size 0 5)).size + 1))).heap[w.heap.size]? = _ := e
    rw [hs] at e'
    refine cell_of_heap e' ?_
    have hd : s.data.size = 32 := hs
    unfold bytesRow byt
    rw [Array.getElem?_append_left (by simp; omega)]
    simp [hd, hj]
  · have e := (MapKept.heap_alloc w.drew (.cells (bytesRow s (grownCap w s.size 0 5)) 5 ((bytesRow s (grownCap w s.size 0 5)).size, (bytesRow s (grownCap w s.size 0 5)).size + 1))).1
    have e' : (w.drew.alloc (.cells (bytesRow s (grownCap w s.size 0 5)) 5 ((bytesRow s (grownCap w s.size 0 5)).size, (bytesRow s (grownCap w s.size 0 5)).size + 1))).heap[w.heap.size]? = _ := e
    rw [hs] at e'
    have hd : s.data.size = 32 := hs
    have hz : 32 ≤ (bytesRow s (grownCap w 32 0 5)).size := by unfold bytesRow; simp; omega
    unfold World.frozen?
    rw [e']
    simp
    omega
/-- The byte j of what Clamp makes. -/
def cl (s : ByteArray) (j : Nat) : Int := if j = 31 then bits .or .u8 (bits .andNot .u8 ((byt s 31 : Nat) : Int) 128) 64 else if j = 0 then bits .andNot .u8 ((byt s 0 : Nat) : Int) 7 else ((byt s j : Nat) : Int)
theorem clamp_yes (s : ByteArray) (hs : s.size = 32) (w : World) : Calls Tryd.prog 8 #[.string s] w fun e w' => e = .returned (.tuple #[.string (sbi (cl s)), .int .i64 0]) ∧ Fr [] w w' := by
  obtain ⟨cap, W, hcv, F, B⟩ := conv_in s hs w
  have hsi : (s.size : Int) = 32 := by omega
  have B1 := B.set 0 (by decide) (bits .andNot .u8 ((byt s 0 : Nat) : Int) 7)
  have B2 := B1.set 31 (by decide) (bits .andNot .u8 ((byt s 31 : Nat) : Int) 128)
  have B3 := B2.set 31 (by decide) (bits .or .u8 (bits .andNot .u8 ((byt s 31 : Nat) : Int) 128) 64)
  have hback := B3.back cap
  have e : (fun j => if j = 31 then bits .or .u8 (bits .andNot .u8 ((byt s 31 : Nat) : Int) 128) 64 else if j = 31 then bits .andNot .u8 ((byt s 31 : Nat) : Int) 128 else if j = 0 then bits .andNot .u8 ((byt s 0 : Nat) : Int) 7 else ((byt s j : Nat) : Int)) = cl s := by
    funext j
    unfold cl
    by_cases h : j = 31 <;> simp [h]
  rw [e] at hback
  have c0 := B.2 0 (by decide)
  have c31 := B.2 31 (by decide)
  obtain ⟨c0, g0⟩ := c0
  obtain ⟨c31, g31⟩ := c31
  have hl := B.1
  have HF := hid (p := _) F
  clear e B B1 B2 B3 F hs
  generalize sbi (cl s) = t at *
  go_enter Tryd.func8, Tryd.ntmps8
  go_wp2_with fail
  go_ret2
  exact ⟨rfl, ((HF.out.setCell (.inr (Nat.le_refl _)) _).setCell (.inr (Nat.le_refl _)) _).setCell (.inr (Nat.le_refl _)) _⟩
theorem clamp_no (s : ByteArray) (hs : s.size ≠ 32) (w : World) : Calls Tryd.prog 8 #[.string s] w fun e w' => e = .returned (.tuple #[.string ByteArray.empty, .int .i64 2]) ∧ Fr [] w w' := by
  have hsi : ¬ (s.size : Int) = 32 := by omega
  go_enter Tryd.func8, Tryd.ntmps8
  go_wp2_with fail
  go_ret2
  exact ⟨rfl, Fr.refl [] w⟩
end Go.Proofs.YtgjpombdkgomaaaDoor
