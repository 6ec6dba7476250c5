/-
  Package order: MulAdd, Clamp; the document's Order and Bytes. No statement is proved here.
-/
import Derived.Test.YtpdagpjjlnncbaaDoorOrdH
import Derived.Laws.IdiomStrings
import Derived.Deep.MidRow
namespace Go.Proofs.YtpdagpjjlnncbaaDoor.Ord
open Go.RowKit Go.Lib Go.BigFrame
set_option linter.unusedVariables false
set_option linter.unusedSimpArgs false
set_option maxRecDepth 1000000
set_option maxHeartbeats 4000000

theorem L4.new3 (V : World) (o p q : Obj) (t : Nat) (v0 v1 v2 v3 : Value) : L4 ((((V.alloc o).alloc p).alloc q).alloc (.cells #[v0, v1, v2, v3] t)) (V.heap.size + 3) t v0 v1 v2 v3 := by
  have := L4.new (((V.alloc o).alloc p).alloc q) t v0 v1 v2 v3
  simpa using this
theorem RW.new8 (V : World) (t x0 x1 x2 x3 x4 x5 x6 x7 : Nat) : RW (V.alloc (.cells #[.int .u64 (x0 : Nat), .int .u64 (x1 : Nat), .int .u64 (x2 : Nat), .int .u64 (x3 : Nat), .int .u64 (x4 : Nat), .int .u64 (x5 : Nat), .int .u64 (x6 : Nat), .int .u64 (x7 : Nat)] t)) V.heap.size t [x0, x1, x2, x3, x4, x5, x6, x7] := (MapKept.heap_alloc V _).1
theorem prod_top {N e p q : Nat} (he : e = p + q) (h : N < 2 ^ p * 2 ^ q) : N / 2 ^ e = 0 := by
  rw [he, Nat.pow_add]; exact Nat.div_eq_of_lt h
theorem sum_lt {a b c m : Nat} (ha : a < m) (hb : b < m) (hc : c < m) : a * b + c < m * m := by
  have h1 : a * b ≤ (m - 1) * (m - 1) := Nat.mul_le_mul (by omega) (by omega)
  obtain ⟨n, rfl⟩ : ∃ n, m = n + 1 := ⟨m - 1, by omega⟩
  rw [Nat.add_sub_cancel] at h1
  rw [Nat.mul_add, Nat.add_mul, Nat.one_mul, Nat.mul_one]
  omega
theorem muladd_any (a b c : Nat) (ha : a < 115792089237316195423570985008687907853269984665640564039457584007913129639936) (hb : b < 115792089237316195423570985008687907853269984665640564039457584007913129639936) (hc : c < 115792089237316195423570985008687907853269984665640564039457584007913129639936) (w : World) (hP : PV w) : Calls Tryd.prog 27 #[wd a, wd b, wd c] w fun e w' => e = .returned (wd ((a * b + c) % Lq)) ∧ Fr [] w w' := by
  have hP2 := hid (p := _) hP
  have ht := prod_top (N := a * b + c) (e := 64 * 8) (p := 256) (q := 256) (by omega) (sum_lt ha hb hc)
  have K1 := fun W => product_any a b c ha hb hc W
  have K2 := fun bb t W hW hR => modulo_any (a * b + c) 8 bb t (Nat.le_refl _) ht W hW hR
  obtain ⟨a0, a1, a2, a3, -, -, -, -, -, wa⟩ := wd_open a ha
  obtain ⟨b0, b1, b2, b3, -, -, -, -, -, wb⟩ := wd_open b hb
  obtain ⟨c0, c1, c2, c3, -, -, -, -, -, wc'⟩ := wd_open c hc
  obtain ⟨r0, r1, r2, r3, -, -, -, -, -, wr⟩ := wd_open ((a * b + c) % Lq) (lt4 (mod_ltL _))
  obtain ⟨x0, x1, x2, x3, x4, x5, x6, x7, ex⟩ := open8 (dw (a * b + c) 8) (dw_len _ _)
  rw [wa, wb, wc', ex] at K1
  rw [wr, ex] at K2
  rw [wa, wb, wc', wr]
  have H1 : Hid (∀ W : World, Calls Tryd.prog 60 #[.agg #[.int .u64 (a0 : Nat), .int .u64 (a1 : Nat), .int .u64 (a2 : Nat), .int .u64 (a3 : Nat)], .agg #[.int .u64 (b0 : Nat), .int .u64 (b1 : Nat), .int .u64 (b2 : Nat), .int .u64 (b3 : Nat)], .agg #[.int .u64 (c0 : Nat), .int .u64 (c1 : Nat), .int .u64 (c2 : Nat), .int .u64 (c3 : Nat)]] W fun e w' => e = .returned (.agg #[.int .u64 (x0 : Nat), .int .u64 (x1 : Nat), .int .u64 (x2 : Nat), .int .u64 (x3 : Nat), .int .u64 (x4 : Nat), .int .u64 (x5 : Nat), .int .u64 (x6 : Nat), .int .u64 (x7 : Nat)]) ∧ Fr [] W w') := hid K1
  have H2 := hid (p := _) K2
  clear K1 K2 wa wb wc' wr ex ht ha hb hc hP
  go_enter Tryd.func27, Tryd.ntmps27
  go_wp2_with (first | (go_at_call 60; with_reducible refine (H1.out _).mono ?_; rintro e V ⟨rfl, hF⟩; have F := hid (p := _) (((((Fr.refl [] w).alloc _).alloc _).alloc _).alloc _ |>.trans0 hF); have Z := hid (p := _) ((show L4 _ (w.heap.size + 1 + 1 + 1) 46 _ _ _ _ from (L4.new3 w _ _ _ 46 _ _ _ _)).fr hF); clear hF) | (go_at_call 48; with_reducible refine (H2.out _ _ _ (hP2.out.fr (F.out.alloc _) (by simp)) (RW.new8 V 92 x0 x1 x2 x3 x4 x5 x6 x7)).mono ?_; rintro e V2 ⟨rfl, hF⟩; have Z2 := (Z.out.alloc _).fr hF; have F2 := (F.out.alloc _).trans0 hF; obtain ⟨_, _, _, _, _, _, _, _, _, _⟩ := Z2.all; clear hF))
  simp [bodyPost, results, Tryd.results27, go_sem, *]
  exact F2.set4 (by omega) _ _ _ _

/-- 32 bytes in a row. -/
def BX (V : World) (b : Nat) (f : Nat → Int) : Prop := b < V.heap.size ∧ ∀ j, j < 32 → V.cell? ⟨b, j, none⟩ = some (.int .u8 (f j)) ∧ V.frozen? ⟨b, j, none⟩ = false
theorem BX.set {V : World} {b : Nat} {f : Nat → Int} (h : BX V b f) (k : Nat) (hk : k < 32) (z : Int) : BX (V.setCell ⟨b, k, none⟩ (.int .u8 z)) b (fun j => if j = k then z else f j) := by
  refine ⟨by simpa [World.setCell] using h.1, fun j hj => ⟨?_, ?_⟩⟩
  · by_cases e : j = k
    · subst e
      rw [World.cell?_setCell_same _ _ _ (h.2 j hj).1]; simp
    · rw [World.cell?_setCell_other _ _ _ _ (by simp <;> omega), (h.2 j hj).1]; simp [e]
  · rw [World.frozen?_setCell]; exact (h.2 j hj).2
/-- A text of 32 bytes. -/
def sbi (f : Nat → Int) : ByteArray := ((List.range 32).map f).foldl (fun r n => r.push (UInt8.ofNat n.toNat)) ByteArray.empty
theorem BX.back {V : World} {b : Nat} {f : Nat → Int} (h : BX V b f) (cap : Nat) : (convert 61 9 (.slice (some ⟨b, 0, none⟩) 32 cap)).run Tryd.prog V = .ok (.string (sbi f)) V := by
  rw [run_convert_bytes_string V 61 9 5 _ _ _ (by kernel_rfl) (by kernel_rfl) (by kernel_rfl)]
  refine run_bytesToString V _ 32 cap ((List.range 32).map f) ?_
  have hl : (((List.range 32).map f).map (Value.int .u8)).length = 32 := by simp
  have := run_loadCells_list (P := Tryd.prog) (w := V) ⟨b, 0, none⟩ (((List.range 32).map f).map (Value.int .u8)) (fun j u hu => by
    have hj : j < 32 := by
      rcases Nat.lt_or_ge j 32 with h | h
      · exact h
      · rw [List.getElem?_eq_none (by omega)] at hu; cases hu
    have hadd : (⟨b, 0, none⟩ : Addr).add j = ⟨b, j, none⟩ := by unfold Addr.add; split <;> simp_all
    rw [hadd, (h.2 j hj).1, ← hu]
    simp [hj])
  rw [hl] at this
  exact this
theorem conv_in (s : ByteArray) (hs : s.size = 32) (w : World) : ∃ (cap : Nat) (W : World), (convert 9 61 (.string s)).run Tryd.prog w = .ok (.slice (some ⟨w.heap.size, 0, none⟩) 32 cap) W ∧ Fr [] w W ∧ BX W w.heap.size (fun j => (byt s j : Nat)) := by
  have h := run_bytes_of_string (P := Tryd.prog) w 9 61 5 s (by kernel_rfl) (by kernel_rfl) (by kernel_rfl)
  refine ⟨_, _, by rw [h, hs], (Fr.refl [] w).drew.alloc _, ?_, fun j hj => ⟨?_, ?_⟩⟩
  · simp
  · have e := (MapKept.heap_alloc w.drew (.cells (bytesRow s (grownCap w s.size 0 5)) 5 ((bytesRow s (grownCap w s.size 0 5)).size, (bytesRow s (grownCap w s.size 0 5)).size + 1))).1
    have e' : (w.drew.alloc (.cells (bytesRow s (grownCap w s.size 0 5)) 5 ((bytesRow s (grownCap w s.size 0 5)).size, (bytesRow s (grownCap w s.size 0 5)).size + 1))).heap[w.heap.size]? = _ := e
    rw [hs] at e'
    refine cell_of_heap e' ?_
    have hd : s.data.size = 32 := hs
    unfold bytesRow byt
    rw [Array.getElem?_append_left (by simp; omega)]
    simp [hd, hj]
  · have e := (MapKept.heap_alloc w.drew (.cells (bytesRow s (grownCap w s.size 0 5)) 5 ((bytesRow s (grownCap w s.size 0 5)).size, (bytesRow s (grownCap w s.size 0 5)).size + 1))).1
    have e' : (w.drew.alloc (.cells (bytesRow s (grownCap w s.size 0 5)) 5 ((bytesRow s (grownCap w s.size 0 5)).size, (bytesRow s (grownCap w s.size 0 5)).size + 1))).heap[w.heap.size]? = _ := e
    rw [hs] at e'
    have hd : s.data.size = 32 := hs
    have hz : 32 ≤ (bytesRow s (grownCap w 32 0 5)).size := by unfold bytesRow; simp; omega
    unfold World.frozen?
    rw [e']
    simp
    omega
/-- The byte j of what Clamp makes. -/
def cl (s : ByteArray) (j : Nat) : Int := if j = 31 then bits .or .u8 (bits .andNot .u8 ((byt s 31 : Nat) : Int) 128) 64 else if j = 0 then bits .andNot .u8 ((byt s 0 : Nat) : Int) 7 else ((byt s j : Nat) : Int)
end Go.Proofs.YtpdagpjjlnncbaaDoor.Ord
namespace Go.Proofs.YtpdagpjjlnncbaaDoor.Ord
open Go.RowKit Go.Lib Go.BigFrame
set_option linter.unusedVariables false
set_option linter.unusedSimpArgs false
set_option maxRecDepth 1000000
set_option maxHeartbeats 4000000

/-- A row of bytes in a block of its own. -/
def bc (l : List Nat) : Array Value := (l.map fun x => Value.int .u8 ((x : Nat) : Int)).toArray
def RB (V : World) (b t : Nat) (l : List Nat) : Prop := V.heap[b]? = some (.cells (bc l) t)
section
variable {V V' : World} {b t : Nat} {l : List Nat}
theorem RB.fr (h : RB V b t l) (hF : Fr [] V V') : RB V' b t l := hF.heap h (by simp)
theorem RB.alloc (h : RB V b t l) (o : Obj) : RB (V.alloc o) b t l := h.fr ((Fr.refl [] V).alloc o)
theorem RB.lt (h : RB V b t l) : b < V.heap.size := lt_of_heap h
theorem RB.cell (h : RB V b t l) (i : Nat) (hi : i < l.length) : V.cell? ⟨b, i, none⟩ = some (.int .u8 ((l.getD i 0 : Nat) : Int)) :=
  cell_of_heap h (by simp [bc, hi])
theorem RB.frozen (h : RB V b t l) (i : Nat) : V.frozen? ⟨b, i, none⟩ = false := frozen_of_heap h
theorem RB.set (h : RB V b t l) (i x : Nat) : RB (V.setCell ⟨b, i, none⟩ (.int .u8 ((x : Nat) : Int))) b t (l.set i x) := by
  have h2 := heap_setCell_same V b i _ t (.int .u8 ((x : Nat) : Int)) h
  unfold RB
  rw [h2]
  congr 2
  simp [bc, List.map_set]
theorem RB.other (h : RB V b t l) {p : Addr} (hne : b ≠ p.block) (u : Value) : RB (V.setCell p u) b t l := by
  unfold RB
  rw [heap_setCell_other _ _ _ _ hne]; exact h
theorem RB.ext (h : RB V b t l) (x : World) : RB (Go.Proofs.YtpdagpjjlnncbaaDoor.ext V x) b t l := h.fr (ext_fr V x)
end
def vbl (x : Nat) : List Nat := (List.range 32).map (vb x)
theorem vbl_len (x : Nat) : (vbl x).length = 32 := by simp [vbl]
theorem vbl_get (x i : Nat) (h : i < 32) : (vbl x).getD i 0 = vb x i := by simp [vbl, h]
theorem RB.frS {S : List Nat} {V V' : World} {b t : Nat} {l : List Nat} (h : RB V b t l) (hF : Fr S V V') (hb : b ∉ S) : RB V' b t l := hF.heap h hb
theorem vb_lt (v j : Nat) : vb v j < 256 := Nat.mod_lt _ (by decide)
theorem conv_rb {V : World} {b v : Nat} (h : RB V b 5 (vbl v)) : (convert 61 9 (.slice (some ⟨b, 0, none⟩) 32 32)).run Tryd.prog V = .ok (.string (by32 v)) V := by
  rw [run_convert_bytes_string V 61 9 5 _ _ _ (by kernel_rfl) (by kernel_rfl) (by kernel_rfl)]
  refine run_bytesToString V _ 32 32 (vbs v) ?_
  have hl : ((vbs v).map (Value.int .u8)).length = 32 := by simp [vbs]
  have := run_loadCells_list (P := Tryd.prog) (w := V) ⟨b, 0, none⟩ ((vbs v).map (Value.int .u8)) (fun j u hu => by
    have hj : j < 32 := by
      rcases Nat.lt_or_ge j 32 with h | h
      · exact h
      · rw [List.getElem?_eq_none (by omega)] at hu; cases hu
    have hadd : (⟨b, 0, none⟩ : Addr).add j = ⟨b, j, none⟩ := by unfold Addr.add; split <;> simp_all
    rw [hadd, h.cell j (by rw [vbl_len]; exact hj), vbl_get _ _ hj, ← hu]
    simp [vbs, hj])
  rw [hl] at this
  exact this
theorem info5 : ∃ i, Tryd.prog.info? 5 = some i ∧ i.zero = some (.int .u8 0) ∧ i.size = 1 ∧ i.bytes = 1 := infoOf (by kernel_rfl)
theorem made32 : madeCells #[.int .u8 0] 32 = bc (vbl 0) := by kernel_rfl
theorem make32 (w : World) : (Instr.makeSlice 61 (.int .i64 32) (.int .i64 32)).run Tryd.prog w = .ok (.slice (some ⟨w.heap.size, 0, none⟩) 32 32) (w.alloc (.cells (bc (vbl 0)) 5)) := by
  obtain ⟨i, hi, hz, hs, hb⟩ := info5
  have := run_make (P := Tryd.prog) w 61 5 i (.int .u8 0) (by kernel_rfl) hi hz .i64 .i64 32 32 (by omega) (by omega) (by rw [hb]; omega) (by omega)
  rw [← made32]
  simpa [hs, Value.cells] using this
/-- A number of the document's. -/
def nb (v : Nat) : Value := .agg (bc (vbl v))
theorem nb_L : nb Lq = .agg #[.int .u8 237, .int .u8 211, .int .u8 245, .int .u8 92, .int .u8 26, .int .u8 99, .int .u8 18, .int .u8 88, .int .u8 214, .int .u8 156, .int .u8 247, .int .u8 162, .int .u8 222, .int .u8 249, .int .u8 222, .int .u8 20, .int .u8 0, .int .u8 0, .int .u8 0, .int .u8 0, .int .u8 0, .int .u8 0, .int .u8 0, .int .u8 0, .int .u8 0, .int .u8 0, .int .u8 0, .int .u8 0, .int .u8 0, .int .u8 0, .int .u8 0, .int .u8 16] := by
  have h : vbl Lq = [237, 211, 245, 92, 26, 99, 18, 88, 214, 156, 247, 162, 222, 249, 222, 20, 0, 0, 0, 0, 0, 0, 0, 0, 0, 0, 0, 0, 0, 0, 0, 16] := by rw [Lq_val]; decide +kernel
  unfold nb
  rw [h]; rfl
theorem bc_toList (l : List Nat) : (bc l).toList = l.map fun x => Value.int .u8 ((x : Nat) : Int) := rfl
theorem RB.range {V : World} {b t : Nat} {l : List Nat} (h : RB V b t l) : V.rangeAt b 0 (l.map fun x => Value.int .u8 ((x : Nat) : Int)) := fun j v hv => by
  rw [Nat.zero_add]
  exact cell_of_heap h (by simpa [bc] using hv)
theorem RB.load {V : World} {b t v : Nat} (h : RB V b t (vbl v)) : (loadVar 55 ⟨b, 0, none⟩).run Tryd.prog V = .ok (nb v) V :=
  run_loadVar_mid V b 0 55 ((vbl v).map fun x => Value.int .u8 ((x : Nat) : Int)) (.array 32 5) h.range (by kernel_rfl) rfl (by rw [List.length_map, vbl_len]; kernel_rfl)
theorem RB.setRow {V : World} {b t : Nat} {l : List Nat} (h : RB V b t l) (m : List Nat) : RB (V.setRow b (bc m)) b t m := setRow_heap V b _ _ t _ h
theorem RB.setRow_other {V : World} {b b' t : Nat} {l : List Nat} (h : RB V b t l) (hne : b ≠ b') (c : Array Value) : RB (V.setRow b' c) b t l := by
  unfold RB
  rw [Go.setRow_other V b' b c hne]; exact h
theorem wpList_build_L {w : World} {ops : Array Oper} {rest : List Oper} {o : Oper} {a : Act} {Q : Exit → Act → World → Prop} (hgd : o.guard = none) (parts : Array (Nat × Operand)) (ho : o.op = .build 55 parts)
    (hb : Tryd.prog.built 55 (parts.map fun (i, x) => (i, a.eval x)).toList = some (bc (vbl Lq)))
    (h : wpList Tryd.prog ops Q rest (a.put o.dst (nb Lq)) w) : wpList Tryd.prog ops Q (o :: rest) a w :=
  wpList_build hgd 55 parts ho (by rw [hb]; rfl) (by rw [hb]; exact h)
theorem bc_one (l : List Nat) : (bc l).all (·.oneCell') = true := by
  rw [Array.all_eq_true_iff_forall_mem]
  intro v hv
  simp [bc] at hv
  obtain ⟨x, _, rfl⟩ := hv
  rfl
theorem bc_size (l : List Nat) : (bc l).size = l.length := by simp [bc]
theorem info38 : (Tryd.prog.info? 55).map (·.size) = some 32 := by kernel_rfl
theorem wpList_store_38 {w : World} {ops : Array Oper} {rest : List Oper} {o : Oper} {a : Act} {Q : Exit → Act → World → Prop} (hgd : o.guard = none) (x y : Operand) (ho : o.op = .store 55 x y)
    (g v t : Nat) (hx : a.eval x = .pointer (some ⟨g, 0, none⟩)) (hy : a.eval y = nb v) (l : List Nat) (hl : l.length = 32) (hg : RB w g t l)
    (h : wpList Tryd.prog ops Q rest (a.put o.dst undef) (w.setRow g (bc (vbl v)))) : wpList Tryd.prog ops Q (o :: rest) a w :=
  wpList_store_row hgd 55 x y ho g (bc (vbl v)) hx hy t (bc l) hg (by rw [bc_size, vbl_len]; exact info38) (by rw [bc_size, bc_size, vbl_len, hl]) (bc_one _) h
theorem z38 : (#[.int .u8 0, .int .u8 0, .int .u8 0, .int .u8 0, .int .u8 0, .int .u8 0, .int .u8 0, .int .u8 0, .int .u8 0, .int .u8 0, .int .u8 0, .int .u8 0, .int .u8 0, .int .u8 0, .int .u8 0, .int .u8 0, .int .u8 0, .int .u8 0, .int .u8 0, .int .u8 0, .int .u8 0, .int .u8 0, .int .u8 0, .int .u8 0, .int .u8 0, .int .u8 0, .int .u8 0, .int .u8 0, .int .u8 0, .int .u8 0, .int .u8 0, .int .u8 0] : Array Value) = bc (vbl 0) := by kernel_rfl
theorem results_cell {fn : Func} {tmps : Array Value} {k b : Nat} {v : Value} {W : World} (hr : fn.results = #[.cell k 55]) (ht : tmps.getD k undef = .pointer (some ⟨b, 0, none⟩)) (hl : (loadVar 55 ⟨b, 0, none⟩).run Tryd.prog W = .ok v W) : (results fn tmps).run Tryd.prog W = .ok v W := by
  unfold results
  rw [hr]
  rw [Array.getD_eq_getD_getElem?] at ht
  simp [ht, asAddr, hl]
theorem order_any (w : World) : Calls Tryd.prog 57 #[] w fun e w' => e = .returned (nb Lq) ∧ Fr [] w w' := by
  have hz : RB (w.alloc (.cells (bc (vbl 0)) 55)) w.heap.size 55 (vbl 0) := (MapKept.heap_alloc w _).1
  rw [← z38] at hz
  have HZ := hid (p := _) hz
  have HF := hid (p := _) (((Fr.refl [] w).alloc (.cells (bc (vbl 0)) 55)).setRow (g := w.heap.size) (.inr (Nat.le_refl _)) (bc (vbl Lq)))
  have HL := hid (p := _) (HZ.out.setRow (vbl Lq)).load
  rw [← z38] at HF
  clear hz
  go_enter Tryd.func57, Tryd.ntmps57
  go_wp2_with (first | (refine wpList_build_L rfl _ rfl (by kernel_rfl) ?_) | (refine wpList_store_38 rfl (.tmp 0) (.tmp 1) rfl w.heap.size Lq 55 rfl rfl (vbl 0) (vbl_len _) HZ.out ?_))
  refine bodyPost_ret (results_cell Tryd.results57 rfl HL.out) rfl ⟨rfl, HF.out⟩
/-- The row of Bytes ahead of step i. -/
def cb (v i : Nat) : List Nat := (List.range 32).map fun j => if j < i then vb v j else 0
theorem cb_zero (v : Nat) : cb v 0 = vbl 0 := rfl
theorem cb_len (v i : Nat) : (cb v i).length = 32 := by simp [cb]
theorem cb_all (v : Nat) : cb v 32 = vbl v := by
  unfold cb vbl
  apply List.map_congr_left
  intro j hj
  rw [if_pos (by simpa using hj)]
theorem cb_set (v i : Nat) : (cb v i).set i (vb v i) = cb v (i + 1) := by
  apply List.ext_getElem
  · simp [cb]
  · intro j h1 h2
    rw [List.getElem_set]
    simp only [cb, List.getElem_map, List.getElem_range]
    by_cases hij : i = j
    · subst hij; simp
    · rw [if_neg hij]
      by_cases hji : j < i
      · rw [if_pos hji, if_pos (by omega)]
      · rw [if_neg hji, if_neg (by omega)]
end Go.Proofs.YtpdagpjjlnncbaaDoor.Ord
namespace Go.Proofs.YtpdagpjjlnncbaaDoor.Ord
open Go.RowKit Go.Lib Go.BigFrame
set_option linter.unusedVariables false
set_option linter.unusedSimpArgs false
set_option maxRecDepth 1000000
set_option maxHeartbeats 4000000

theorem div_vb (A i : Nat) : A / 256 ^ i = 256 * (A / 256 ^ (i + 1)) + vb A i := by
  have h := Nat.div_add_mod (A / 256 ^ i) 256
  rw [Nat.div_div_eq_div_mul, ← Nat.pow_succ] at h
  exact h.symm
theorem lt_of_div {A B m : Nat} (h : A / m < B / m) : A < B := by
  apply Classical.byContradiction
  intro hn
  have := Nat.div_le_div_right (c := m) (Nat.le_of_not_lt hn)
  omega
theorem less_vb {A B i : Nat} (h : A / 256 ^ (i + 1) = B / 256 ^ (i + 1)) (hne : vb A i ≠ vb B i) : decide (vb A i < vb B i) = decide (A < B) := by
  have h1 := div_vb A i
  have h2 := div_vb B i
  by_cases hl : vb A i < vb B i
  · rw [decide_eq_true hl, decide_eq_true (lt_of_div (m := 256 ^ i) (by omega))]
  · have : B < A := lt_of_div (m := 256 ^ i) (by omega)
    rw [decide_eq_false hl, decide_eq_false (by omega)]
theorem rless_any (A B : Nat) (hA : A / 256 ^ 32 = 0) (hB : B / 256 ^ 32 = 0) (w : World) : Calls Tryd.prog 56 #[nb A, nb B] w fun e w' => e = .returned (.bool (decide (A < B))) ∧ Fr [] w w' := by
  have h9 : A / 256 ^ 32 = B / 256 ^ 32 := hA.trans hB.symm
  have H9 := hid (p := _) h9
  unfold nb
  clear h9 hA hB
  generalize hr : decide (A < B) = r
  have HR := hid (p := _) hr
  clear hr
  go_enter Tryd.func56, Tryd.ntmps56
  go_wp2_with fail
  go_loopg [5] 32 (fun gk q wr => ∃ i : Nat, i ≤ 32 ∧ gk = i ∧ q = .int .i64 ((i : Int) - 1) ∧ Hid (A / 256 ^ i = B / 256 ^ i ∧ Fr [] w wr ∧ RB wr w.heap.size 55 (vbl A) ∧ RB wr (w.heap.size + 1) 55 (vbl B)))
  case atStart =>
    exact ⟨32, Nat.le_refl _, rfl, rfl, hid ⟨H9.out, ((Fr.refl [] w).alloc _).alloc _, RB.alloc (MapKept.heap_alloc w _).1 _, heap_new1 w _ _⟩⟩
  case round =>
    obtain ⟨i, hi, hgk, rfl, K⟩ := hrel
    rcases i with _ | i
    · have hAB : A = B := by
        have := K.out.1
        simpa using this
      have F := K.out.2.1
      have hr : r = false := by rw [← HR.out]; exact decide_eq_false (by omega)
      clear K hAB
      subst hr
      go_wp2_with fail
      go_ret
      exact ⟨rfl, F⟩
    · have hgi : ((i + 1 : Nat) : Int) - 1 = (i : Int) := by omega
      have e1 := K.out.2.2.1.cell i (by rw [vbl_len]; omega)
      rw [vbl_get A i (by omega)] at e1
      have e2 := K.out.2.2.2.cell i (by rw [vbl_len]; omega)
      rw [vbl_get B i (by omega)] at e2
      have l1 := K.out.2.2.1.lt
      have l2 := K.out.2.2.2.lt
      have hi9 : (i : Int) < 32 := by omega
      have HF := hid (p := _) K.out.2.1
      rw [hgi]
      by_cases hne : vb A i = vb B i
      · have hdiv : A / 256 ^ i = B / 256 ^ i := by rw [div_vb A i, div_vb B i, K.out.1, hne]
        have KK := hid (p := _) (fun x => (⟨hdiv, K.out.2.1.ext x, K.out.2.2.1.ext x, K.out.2.2.2.ext x⟩ : A / 256 ^ i = B / 256 ^ i ∧ Fr [] w (ext wr x) ∧ RB (ext wr x) w.heap.size 55 (vbl A) ∧ RB (ext wr x) (w.heap.size + 1) 55 (vbl B)))
        have hneq : ((vb A i : Nat) : Int) = ((vb B i : Nat) : Int) := by rw [hne]
        clear K hdiv
        rw [hne] at e1
        generalize vb B i = y at *
        clear hne hneq
        go_wp2_with fail
        refine wp_region_ext (by kernel_rfl) (by kernel_rfl) ?_
        repeat (go_big_quiet_step (fail))
        refine wpQuiet_nil ?_
        rintro _ ⟨xq, rfl⟩
        go_wp2
        go_roundg i
        case measure => omega
        case rel => exact ⟨i, by omega, rfl, by go_num, hid (KK.out xq)⟩
      · have hl := less_vb K.out.1 hne
        rw [HR.out] at hl
        have hne2 : ¬ ((vb A i : Nat) : Int) = ((vb B i : Nat) : Int) := by omega
        have hl2 : decide (((vb A i : Nat) : Int) < ((vb B i : Nat) : Int)) = r := by rw [← hl]; simp
        clear K hne
        generalize vb A i = x at *
        generalize vb B i = y at *
        go_wp2_with fail
        refine wp_region_ext (by kernel_rfl) (by kernel_rfl) ?_
        repeat (go_big_quiet_step (fail))
        refine wpQuiet_nil ?_
        rintro _ ⟨xq, rfl⟩
        have F2 := HF.out.ext xq
        have e3 : (ext wr xq).cell? ⟨w.heap.size, i, none⟩ = some (.int .u8 (x : Nat)) := by rw [ext_cell _ _ _ _ l1]; exact e1
        have e4 : (ext wr xq).cell? ⟨w.heap.size + 1, i, none⟩ = some (.int .u8 (y : Nat)) := by rw [ext_cell _ _ _ _ l2]; exact e2
        have l3 : w.heap.size < (ext wr xq).heap.size := Nat.lt_of_lt_of_le l1 (ext_fr wr xq).size
        have l4 : w.heap.size + 1 < (ext wr xq).heap.size := Nat.lt_of_lt_of_le l2 (ext_fr wr xq).size
        generalize ext wr xq = wr2 at *
        go_wp2
        refine wp_region_ext (by kernel_rfl) (by kernel_rfl) ?_
        repeat (go_big_quiet_step (fail))
        refine wpQuiet_nil ?_
        rintro _ ⟨xr, rfl⟩
        go_wp2
        go_ret
        exact ⟨by first | simp [hl2] | simp [hl] | (simp; exact hl), F2.ext xr⟩

theorem div_split {B D m : Nat} (hm : 0 < m) : (B + D) / m = B / m + D / m + if (B + D) % m < B % m then 1 else 0 := by
  have hb := Nat.div_add_mod B m
  have hd := Nat.div_add_mod D m
  have rb := Nat.mod_lt B hm
  have rd := Nat.mod_lt D hm
  generalize B / m = qb at *
  generalize D / m = qd at *
  generalize B % m = xb at *
  generalize D % m = xd at *
  have e : B + D = (xb + xd) + m * (qb + qd) := by rw [Nat.mul_add]; omega
  rw [e, Nat.add_mul_div_left _ _ hm, Nat.add_mul_mod_self_left]
  by_cases h : xb + xd < m
  · rw [Nat.div_eq_of_lt h, Nat.mod_eq_of_lt h, if_neg (by omega)]; omega
  · have h1 : (xb + xd) / m = 1 := by
      have e2 : xb + xd = (xb + xd - m) + m * 1 := by omega
      rw [e2, Nat.add_mul_div_left _ _ hm, Nat.div_eq_of_lt (by omega)]
    have h2 : (xb + xd) % m = xb + xd - m := by rw [Nat.mod_eq_sub_mod (by omega), Nat.mod_eq_of_lt (by omega)]
    rw [h1, h2, if_pos (by omega)]; omega
theorem minus_gen {A B m K : Nat} (hm : 0 < m) (hK : 0 < K) (hAB : B ≤ A) : K * (if A % (m * K) < B % (m * K) then 1 else 0) + A / m % K = B / m % K + (if A % m < B % m then 1 else 0) + (A - B) / m % K := by
  obtain ⟨D, rfl⟩ : ∃ D, A = B + D := ⟨A - B, by omega⟩
  rw [show B + D - B = D by omega]
  have h1 := div_split (B := B) (D := D) hm
  have h2 := div_split (B := B) (D := D) (Nat.mul_pos hm hK)
  have a1 := Nat.div_add_mod ((B + D) / m) K
  have a2 := Nat.div_add_mod (B / m) K
  have a3 := Nat.div_add_mod (D / m) K
  rw [Nat.div_div_eq_div_mul] at a1 a2 a3
  generalize (if (B + D) % (m * K) < B % (m * K) then 1 else 0) = c2 at *
  generalize (if (B + D) % m < B % m then 1 else 0) = c1 at *
  rw [h2, h1] at a1
  have e : K * (B / (m * K) + D / (m * K) + c2) = K * (B / (m * K)) + K * (D / (m * K)) + K * c2 := by rw [Nat.mul_add, Nat.mul_add]
  rw [e] at a1
  rw [h1]
  omega
/-- The borrow ahead of byte i. -/
def bw (A B i : Nat) : Nat := if A % 256 ^ i < B % 256 ^ i then 1 else 0
theorem bw_le (A B i : Nat) : bw A B i ≤ 1 := by unfold bw; split <;> omega
theorem minus_vb {A B : Nat} (h : B ≤ A) (i : Nat) : 256 * bw A B (i + 1) + vb A i = vb B i + bw A B i + vb (A - B) i := by
  have := minus_gen (A := A) (B := B) (m := 256 ^ i) (K := 256) (Nat.pow_pos (by decide)) (by decide) h
  rw [← Nat.pow_succ] at this
  exact this
end Go.Proofs.YtpdagpjjlnncbaaDoor.Ord
