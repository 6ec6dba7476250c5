/-
  The document's Order and Bytes (pharosref07). No statement is proved here.
-/
import Derived.Test.YtgjpombdkgomaaaDoorOrdI
import Derived.Deep.MidRow
namespace Go.Proofs.YtgjpombdkgomaaaDoor
open Go.RowKit Go.Lib Go.BigFrame
set_option linter.unusedVariables false
set_option linter.unusedSimpArgs false
set_option maxRecDepth 1000000
set_option maxHeartbeats 4000000

/-- A row of bytes in a block of its own. -/
def bc (l : List Nat) : Array Value := (l.map fun x => Value.int .u8 ((x : Nat) : Int)).toArray
def RB (V : World) (b t : Nat) (l : List Nat) : Prop := V.heap[b]? = some (.cells (bc l) t)
section
variable {V V' : World} {b t : Nat} {l : List Nat}
theorem RB.fr (h : RB V b t l) (hF : Fr [] V V') : RB V' b t l := hF.heap h (by simp)
theorem RB.alloc (h : RB V b t l) (o : Obj) : RB (V.alloc o) b t l := h.fr ((Fr.refl [] V).alloc o)
theorem RB.lt (h : RB V b t l) : b < V.heap.size := lt_of_heap h
theorem RB.cell (h : RB V b t l) (i : Nat) (hi : i < l.length) : V.cell? ⟨b, i, none⟩ = some (.int .u8 ((l.getD i 0 : Nat) : Int)) :=
  cell_of_heap h (by simp [bc, hi])
theorem RB.frozen (h : RB V b t l) (i : Nat) : V.frozen? ⟨b, i, none⟩ = false := frozen_of_heap h
theorem RB.set (h : RB V b t l) (i x : Nat) : RB (V.setCell ⟨b, i, none⟩ (.int .u8 ((x : Nat) : Int))) b t (l.set i x) := by
  have h2 := heap_setCell_same V b i _ t (.int .u8 ((x : Nat) : Int)) h
  unfold RB
  rw [h2]
  congr 2
  simp [bc, List.map_set]
theorem RB.other (h : RB V b t l) {p : Addr} (hne : b ≠ p.block) (u : Value) : RB (V.setCell p u) b t l := by
  unfold RB
  rw [heap_setCell_other _ _ _ _ hne]; exact h
theorem RB.ext (h : RB V b t l) (x : World) : RB (Go.Proofs.YtgjpombdkgomaaaDoor.ext V x) b t l := h.fr (ext_fr V x)
end
def vbl (x : Nat) : List Nat := (List.range 32).map (vb x)
theorem vbl_len (x : Nat) : (vbl x).length = 32 := by simp [vbl]
theorem vbl_get (x i : Nat) (h : i < 32) : (vbl x).getD i 0 = vb x i := by simp [vbl, h]
theorem RB.frS {S : List Nat} {V V' : World} {b t : Nat} {l : List Nat} (h : RB V b t l) (hF : Fr S V V') (hb : b ∉ S) : RB V' b t l := hF.heap h hb
theorem vb_lt (v j : Nat) : vb v j < 256 := Nat.mod_lt _ (by decide)
theorem conv_rb {V : World} {b v : Nat} (h : RB V b 5 (vbl v)) : (convert 43 9 (.slice (some ⟨b, 0, none⟩) 32 32)).run Tryd.prog V = .ok (.string (by32 v)) V := by
  rw [run_convert_bytes_string V 43 9 5 _ _ _ (by kernel_rfl) (by kernel_rfl) (by kernel_rfl)]
  refine run_bytesToString V _ 32 32 (vbs v) ?_
  have hl : ((vbs v).map (Value.int .u8)).length = 32 := by simp [vbs]
  have := run_loadCells_list (P := Tryd.prog) (w := V) ⟨b, 0, none⟩ ((vbs v).map (Value.int .u8)) (fun j u hu => by
    have hj : j < 32 := by
      rcases Nat.lt_or_ge j 32 with h | h
      · exact h
      · rw [List.getElem?_eq_none (by omega)] at hu; cases hu
    have hadd : (⟨b, 0, none⟩ : Addr).add j = ⟨b, j, none⟩ := by unfold Addr.add; split <;> simp_all
    rw [hadd, h.cell j (by rw [vbl_len]; exact hj), vbl_get _ _ hj, ← hu]
    simp [vbs, hj])
  rw [hl] at this
  exact this
theorem info5 : ∃ i, Tryd.prog.info? 5 = some i ∧ i.zero = some (.int .u8 0) ∧ i.size = 1 ∧ i.bytes = 1 := infoOf (by kernel_rfl)
theorem made32 : madeCells #[.int .u8 0] 32 = bc (vbl 0) := by kernel_rfl
theorem make32 (w : World) : (Instr.makeSlice 43 (.int .i64 32) (.int .i64 32)).run Tryd.prog w = .ok (.slice (some ⟨w.heap.size, 0, none⟩) 32 32) (w.alloc (.cells (bc (vbl 0)) 5)) := by
  obtain ⟨i, hi, hz, hs, hb⟩ := info5
  have := run_make (P := Tryd.prog) w 43 5 i (.int .u8 0) (by kernel_rfl) hi hz .i64 .i64 32 32 (by omega) (by omega) (by rw [hb]; omega) (by omega)
  rw [← made32]
  simpa [hs, Value.cells] using this
/-- A number of the document's. -/
def nb (v : Nat) : Value := .agg (bc (vbl v))
theorem nb_L : nb Lq = .agg #[.int .u8 237, .int .u8 211, .int .u8 245, .int .u8 92, .int .u8 26, .int .u8 99, .int .u8 18, .int .u8 88, .int .u8 214, .int .u8 156, .int .u8 247, .int .u8 162, .int .u8 222, .int .u8 249, .int .u8 222, .int .u8 20, .int .u8 0, .int .u8 0, .int .u8 0, .int .u8 0, .int .u8 0, .int .u8 0, .int .u8 0, .int .u8 0, .int .u8 0, .int .u8 0, .int .u8 0, .int .u8 0, .int .u8 0, .int .u8 0, .int .u8 0, .int .u8 16] := by
  have h : vbl Lq = [237, 211, 245, 92, 26, 99, 18, 88, 214, 156, 247, 162, 222, 249, 222, 20, 0, 0, 0, 0, 0, 0, 0, 0, 0, 0, 0, 0, 0, 0, 0, 16] := by rw [Lq_val]; decide +kernel
  unfold nb
  rw [h]; rfl
theorem bc_toList (l : List Nat) : (bc l).toList = l.map fun x => Value.int .u8 ((x : Nat) : Int) := rfl
theorem RB.range {V : World} {b t : Nat} {l : List Nat} (h : RB V b t l) : V.rangeAt b 0 (l.map fun x => Value.int .u8 ((x : Nat) : Int)) := fun j v hv => by
  rw [Nat.zero_add]
  exact cell_of_heap h (by simpa [bc] using hv)
theorem RB.load {V : World} {b t v : Nat} (h : RB V b t (vbl v)) : (loadVar 38 ⟨b, 0, none⟩).run Tryd.prog V = .ok (nb v) V :=
  run_loadVar_mid V b 0 38 ((vbl v).map fun x => Value.int .u8 ((x : Nat) : Int)) (.array 32 5) h.range (by kernel_rfl) rfl (by rw [List.length_map, vbl_len]; kernel_rfl)
theorem RB.setRow {V : World} {b t : Nat} {l : List Nat} (h : RB V b t l) (m : List Nat) : RB (V.setRow b (bc m)) b t m := setRow_heap V b _ _ t _ h
theorem RB.setRow_other {V : World} {b b' t : Nat} {l : List Nat} (h : RB V b t l) (hne : b ≠ b') (c : Array Value) : RB (V.setRow b' c) b t l := by
  unfold RB
  rw [Go.setRow_other V b' b c hne]; exact h
theorem wpList_build_L {w : World} {ops : Array Oper} {rest : List Oper} {o : Oper} {a : Act} {Q : Exit → Act → World → Prop} (hgd : o.guard = none) (parts : Array (Nat × Operand)) (ho : o.op = .build 38 parts)
    (hb : Tryd.prog.built 38 (parts.map fun (i, x) => (i, a.eval x)).toList = some (bc (vbl Lq)))
    (h : wpList Tryd.prog ops Q rest (a.put o.dst (nb Lq)) w) : wpList Tryd.prog ops Q (o :: rest) a w :=
  wpList_build hgd 38 parts ho (by rw [hb]; rfl) (by rw [hb]; exact h)
theorem bc_one (l : List Nat) : (bc l).all (·.oneCell') = true := by
  rw [Array.all_eq_true_iff_forall_mem]
  intro v hv
  simp [bc] at hv
  obtain ⟨x, _, rfl⟩ := hv
  rfl
theorem bc_size (l : List Nat) : (bc l).size = l.length := by simp [bc]
theorem info38 : (Tryd.prog.info? 38).map (·.size) = some 32 := by kernel_rfl
theorem wpList_store_38 {w : World} {ops : Array Oper} {rest : List Oper} {o : Oper} {a : Act} {Q : Exit → Act → World → Prop} (hgd : o.guard = none) (x y : Operand) (ho : o.op = .store 38 x y)
    (g v t : Nat) (hx : a.eval x = .pointer (some ⟨g, 0, none⟩)) (hy : a.eval y = nb v) (l : List Nat) (hl : l.length = 32) (hg : RB w g t l)
    (h : wpList Tryd.prog ops Q rest (a.put o.dst undef) (w.setRow g (bc (vbl v)))) : wpList Tryd.prog ops Q (o :: rest) a w :=
  wpList_store_row hgd 38 x y ho g (bc (vbl v)) hx hy t (bc l) hg (by rw [bc_size, vbl_len]; exact info38) (by rw [bc_size, bc_size, vbl_len, hl]) (bc_one _) h
theorem z38 : (#[.int .u8 0, .int .u8 0, .int .u8 0, .int .u8 0, .int .u8 0, .int .u8 0, .int .u8 0, .int .u8 0, .int .u8 0, .int .u8 0, .int .u8 0, .int .u8 0, .int .u8 0, .int .u8 0, .int .u8 0, .int .u8 0, .int .u8 0, .int .u8 0, .int .u8 0, .int .u8 0, .int .u8 0, .int .u8 0, .int .u8 0, .int .u8 0, .int .u8 0, .int .u8 0, .int .u8 0, .int .u8 0, .int .u8 0, .int .u8 0, .int .u8 0, .int .u8 0] : Array Value) = bc (vbl 0) := by kernel_rfl
theorem results_cell {fn : Func} {tmps : Array Value} {k b : Nat} {v : Value} {W : World} (hr : fn.results = #[.cell k 38]) (ht : tmps.getD k undef = .pointer (some ⟨b, 0, none⟩)) (hl : (loadVar 38 ⟨b, 0, none⟩).run Tryd.prog W = .ok v W) : (results fn tmps).run Tryd.prog W = .ok v W := by
  unfold results
  rw [hr]
  rw [Array.getD_eq_getD_getElem?] at ht
  simp [ht, asAddr, hl]
theorem order_any (w : World) : Calls Tryd.prog 18 #[] w fun e w' => e = .returned (nb Lq) ∧ Fr [] w w' := by
  have hz : RB (w.alloc (.cells (bc (vbl 0)) 38)) w.heap.size 38 (vbl 0) := (MapKept.heap_alloc w _).1
  rw [← z38] at hz
  have HZ := hid (p := _) hz
  have HF := hid (p := _) (((Fr.refl [] w).alloc (.cells (bc (vbl 0)) 38)).setRow (g := w.heap.size) (.inr (Nat.le_refl _)) (bc (vbl Lq)))
  have HL := hid (p := _) (HZ.out.setRow (vbl Lq)).load
  rw [← z38] at HF
  clear hz
  go_enter Tryd.func18, Tryd.ntmps18
  go_wp2_with (first | (refine wpList_build_L rfl _ rfl (by kernel_rfl) ?_) | (refine wpList_store_38 rfl (.tmp 0) (.tmp 1) rfl w.heap.size Lq 38 rfl rfl (vbl 0) (vbl_len _) HZ.out ?_))
  refine bodyPost_ret (results_cell Tryd.results18 rfl HL.out) rfl ⟨rfl, HF.out⟩
/-- The row of Bytes ahead of step i. -/
def cb (v i : Nat) : List Nat := (List.range 32).map fun j => if j < i then vb v j else 0
theorem cb_zero (v : Nat) : cb v 0 = vbl 0 := rfl
theorem cb_len (v i : Nat) : (cb v i).length = 32 := by simp [cb]
theorem cb_all (v : Nat) : cb v 32 = vbl v := by
  unfold cb vbl
  apply List.map_congr_left
  intro j hj
  rw [if_pos (by simpa using hj)]
theorem cb_set (v i : Nat) : (cb v i).set i (vb v i) = cb v (i + 1) := by
  apply List.ext_getElem
  · simp [cb]
  · intro j h1 h2
    rw [List.getElem_set]
    simp only [cb, List.getElem_map, List.getElem_range]
    by_cases hij : i = j
    · subst hij; simp
    · rw [if_neg hij]
      by_cases hji : j < i
      · rw [if_pos hji, if_pos (by omega)]
      · rw [if_neg hji, if_neg (by omega)]
theorem rbytes_any (v : Nat) (w : World) : Calls Tryd.prog 19 #[nb v] w fun e w' => e = .returned (.string (by32 v)) ∧ Fr [] w w' := by
  have hmk := make32
  unfold nb
  go_enter Tryd.func19, Tryd.ntmps19
  go_wp2_with fail
  go_loopg [4] 32 (fun gk q wr => ∃ i : Nat, i ≤ 32 ∧ gk = 32 - i ∧ q = .int .i64 i ∧ Hid (Fr [] w wr ∧ RB wr w.heap.size 38 (vbl v) ∧ RB wr (w.heap.size + 1) 5 (cb v i)))
  case atStart =>
    exact ⟨0, Nat.zero_le _, rfl, rfl, hid ⟨((Fr.refl [] w).alloc _).alloc _, RB.alloc (MapKept.heap_alloc w _).1 _, heap_new1 w _ _⟩⟩
  case round =>
    obtain ⟨i, hi, hgk, rfl, K⟩ := hrel
    by_cases hlt : i < 32
    · have hlt' : (i : Int) < 32 := by omega
      have c1 := K.out.2.1.cell i (by rw [vbl_len]; exact hlt)
      rw [vbl_get _ _ hlt] at c1
      have c2 := K.out.2.2.cell i (by rw [cb_len]; exact hlt)
      have g2 := K.out.2.2.frozen i
      have l1 := K.out.2.1.lt
      have l2 := K.out.2.2.lt
      have KN := K.out.2.2.set i (vb v i)
      rw [cb_set] at KN
      have HN := hid (p := _) KN
      have KF := hid (p := _) K.out.1
      have KA := hid (p := _) K.out.2.1
      clear K KN
      generalize vb v i = z at *
      generalize (cb v i).getD i 0 = y at *
      go_wp2_with fail
      go_roundg (32 - (i + 1))
      case measure => omega
      case rel =>
        exact ⟨i + 1, by omega, rfl, by go_num, hid ⟨KF.out.setCell (.inr (by show w.heap.size ≤ w.heap.size + 1; omega)) _, KA.out.other (by show w.heap.size ≠ w.heap.size + 1; omega) _, HN.out⟩⟩
    · obtain rfl : i = 32 := by omega
      have C := K.out.2.2
      rw [cb_all] at C
      have hconv := conv_rb C
      have F := K.out.1
      clear K C
      go_wp2_with fail
      go_ret
      exact ⟨rfl, F⟩
end Go.Proofs.YtgjpombdkgomaaaDoor
