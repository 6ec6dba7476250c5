/-
  Package order: texts made of bytes; what they are as numbers. No statement is proved here.
-/
import Derived.Test.YtgjpombdkgomaaaDoorOrdJ
namespace Go.Proofs.YtgjpombdkgomaaaDoor
open Go.RowKit Go.Lib Go.BigFrame
set_option linter.unusedVariables false
set_option linter.unusedSimpArgs false
set_option maxRecDepth 1000000
set_option maxHeartbeats 4000000

theorem byt_by32 (v j : Nat) (hj : j < 32) : byt (by32 v) j = vb v j := by
  unfold byt
  rw [by32_data]
  have h := vb_lt v j
  simp [hj]
  omega
theorem rd_is (s : ByteArray) (v : Nat) : ∀ n, (∀ j, j < n → byt s j = vb v j) → rd s n = v % 256 ^ n
  | 0, _ => by rw [rd, Nat.pow_zero, Nat.mod_one]
  | n + 1, h => by
    rw [rd, rd_is s v n (fun j hj => h j (by omega)), h n (by omega), Nat.mod_pow_succ, Nat.mul_comm]
    rfl
theorem rd_by32 (v : Nat) (hv : v < 115792089237316195423570985008687907853269984665640564039457584007913129639936) : rd (by32 v) 32 = v := by
  rw [rd_is (by32 v) v 32 (fun j hj => byt_by32 v j hj)]
  exact Nat.mod_eq_of_lt hv
theorem rd_more (s : ByteArray) (n : Nat) : ∀ k, (∀ j, n ≤ j → byt s j = 0) → rd s (n + k) = rd s n
  | 0, _ => rfl
  | k + 1, h => by
    rw [← Nat.add_assoc, rd, rd_more s n k h, h (n + k) (by omega), Nat.zero_mul, Nat.add_zero]
theorem rd_same (s t : ByteArray) : ∀ n, (∀ j, j < n → byt s j = byt t j) → rd s n = rd t n
  | 0, _ => rfl
  | n + 1, h => by rw [rd, rd, rd_same s t n (fun j hj => h j (by omega)), h n (by omega)]
/-- The text of a list of bytes. -/
def sof (l : List Nat) : ByteArray := (l.map fun x => ((x : Nat) : Int)).foldl (fun r n => r.push (UInt8.ofNat n.toNat)) ByteArray.empty
theorem conv_l {V : World} {b t : Nat} {l : List Nat} (h : RB V b t l) (n cap : Nat) (hn : l.length = n) : (convert 43 9 (.slice (some ⟨b, 0, none⟩) n cap)).run Tryd.prog V = .ok (.string (sof l)) V := by
  subst hn
  rw [run_convert_bytes_string V 43 9 5 _ _ _ (by kernel_rfl) (by kernel_rfl) (by kernel_rfl)]
  refine run_bytesToString V _ _ cap (l.map fun x => ((x : Nat) : Int)) ?_
  have hl : ((l.map fun x => ((x : Nat) : Int)).map (Value.int .u8)).length = l.length := by simp
  have := run_loadCells_list (P := Tryd.prog) (w := V) ⟨b, 0, none⟩ ((l.map fun x => ((x : Nat) : Int)).map (Value.int .u8)) (fun j u hu => by
    have hj : j < l.length := by
      rcases Nat.lt_or_ge j l.length with h | h
      · exact h
      · rw [List.getElem?_eq_none (by omega)] at hu; cases hu
    have hadd : (⟨b, 0, none⟩ : Addr).add j = ⟨b, j, none⟩ := by unfold Addr.add; split <;> simp_all
    rw [hadd, h.cell j hj, ← hu]
    simp [hj])
  rw [hl] at this
  exact this
def z31 : ByteArray := sof (List.replicate 31 0)
def z32 : ByteArray := sof (List.replicate 32 0)
theorem made31 : madeCells #[.int .u8 0] 31 = bc (List.replicate 31 0) := by kernel_rfl
theorem made32' : madeCells #[.int .u8 0] 32 = bc (List.replicate 32 0) := by kernel_rfl
theorem make31 (w : World) : (Instr.makeSlice 43 (.int .i64 31) (.int .i64 31)).run Tryd.prog w = .ok (.slice (some ⟨w.heap.size, 0, none⟩) 31 31) (w.alloc (.cells (bc (List.replicate 31 0)) 5)) := by
  obtain ⟨i, hi, hz, hs, hb⟩ := info5
  have := run_make (P := Tryd.prog) w 43 5 i (.int .u8 0) (by kernel_rfl) hi hz .i64 .i64 31 31 (by omega) (by omega) (by rw [hb]; omega) (by omega)
  rw [← made31]
  simpa [hs, Value.cells] using this
theorem make32z (w : World) : (Instr.makeSlice 43 (.int .i64 32) (.int .i64 32)).run Tryd.prog w = .ok (.slice (some ⟨w.heap.size, 0, none⟩) 32 32) (w.alloc (.cells (bc (List.replicate 32 0)) 5)) := by
  obtain ⟨i, hi, hz, hs, hb⟩ := info5
  have := run_make (P := Tryd.prog) w 43 5 i (.int .u8 0) (by kernel_rfl) hi hz .i64 .i64 32 32 (by omega) (by omega) (by rw [hb]; omega) (by omega)
  rw [← made32']
  simpa [hs, Value.cells] using this
theorem conv31 (w : World) : (convert 43 9 (.slice (some ⟨w.heap.size, 0, none⟩) 31 31)).run Tryd.prog (w.alloc (.cells (bc (List.replicate 31 0)) 5)) = .ok (.string z31) (w.alloc (.cells (bc (List.replicate 31 0)) 5)) :=
  conv_l (show RB _ w.heap.size 5 (List.replicate 31 0) from (MapKept.heap_alloc w _).1) 31 31 (by simp)
theorem conv32 (w : World) : (convert 43 9 (.slice (some ⟨w.heap.size, 0, none⟩) 32 32)).run Tryd.prog (w.alloc (.cells (bc (List.replicate 32 0)) 5)) = .ok (.string z32) (w.alloc (.cells (bc (List.replicate 32 0)) 5)) :=
  conv_l (show RB _ w.heap.size 5 (List.replicate 32 0) from (MapKept.heap_alloc w _).1) 32 32 (by simp)
theorem z32_size : z32.size = 32 := by decide +kernel
theorem z32_by : z32 = by32 0 := by
  have : z32.data = (by32 0).data := by decide +kernel
  exact ByteArray.ext this
/-- A small number's bytes. -/
def sm (x : UInt8) : ByteArray := ⟨#[x]⟩ ++ z31
theorem sm_size (x : UInt8) : (sm x).size = 32 := by unfold sm; rw [ByteArray.size_append]; show 1 + z31.size = 32; decide +kernel
theorem of_1 : of (sm 1) = 1 := by decide +kernel
theorem of_3 : of (sm 3) = 3 := by decide +kernel
theorem of_5 : of (sm 5) = 5 := by decide +kernel
theorem cat_run (X Y : ByteArray) (h : X.size + Y.size ≤ 1000) (W : World) : (Op.stringOp .add X Y).run Tryd.prog W = .ok (.string (X ++ Y)) W := by
  have h2 : (X.size : Int) + (Y.size : Int) ≤ 9223372036854775807 := by omega
  simp [Op.stringOp, h2]
theorem of_L : of (by32 Lq) = 0 := by
  unfold of
  rw [by32_size, rd_by32 Lq (by have := Lq_lt; omega), Nat.mod_self]
theorem sbi_data (f : Nat → Int) : (sbi f).data = ((List.range 32).map fun j => UInt8.ofNat (f j).toNat).toArray := by
  have h : ∀ (l : List Nat) (s : ByteArray), ((l.map f).foldl (fun r n => r.push (UInt8.ofNat n.toNat)) s).data = s.data ++ (l.map fun j => UInt8.ofNat (f j).toNat).toArray := by
    intro l
    induction l with
    | nil => intro s; simp
    | cons x l ih =>
      intro s
      rw [List.map_cons, List.foldl_cons, ih]
      show (s.data.push _) ++ _ = _
      simp
  have := h (List.range 32) ByteArray.empty
  rw [sbi, this]
  show #[] ++ _ = _
  simp
theorem sbi_size (f : Nat → Int) : (sbi f).size = 32 := by
  show (sbi f).data.size = 32
  rw [sbi_data]; simp
end Go.Proofs.YtgjpombdkgomaaaDoor
