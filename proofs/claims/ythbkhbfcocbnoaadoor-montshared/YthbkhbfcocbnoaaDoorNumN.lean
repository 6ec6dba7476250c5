/-
  Package num: write, Bytes, Canonical. No statement is proved here.
-/
import Derived.Test.YthbkhbfcocbnoaaDoorNumM
import Derived.Laws.BytesString
import Derived.Laws.Cells
namespace Go.Proofs.YthbkhbfcocbnoaaDoor
open Go.RowKit Go.Lib Go.BigFrame
set_option linter.unusedVariables false
set_option linter.unusedSimpArgs false
set_option maxRecDepth 1000000
set_option maxHeartbeats 4000000

/-- A byte of a number. -/
def vb (v j : Nat) : Nat := v / 256 ^ j % 256
def vbs (v : Nat) : List Int := (List.range 32).map fun j => ((vb v j : Nat) : Int)
/-- The 32 bytes of a number. -/
def by32 (v : Nat) : ByteArray := (vbs v).foldl (fun r n => r.push (UInt8.ofNat n.toNat)) ByteArray.empty
theorem vb_split {a r k c : Nat} (R : Nat) (hk : k = R * (256 * c)) : a % k / R % 256 = a / R % 256 := by
  rw [hk, Nat.mod_mul_right_div_self, Nat.mod_mul_right_mod]
theorem M_split : ∀ r, r < 8 → ∃ c, 18446744073709551616 = 2 ^ (r * 8) * (256 * c) := fun r h => by
  match r, h with
  | 0, _ => exact ⟨72057594037927936, by decide⟩
  | 1, _ => exact ⟨281474976710656, by decide⟩
  | 2, _ => exact ⟨1099511627776, by decide⟩
  | 3, _ => exact ⟨4294967296, by decide⟩
  | 4, _ => exact ⟨16777216, by decide⟩
  | 5, _ => exact ⟨65536, by decide⟩
  | 6, _ => exact ⟨256, by decide⟩
  | 7, _ => exact ⟨1, by decide⟩
theorem dg_MQ (v q : Nat) (hq : q < 4) : dg v q = v / MQ q % 18446744073709551616 := by
  match q, hq with
  | 0, _ => simp [dg, MQ]
  | 1, _ => rfl
  | 2, _ => rfl
  | 3, _ => rfl
theorem vb_dg (v i : Nat) (hi : i < 32) : dg v (i / 8) / 2 ^ (i % 8 * 8) % 256 = vb v i := by
  obtain ⟨c, hc⟩ := M_split (i % 8) (by omega)
  rw [dg_MQ _ _ (by omega), vb_split (r := 0) _ hc, Nat.div_div_eq_div_mul, MQ_pow i hi]
  rfl
/-- The bytes written so far. -/
def BW (V : World) (b v i : Nat) : Prop := ∃ cs : Array Value, V.heap[b]? = some (.cells cs 83) ∧ cs.size = 32 ∧ ∀ j, j < i → cs[j]? = some (.int .u8 (vb v j : Nat))
theorem BW.cell {V : World} {b v i : Nat} (h : BW V b v i) (j : Nat) (hj : j < 32) : ∃ x, V.cell? ⟨b, j, none⟩ = some x ∧ V.frozen? ⟨b, j, none⟩ = false := by
  obtain ⟨cs, h1, h2, -⟩ := h
  exact ⟨cs[j], cell_of_heap h1 (Array.getElem?_eq_getElem (by omega)), frozen_of_heap h1⟩
theorem BW.set {V : World} {b v i : Nat} (h : BW V b v i) (hi : i < 32) : BW (V.setCell ⟨b, i, none⟩ (.int .u8 (vb v i : Nat))) b v (i + 1) := by
  obtain ⟨cs, h1, h2, h3⟩ := h
  refine ⟨_, heap_setCell_same V b i cs 83 _ h1, by simp [h2], fun j hj => ?_⟩
  by_cases e : i = j
  · subst e; rw [Array.getElem?_setIfInBounds_self_of_lt (by omega)]
  · rw [Array.getElem?_setIfInBounds_ne e]; exact h3 j (by omega)
theorem conv_bytes {V : World} {b v : Nat} (h : BW V b v 32) : (convert 32 9 (.slice (some ⟨b, 0, none⟩) 32 32)).run Tryd.prog V = .ok (.string (by32 v)) V := by
  obtain ⟨cs, h1, h2, h3⟩ := h
  rw [run_convert_bytes_string V 32 9 5 _ _ _ (by kernel_rfl) (by kernel_rfl) (by kernel_rfl)]
  refine run_bytesToString V _ 32 32 (vbs v) ?_
  have hl : ((vbs v).map (Value.int .u8)).length = 32 := by simp [vbs]
  have := run_loadCells_list (P := Tryd.prog) (w := V) ⟨b, 0, none⟩ ((vbs v).map (Value.int .u8)) (fun j u hu => by
    have hj : j < 32 := by
      rcases Nat.lt_or_ge j 32 with h | h
      · exact h
      · rw [List.getElem?_eq_none (by omega)] at hu; cases hu
    have hadd : (⟨b, 0, none⟩ : Addr).add j = ⟨b, j, none⟩ := by unfold Addr.add; split <;> simp_all
    rw [hadd, cell_of_heap h1 (h3 j hj), ← hu]
    simp [vbs, hj])
  rw [hl] at this
  exact this

theorem heap_new1 (V : World) (o q : Obj) : ((V.alloc o).alloc q).heap[V.heap.size + 1]? = some q := by
  have := (MapKept.heap_alloc (V.alloc o) q).1
  simpa using this
theorem write_any (v : Nat) (hv : v < 115792089237316195423570985008687907853269984665640564039457584007913129639936) (w : World) : Calls Tryd.prog 30 #[wd v] w fun e w' => e = .returned (.string (by32 v)) ∧ Fr [] w w' := by
  obtain ⟨c0, c1, c2, c3, -, -, -, -, -, wc⟩ := wd_open v hv
  rw [wc]
  have HC := hid (p := _) wc
  clear wc
  have hu83 : Tryd.prog.underlying 83 = some (.array 32 5) := by kernel_rfl
  go_enter Tryd.func30, Tryd.ntmps30
  go_wp2_with fail
  go_loopg [5] 32 (fun gk q wr => ∃ i : Nat, i ≤ 32 ∧ gk = 32 - i ∧ q = .int .i64 i ∧ Hid (Fr [] w wr ∧ LE wr w.heap.size 41 v ∧ BW wr (w.heap.size + 1) v i))
  case atStart =>
    refine ⟨0, Nat.zero_le _, rfl, rfl, hid ⟨((Fr.refl [] w).alloc _).alloc _, (LE.iff HC.out).2 ((L4.new w 41 _ _ _ _).alloc _), ?_⟩⟩
    exact ⟨_, heap_new1 w _ _, rfl, fun j hj => by omega⟩
  case round =>
    obtain ⟨i, hi, hgk, rfl, K⟩ := hrel
    by_cases hlt : i < 32
    · have hlt' : (i : Int) < 32 := by omega
      have hq : i / 8 < 4 := by omega
      have c1 := (K.out.2.1.cell (i / 8) hq).1
      obtain ⟨y, c2, c3⟩ := K.out.2.2.cell i hlt
      have hb := vb_dg v i hlt
      have h3 : IntKind.u8.wrap (((dg v (i / 8) : Nat) : Int) / 2 ^ (i % 8 * 8)) = ((vb v i : Nat) : Int) := by
        have e : (((dg v (i / 8) : Nat) : Int) / 2 ^ (i % 8 * 8)) = ((dg v (i / 8) / 2 ^ (i % 8 * 8) : Nat) : Int) := by rw [Int.natCast_ediv, Int.natCast_pow]; rfl
        rw [e, IntKind.wrap_u8', ← hb]; omega
      have KN := hid (p := _) (K.out.2.2.set hlt)
      have KF := hid (p := _) K.out.1
      have KA := hid (p := _) K.out.2.1
      generalize vb v i = B at *
      generalize dg v (i / 8) = x at *
      clear hb K
      go_wp2_with fail
      go_roundg (32 - (i + 1))
      case measure => omega
      case rel =>
        refine ⟨i + 1, by omega, rfl, by go_num, hid ⟨KF.out.setCell (.inr (by show w.heap.size ≤ w.heap.size + 1; omega)) _, ?_, KN.out⟩⟩
        have h5 := KA.out
        unfold LE L4 at h5 ⊢
        rw [heap_setCell_other _ _ _ _ (by show w.heap.size ≠ w.heap.size + 1; omega)]
        exact h5
    · obtain rfl : i = 32 := by omega
      have hconv := conv_bytes K.out.2.2
      have F := K.out.1
      clear K
      go_wp2_with fail
      go_ret
      exact ⟨rfl, F⟩


theorem bytes_any (v : Nat) (hv : v < 115792089237316195423570985008687907853269984665640564039457584007913129639936) (w : World) : Calls Tryd.prog 19 #[wd v] w fun e w' => e = .returned (.string (by32 v)) ∧ Fr [] w w' := by
  have K := fun W => write_any v hv W
  obtain ⟨c0, c1, c2, c3, -, -, -, -, -, wc⟩ := wd_open v hv
  rw [wc] at K
  rw [wc]
  have H := hid (p := _) K
  clear K wc
  generalize by32 v = s at *
  go_enter Tryd.func19, Tryd.ntmps19
  go_wp2_with (go_at_call 30; refine (H.out _).mono ?_; rintro e V ⟨rfl, hF⟩; have F := ((Fr.refl [] w).alloc _).trans0 hF; clear hF)
  go_ret
  exact ⟨rfl, F⟩
theorem by32_data (v : Nat) : (by32 v).data = ((List.range 32).map fun j => UInt8.ofNat (vb v j)).toArray := by
  have h : ∀ (l : List Nat) (s : ByteArray), ((l.map fun j => ((vb v j : Nat) : Int)).foldl (fun r n => r.push (UInt8.ofNat n.toNat)) s).data = s.data ++ (l.map fun j => UInt8.ofNat (vb v j)).toArray := by
    intro l
    induction l with
    | nil => intro s; simp
    | cons x l ih =>
      intro s
      rw [List.map_cons, List.foldl_cons, ih]
      show (s.data.push _) ++ _ = _
      simp
  have := h (List.range 32) ByteArray.empty
  rw [by32, vbs, this]
  show #[] ++ _ = _
  simp
theorem by32_size (v : Nat) : (by32 v).size = 32 := by
  show (by32 v).data.size = 32
  rw [by32_data]; simp

end Go.Proofs.YthbkhbfcocbnoaaDoor
