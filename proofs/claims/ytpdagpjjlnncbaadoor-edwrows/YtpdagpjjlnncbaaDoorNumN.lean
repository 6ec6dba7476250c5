/-
  Package num: write, Bytes, Canonical. No statement is proved here.
-/
import Derived.Test.YtpdagpjjlnncbaaDoorNumL
import Derived.Laws.BytesString
import Derived.Laws.Cells
import Derived.Test.YtpdagpjjlnncbaaDoorValA
import Derived.Laws.IdiomStrings
namespace Go.Proofs.YtpdagpjjlnncbaaDoor
open Go.RowKit Go.Lib Go.BigFrame
set_option linter.unusedVariables false
set_option linter.unusedSimpArgs false
set_option maxRecDepth 1000000
set_option maxHeartbeats 4000000

/-- A byte of a number. -/
def vb (v j : Nat) : Nat := v / 256 ^ j % 256
def vbs (v : Nat) : List Int := (List.range 32).map fun j => ((vb v j : Nat) : Int)
/-- The 32 bytes of a number. -/
def by32 (v : Nat) : ByteArray := (vbs v).foldl (fun r n => r.push (UInt8.ofNat n.toNat)) ByteArray.empty
theorem vb_split {a r k c : Nat} (R : Nat) (hk : k = R * (256 * c)) : a % k / R % 256 = a / R % 256 := by
  rw [hk, Nat.mod_mul_right_div_self, Nat.mod_mul_right_mod]
theorem M_split : ∀ r, r < 8 → ∃ c, 18446744073709551616 = 2 ^ (r * 8) * (256 * c) := fun r h => by
  match r, h with
  | 0, _ => exact ⟨72057594037927936, by decide⟩
  | 1, _ => exact ⟨281474976710656, by decide⟩
  | 2, _ => exact ⟨1099511627776, by decide⟩
  | 3, _ => exact ⟨4294967296, by decide⟩
  | 4, _ => exact ⟨16777216, by decide⟩
  | 5, _ => exact ⟨65536, by decide⟩
  | 6, _ => exact ⟨256, by decide⟩
  | 7, _ => exact ⟨1, by decide⟩
theorem dg_MQ (v q : Nat) (hq : q < 4) : dg v q = v / MQ q % 18446744073709551616 := by
  match q, hq with
  | 0, _ => simp [dg, MQ]
  | 1, _ => rfl
  | 2, _ => rfl
  | 3, _ => rfl
theorem vb_dg (v i : Nat) (hi : i < 32) : dg v (i / 8) / 2 ^ (i % 8 * 8) % 256 = vb v i := by
  obtain ⟨c, hc⟩ := M_split (i % 8) (by omega)
  rw [dg_MQ _ _ (by omega), vb_split (r := 0) _ hc, Nat.div_div_eq_div_mul, MQ_pow i hi]
  rfl
/-- The bytes written so far. -/
def BW (V : World) (b v i : Nat) : Prop := ∃ cs : Array Value, V.heap[b]? = some (.cells cs 54) ∧ cs.size = 32 ∧ ∀ j, j < i → cs[j]? = some (.int .u8 (vb v j : Nat))
theorem BW.cell {V : World} {b v i : Nat} (h : BW V b v i) (j : Nat) (hj : j < 32) : ∃ x, V.cell? ⟨b, j, none⟩ = some x ∧ V.frozen? ⟨b, j, none⟩ = false := by
  obtain ⟨cs, h1, h2, -⟩ := h
  exact ⟨cs[j], cell_of_heap h1 (Array.getElem?_eq_getElem (by omega)), frozen_of_heap h1⟩
theorem BW.set {V : World} {b v i : Nat} (h : BW V b v i) (hi : i < 32) : BW (V.setCell ⟨b, i, none⟩ (.int .u8 (vb v i : Nat))) b v (i + 1) := by
  obtain ⟨cs, h1, h2, h3⟩ := h
  refine ⟨_, heap_setCell_same V b i cs 54 _ h1, by simp [h2], fun j hj => ?_⟩
  by_cases e : i = j
  · subst e; rw [Array.getElem?_setIfInBounds_self_of_lt (by omega)]
  · rw [Array.getElem?_setIfInBounds_ne e]; exact h3 j (by omega)
theorem conv_bytes {V : World} {b v : Nat} (h : BW V b v 32) : (convert 61 9 (.slice (some ⟨b, 0, none⟩) 32 32)).run Tryd.prog V = .ok (.string (by32 v)) V := by
  obtain ⟨cs, h1, h2, h3⟩ := h
  rw [run_convert_bytes_string V 61 9 5 _ _ _ (by kernel_rfl) (by kernel_rfl) (by kernel_rfl)]
  refine run_bytesToString V _ 32 32 (vbs v) ?_
  have hl : ((vbs v).map (Value.int .u8)).length = 32 := by simp [vbs]
  have := run_loadCells_list (P := Tryd.prog) (w := V) ⟨b, 0, none⟩ ((vbs v).map (Value.int .u8)) (fun j u hu => by
    have hj : j < 32 := by
      rcases Nat.lt_or_ge j 32 with h | h
      · exact h
      · rw [List.getElem?_eq_none (by omega)] at hu; cases hu
    have hadd : (⟨b, 0, none⟩ : Addr).add j = ⟨b, j, none⟩ := by unfold Addr.add; split <;> simp_all
    rw [hadd, cell_of_heap h1 (h3 j hj), ← hu]
    simp [vbs, hj])
  rw [hl] at this
  exact this

theorem heap_new1 (V : World) (o q : Obj) : ((V.alloc o).alloc q).heap[V.heap.size + 1]? = some q := by
  have := (MapKept.heap_alloc (V.alloc o) q).1
  simpa using this
theorem write_any (v : Nat) (hv : v < 115792089237316195423570985008687907853269984665640564039457584007913129639936) (w : World) : Calls Tryd.prog 76 #[wd v] w fun e w' => e = .returned (.string (by32 v)) ∧ Fr [] w w' := by
  obtain ⟨c0, c1, c2, c3, -, -, -, -, -, wc⟩ := wd_open v hv
  rw [wc]
  have HC := hid (p := _) wc
  clear wc
  have hu83 : Tryd.prog.underlying 54 = some (.array 32 5) := by kernel_rfl
  go_enter Tryd.func76, Tryd.ntmps76
  go_wp2_with fail
  go_loopg [5] 32 (fun gk q wr => ∃ i : Nat, i ≤ 32 ∧ gk = 32 - i ∧ q = .int .i64 i ∧ Hid (Fr [] w wr ∧ LE wr w.heap.size 25 v ∧ BW wr (w.heap.size + 1) v i))
  case atStart =>
    refine ⟨0, Nat.zero_le _, rfl, rfl, hid ⟨((Fr.refl [] w).alloc _).alloc _, (LE.iff HC.out).2 ((L4.new w 25 _ _ _ _).alloc _), ?_⟩⟩
    exact ⟨_, heap_new1 w _ _, rfl, fun j hj => by omega⟩
  case round =>
    obtain ⟨i, hi, hgk, rfl, K⟩ := hrel
    by_cases hlt : i < 32
    · have hlt' : (i : Int) < 32 := by omega
      have hq : i / 8 < 4 := by omega
      have c1 := (K.out.2.1.cell (i / 8) hq).1
      obtain ⟨y, c2, c3⟩ := K.out.2.2.cell i hlt
      have hb := vb_dg v i hlt
      have h3 : IntKind.u8.wrap (((dg v (i / 8) : Nat) : Int) / 2 ^ (i % 8 * 8)) = ((vb v i : Nat) : Int) := by
        have e : (((dg v (i / 8) : Nat) : Int) / 2 ^ (i % 8 * 8)) = ((dg v (i / 8) / 2 ^ (i % 8 * 8) : Nat) : Int) := by rw [Int.natCast_ediv, Int.natCast_pow]; rfl
        rw [e, IntKind.wrap_u8', ← hb]; omega
      have KN := hid (p := _) (K.out.2.2.set hlt)
      have KF := hid (p := _) K.out.1
      have KA := hid (p := _) K.out.2.1
      generalize vb v i = B at *
      generalize dg v (i / 8) = x at *
      clear hb K
      go_wp2_with fail
      go_roundg (32 - (i + 1))
      case measure => omega
      case rel =>
        refine ⟨i + 1, by omega, rfl, by go_num, hid ⟨KF.out.setCell (.inr (by show w.heap.size ≤ w.heap.size + 1; omega)) _, ?_, KN.out⟩⟩
        have h5 := KA.out
        unfold LE L4 at h5 ⊢
        rw [heap_setCell_other _ _ _ _ (by show w.heap.size ≠ w.heap.size + 1; omega)]
        exact h5
    · obtain rfl : i = 32 := by omega
      have hconv := conv_bytes K.out.2.2
      have F := K.out.1
      clear K
      go_wp2_with fail
      go_ret
      exact ⟨rfl, F⟩


theorem bytes_any (v : Nat) (hv : v < 115792089237316195423570985008687907853269984665640564039457584007913129639936) (w : World) : Calls Tryd.prog 45 #[wd v] w fun e w' => e = .returned (.string (by32 v)) ∧ Fr [] w w' := by
  have K := fun W => write_any v hv W
  obtain ⟨c0, c1, c2, c3, -, -, -, -, -, wc⟩ := wd_open v hv
  rw [wc] at K
  rw [wc]
  have H := hid (p := _) K
  clear K wc
  generalize by32 v = s at *
  go_enter Tryd.func45, Tryd.ntmps45
  go_wp2_with (go_at_call 76; refine (H.out _).mono ?_; rintro e V ⟨rfl, hF⟩; have F := ((Fr.refl [] w).alloc _).trans0 hF; clear hF)
  go_ret
  exact ⟨rfl, F⟩
theorem by32_data (v : Nat) : (by32 v).data = ((List.range 32).map fun j => UInt8.ofNat (vb v j)).toArray := by
  have h : ∀ (l : List Nat) (s : ByteArray), ((l.map fun j => ((vb v j : Nat) : Int)).foldl (fun r n => r.push (UInt8.ofNat n.toNat)) s).data = s.data ++ (l.map fun j => UInt8.ofNat (vb v j)).toArray := by
    intro l
    induction l with
    | nil => intro s; simp
    | cons x l ih =>
      intro s
      rw [List.map_cons, List.foldl_cons, ih]
      show (s.data.push _) ++ _ = _
      simp
  have := h (List.range 32) ByteArray.empty
  rw [by32, vbs, this]
  show #[] ++ _ = _
  simp
theorem by32_size (v : Nat) : (by32 v).size = 32 := by
  show (by32 v).data.size = 32
  rw [by32_data]; simp

end Go.Proofs.YtpdagpjjlnncbaaDoor
namespace Go.Proofs.YtpdagpjjlnncbaaDoor
open Go.RowKit Go.Lib Go.BigFrame
set_option linter.unusedVariables false
set_option linter.unusedSimpArgs false
set_option maxRecDepth 1000000

/-- A text of 32 bytes. -/
def sbi (f : Nat → Int) : ByteArray := ((List.range 32).map f).foldl (fun r n => r.push (UInt8.ofNat n.toNat)) ByteArray.empty
theorem BX.back {V : World} {b : Nat} {f : Nat → Int} (h : BX V b f) (cap : Nat) : (convert 61 9 (.slice (some ⟨b, 0, none⟩) 32 cap)).run Tryd.prog V = .ok (.string (sbi f)) V := by
  rw [run_convert_bytes_string V 61 9 5 _ _ _ (by kernel_rfl) (by kernel_rfl) (by kernel_rfl)]
  refine run_bytesToString V _ 32 cap ((List.range 32).map f) ?_
  have hl : (((List.range 32).map f).map (Value.int .u8)).length = 32 := by simp
  have := run_loadCells_list (P := Tryd.prog) (w := V) ⟨b, 0, none⟩ (((List.range 32).map f).map (Value.int .u8)) (fun j u hu => by
    have hj : j < 32 := by
      rcases Nat.lt_or_ge j 32 with h | h
      · exact h
      · rw [List.getElem?_eq_none (by omega)] at hu; cases hu
    have hadd : (⟨b, 0, none⟩ : Addr).add j = ⟨b, j, none⟩ := by unfold Addr.add; split <;> simp_all
    rw [hadd, (h j hj).1, ← hu]
    simp [hj])
  rw [hl] at this
  exact this
/-- The byte j of a text. -/
def bys (s : ByteArray) (j : Nat) : Int := ((byt s j : Nat) : Int)
theorem conv_in (s : ByteArray) (hs : s.size = 32) (w : World) : ∃ (cap : Nat) (W : World), (convert 9 61 (.string s)).run Tryd.prog w = .ok (.slice (some ⟨w.heap.size, 0, none⟩) 32 cap) W ∧ Fr [] w W ∧ BX W w.heap.size (bys s) := by
  have h := run_bytes_of_string (P := Tryd.prog) w 9 61 5 s (by kernel_rfl) (by kernel_rfl) (by kernel_rfl)
  refine ⟨_, _, by rw [h, hs], (Fr.refl [] w).drew.alloc _, fun j hj => ⟨?_, ?_⟩⟩
  · have e := (MapKept.heap_alloc w.drew (.cells (bytesRow s (grownCap w s.size 0 5)) 5 ((bytesRow s (grownCap w s.size 0 5)).size, (bytesRow s (grownCap w s.size 0 5)).size + 1))).1
    have e' : (w.drew.alloc (.cells (bytesRow s (grownCap w s.size 0 5)) 5 ((bytesRow s (grownCap w s.size 0 5)).size, (bytesRow s (grownCap w s.size 0 5)).size + 1))).heap[w.heap.size]? = _ := e
    rw [hs] at e'
    refine cell_of_heap e' ?_
    have hd : s.data.size = 32 := hs
    unfold bytesRow bys byt
    rw [Array.getElem?_append_left (by simp; omega)]
    simp [hd, hj]
  · have e := (MapKept.heap_alloc w.drew (.cells (bytesRow s (grownCap w s.size 0 5)) 5 ((bytesRow s (grownCap w s.size 0 5)).size, (bytesRow s (grownCap w s.size 0 5)).size + 1))).1
    have e' : (w.drew.alloc (.cells (bytesRow s (grownCap w s.size 0 5)) 5 ((bytesRow s (grownCap w s.size 0 5)).size, (bytesRow s (grownCap w s.size 0 5)).size + 1))).heap[w.heap.size]? = _ := e
    rw [hs] at e'
    have hd : s.data.size = 32 := hs
    have hz : 32 ≤ (bytesRow s (grownCap w 32 0 5)).size := by unfold bytesRow; simp; omega
    unfold World.frozen?
    rw [e']
    simp
    omega
theorem run_ld5 {V : World} {b i : Nat} {z : Int} (h : V.cell? ⟨b, i, none⟩ = some (.int .u8 z)) : (Instr.loadAt 5 (.pointer (some ⟨b, i, none⟩))).run Tryd.prog V = .ok (.int .u8 z) V := by simp [go_sem, h]
theorem run_st5 {V : World} {b i : Nat} {y : Value} {z : Int} (h : V.cell? ⟨b, i, none⟩ = some y) (hf : V.frozen? ⟨b, i, none⟩ = false) : (Instr.storeAt 5 (.pointer (some ⟨b, i, none⟩)) (.int .u8 z)).run Tryd.prog V = .ok () (V.setCell ⟨b, i, none⟩ (.int .u8 z)) := by simp [go_sem, h, hf]
section
variable {Z : World → Prop} {w V : World} {M : Mem} {ops : Array Oper} {rest T : List Oper} {o : Oper} {a : Act} {Q : Exit → Act → World → Prop}
theorem wl_bytes (S : St Z w V M) (s : ByteArray) (x : Operand) (hs : s.size = 32) (hw : Region.wanted o (yielded ops a.tmps) = true) (ho : o.op = .convert 9 61 x) (hx : a.eval x = .string s) (h : ∀ (b cap : Nat) (W : World) a', St Z w W ((b, .bytes (bys s)) :: M) → a' = a.put o.dst (.slice (some ⟨b, 0, none⟩) 32 cap) → Wl ops Q rest a' W) : Wl ops Q (o :: rest) a V :=
  wl_want hw fun K hK => by
    obtain ⟨cap, W, h1, h2, h3⟩ := conv_in s hs V
    unfold Oper.wp execOp
    simp only [ho, hx, Sem.run_bind, h1, Result.andThen_ok, Sem.run_pure]
    exact hK _ _ (h _ cap W _ (S.more h2 (Nat.le_refl _) h3) rfl)
theorem wl_text (S : St Z w V M) (k b cap : Nat) (f : Nat → Int) (x : Operand) (hw : Region.wanted o (yielded ops a.tmps) = true) (ho : o.op = .convert 61 9 x) (hx : a.eval x = .slice (some ⟨b, 0, none⟩) 32 cap) (hk : M[k]? = some (b, .bytes f)) (h : ∀ a', a' = a.put o.dst (.string (sbi f)) → Wl ops Q rest a' V) : Wl ops Q (o :: rest) a V :=
  wl_want hw fun K hK => by
    unfold Oper.wp execOp
    simp only [ho, hx, Sem.run_bind, (S.byt k hk).back cap, Result.andThen_ok, Sem.run_pure]
    exact hK _ _ (h _ rfl)
theorem wl_ldb (S : St Z w V M) (k b i : Nat) (f : Nat → Int) (x : Operand) (hw : Region.wanted o (yielded ops a.tmps) = true) (ho : o.op = .load 5 x) (hx : a.eval x = .pointer (some ⟨b, i, none⟩)) (hk : M[k]? = some (b, .bytes f)) (hi : i < 32) (h : ∀ a', a' = a.put o.dst (.int .u8 (f i)) → Wl ops Q rest a' V) : Wl ops Q (o :: rest) a V :=
  wl_want hw fun K hK => by
    unfold Oper.wp; rw [exec_load ho hx (run_ld5 ((S.byt k hk) i hi).1)]; exact hK _ _ (h _ rfl)
theorem wl_stb (S : St Z w V M) (k b i : Nat) (f : Nat → Int) (z : Int) (x y : Operand) (hw : Region.wanted o (yielded ops a.tmps) = true) (ho : o.op = .store 5 x y) (hx : a.eval x = .pointer (some ⟨b, i, none⟩)) (hy : a.eval y = .int .u8 z) (hk : M[k]? = some (b, .bytes f)) (hi : i < 32) (h : ∀ (W : World) a', St Z w W (M.set k (b, .bytes (fun j => if j = i then z else f j))) → a' = a.put o.dst undef → Wl ops Q rest a' W) : Wl ops Q (o :: rest) a V :=
  wl_want hw fun K hK => by
    unfold Oper.wp execOp
    have hb := (S.byt k hk) i hi
    simp only [ho, hx, hy, Sem.run_bind, run_st5 hb.1 hb.2, Result.andThen_ok, Sem.run_pure]
    exact hK _ _ (h _ _ (S.setByte k hk i hi z) rfl)
end
theorem sbi_data (f : Nat → Int) : (sbi f).data = ((List.range 32).map fun j => UInt8.ofNat (f j).toNat).toArray := by
  have h : ∀ (l : List Nat) (s : ByteArray), ((l.map f).foldl (fun r n => r.push (UInt8.ofNat n.toNat)) s).data = s.data ++ (l.map fun j => UInt8.ofNat (f j).toNat).toArray := by
    intro l
    induction l with
    | nil => intro s; simp
    | cons x l ih =>
      intro s
      rw [List.map_cons, List.foldl_cons, ih]
      show (s.data.push _) ++ _ = _
      simp
  rw [sbi, h (List.range 32) ByteArray.empty]
  show #[] ++ _ = _
  simp
theorem sbi_size (f : Nat → Int) : (sbi f).size = 32 := by
  show (sbi f).data.size = 32
  rw [sbi_data]; simp
theorem byt_sbi (f : Nat → Int) (j : Nat) (hj : j < 32) : byt (sbi f) j = (f j).toNat % 256 := by
  unfold byt
  rw [sbi_data]
  simp [hj]
theorem text_eq {s t : ByteArray} (hs : s.size = 32) (ht : t.size = 32) (h : ∀ j, j < 32 → byt s j = byt t j) : s = t := by
  have : s.data = t.data := by
    apply Array.ext (hs.trans ht.symm)
    intro i h1 h2
    have hi : i < 32 := by have : s.data.size = 32 := hs; omega
    have e := (byt_get s i h1).trans ((h i hi).trans (byt_get t i h2).symm)
    exact UInt8.toNat_inj.1 e
  cases s; cases t; simp_all
theorem sbi_self {s : ByteArray} (hs : s.size = 32) : sbi (bys s) = s := text_eq (sbi_size _) hs fun j hj => by
  rw [byt_sbi _ _ hj]
  have := byt_lt s j
  show ((byt s j : Nat) : Int).toNat % 256 = _
  rw [Int.toNat_natCast]; omega
end Go.Proofs.YtpdagpjjlnncbaaDoor
namespace Go.Proofs.YtpdagpjjlnncbaaDoor
open Go.RowKit Go.Lib Go.BigFrame
set_option linter.unusedVariables false
set_option linter.unusedSimpArgs false
set_option maxRecDepth 1000000
set_option maxHeartbeats 4000000

theorem c1_pm (a : Nat) : Nt.c1 a = Nt.pm Nt.P 255 a (Nt.K + 1) := (Nt.pm_eq Nt.P 255 a _ (by rw [Nt.K_val]; decide +kernel)).symm
theorem c1_four (f : Nat) (hf : f = 4) : Nt.c1 f = 39362322753415011913614158609977084030892133031847780325488042146247659569504 := by
  rw [c1_pm, hf, Nt.P_val, Nt.K_val]; decide +kernel
theorem c1_two (t : Nat) (ht : t = 2) : Nt.c1 t = 19681161376707505956807079304988542015446066515923890162744021073123829784753 := by
  rw [c1_pm, ht, Nt.P_val, Nt.K_val]; decide +kernel
theorem rt_of {a c p i r : Nat} (h1 : Nt.c1 a = c) (h2 : Nt.P = p) (h3 : Nt.I = i) (h : (if c * c % p = a then c else c * i % p) = r) : Nt.rt a = r := by
  unfold Nt.rt
  rw [h1, h2, h3]; exact h
theorem rt_four (f : Nat) (hf : f = 4) : Nt.rt f = 57896044618658097711785492504343953926634992332820282019728792003956564819947 := rt_of (c1_four f hf) Nt.P_val Nt.I_val (by rw [hf]; decide +kernel)
theorem rt_two (t : Nat) (ht : t = 2) : Nt.rt t = 19681161376707505956807079304988542015446066515923890162744021073123829784751 := rt_of (c1_two t ht) Nt.P_val Nt.I_val (by rw [ht]; decide +kernel)
theorem rs_of {a p r s : Nat} {odd : Bool} (h1 : Nt.rt a = r) (h2 : Nt.P = p) (h : (bif (decide (r % 2 = 1) != odd) then (0 + p - r) % p else r) = s) : rs a odd = s := by
  unfold rs
  rw [h1, h2]; exact h
theorem ok_of {a p s : Nat} {odd b : Bool} (h1 : rs a odd = s) (h2 : Nt.P = p) (h : (decide (s * s % p = a) && !(decide (s % 2 = 1) != odd)) = b) : ok a odd = b := by
  unfold ok
  rw [h1, h2]; exact h
theorem rs_four (f : Nat) (hf : f = 4) : rs f false = 2 := rs_of (rt_four f hf) Nt.P_val (by decide +kernel)
theorem ok_four (f : Nat) (hf : f = 4) : ok f false = true := ok_of (rs_four f hf) Nt.P_val (by rw [hf]; decide +kernel)
theorem rs_two (t : Nat) (ht : t = 2) : rs t true = 19681161376707505956807079304988542015446066515923890162744021073123829784751 := rs_of (rt_two t ht) Nt.P_val (by decide +kernel)
theorem ok_two (t : Nat) (ht : t = 2) : ok t true = false := ok_of (rs_two t ht) Nt.P_val (by rw [ht]; decide +kernel)
theorem ro_four (f : Nat) (hf : f = 4) : ro f false = 2 := by
  unfold ro
  rw [ok_four f hf, rs_four f hf]; rfl
theorem inv_mul {a : Nat} (h0 : 0 < a) (ha : a < Nt.P) : a * iv a % Nt.P = 1 := Nt.inv_mul (Nt.not_dvd h0 ha)
theorem iv_zero (a : Nat) (h : a = 0) : iv a = 0 := by
  unfold iv
  have h2 := Nt.zero_pow_mod (Nt.P - 2) (by have := Nt.P_two; omega)
  rw [← h] at h2
  exact h2.trans h

/-- The sign does not hang on the square. -/
theorem neg_sq {p r : Nat} (hr : r < p) : (0 + p - r) % p * ((0 + p - r) % p) % p = r * r % p := by
  by_cases h : r = 0
  · subst h; simp
  · have e1 : (0 + p - r) % p = p - r := by rw [Nat.zero_add]; exact Nat.mod_eq_of_lt (by omega)
    rw [e1]
    obtain ⟨q, rfl⟩ : ∃ q, p = r + q := ⟨p - r, by omega⟩
    have e2 : r + q - r = q := by omega
    rw [e2]
    have e3 : q * q + (r + q) * r = r * r + (r + q) * q := by rw [Nat.add_mul, Nat.add_mul, Nat.mul_comm q r]; omega
    have e4 : (q * q + (r + q) * r) % (r + q) = (r * r + (r + q) * q) % (r + q) := by rw [e3]
    rwa [Nat.add_mul_mod_self_left, Nat.add_mul_mod_self_left] at e4
theorem cond_sq {p n r : Nat} (b : Bool) (h : n * n % p = r * r % p) : (bif b then n else r) * (bif b then n else r) % p = r * r % p := by
  cases b
  · rfl
  · exact h
theorem rs_sq (a : Nat) (odd : Bool) : rs a odd * rs a odd % Nt.P = Nt.rt a * Nt.rt a % Nt.P := cond_sq _ (neg_sq (rt_ltP a))
theorem P_odd : Nt.P % 2 = 1 := by rw [Nt.P_val]
theorem par_gen {p r : Nat} (odd : Bool) (hp : p % 2 = 1) (h0 : 0 < r) (hr : r < p) : decide ((bif (decide (r % 2 = 1) != odd) then (0 + p - r) % p else r) % 2 = 1) = odd := by
  have e1 : (p - r) % p = p - r := Nat.mod_eq_of_lt (by omega)
  by_cases h : r % 2 = 1
  · cases odd
    · simp [h, e1]; omega
    · simp [h]
  · cases odd
    · simp [h]
    · simp [h, e1]; omega
theorem rs_par {a : Nat} (odd : Bool) (h0 : 0 < Nt.rt a) : decide (rs a odd % 2 = 1) = odd := par_gen odd P_odd h0 (rt_ltP a)
theorem rt_pos {a : Nat} (h0 : 0 < a) (h : Nt.has a) : 0 < Nt.rt a := by
  apply Nat.pos_of_ne_zero
  intro e
  have h2 : Nt.rt a * Nt.rt a % Nt.P = a := h
  rw [e, Nat.zero_mul, Nat.zero_mod] at h2
  omega
theorem ok_has {a : Nat} (odd : Bool) (h0 : 0 < a) (h : Nt.has a) : ok a odd = true := by
  have h1 : rs a odd * rs a odd % Nt.P = a := (rs_sq a odd).trans h
  have h2 := rs_par odd (rt_pos h0 h)
  unfold ok
  rw [h2, decide_eq_true h1]
  cases odd <;> rfl
theorem ok_not {a : Nat} (odd : Bool) (h : ¬ Nt.has a) : ok a odd = false := by
  have h1 : ¬ rs a odd * rs a odd % Nt.P = a := fun e => h ((rs_sq a odd).symm.trans e)
  unfold ok
  rw [decide_eq_false h1]; rfl
theorem cond_yes {b : Bool} {x y : Nat} (h : b = true) : (bif b then x else y) = x := by subst h; rfl
theorem cond_no {b : Bool} {x y : Nat} (h : b = false) : (bif b then x else y) = y := by subst h; rfl
theorem ro_yes {a : Nat} {odd : Bool} (h : ok a odd = true) : ro a odd = rs a odd := cond_yes h
theorem ro_no {a : Nat} {odd : Bool} (h : ok a odd = false) : ro a odd = 0 := cond_no h
theorem ite_zero {p i a c : Nat} (hc : c = 0) (h : a = 0) : (if c * c % p = a then c else c * i % p) = 0 := by
  subst hc
  subst h
  simp
theorem rt_zero (a : Nat) (h : a = 0) : Nt.rt a = 0 := rt_of rfl rfl rfl (ite_zero (Nt.c1_zero a h) h)
theorem rs_zero_gen {p r : Nat} (odd : Bool) (h : r = 0) : (bif (decide (r % 2 = 1) != odd) then (0 + p - r) % p else r) = 0 := by
  subst h
  cases odd <;> simp
theorem rs_zero (a : Nat) (odd : Bool) (h : a = 0) : rs a odd = 0 := rs_zero_gen odd (rt_zero a h)
theorem ok_zero_gen {p s a : Nat} {odd : Bool} (h1 : s = 0) (h2 : a = 0) : (decide (s * s % p = a) && !(decide (s % 2 = 1) != odd)) = !odd := by
  subst h1
  subst h2
  cases odd <;> simp
theorem ok_zero (a : Nat) (odd : Bool) (h : a = 0) : ok a odd = !odd := ok_zero_gen (rs_zero a odd h) h
/-- The two roots make 0 together. -/
theorem two_roots_gen {p r : Nat} (hp : p % 2 = 1) (hr : r < p) : ((bif (decide (r % 2 = 1) != false) then (0 + p - r) % p else r) + (bif (decide (r % 2 = 1) != true) then (0 + p - r) % p else r)) % p = 0 := by
  by_cases h : r % 2 = 1
  · have h0 : 0 < r := by omega
    have e1 : (0 + p - r) % p = p - r := by rw [Nat.zero_add]; exact Nat.mod_eq_of_lt (by omega)
    simp [h, e1]
    rw [show p - r + r = p by omega, Nat.mod_self]
  · by_cases h0 : r = 0
    · subst h0; simp
    · have e1 : (0 + p - r) % p = p - r := by rw [Nat.zero_add]; exact Nat.mod_eq_of_lt (by omega)
      simp [h, e1]
      rw [show r + (p - r) = p by omega, Nat.mod_self]
theorem two_roots (a : Nat) : (rs a false + rs a true) % Nt.P = 0 := two_roots_gen P_odd (rt_ltP a)

theorem mod_add_l {p : Nat} (x y : Nat) : (x % p + y) % p = (x + y) % p := Nat.mod_add_mod x p y
theorem mod_add_r {p : Nat} (x y : Nat) : (x + y % p) % p = (x + y) % p := Nat.add_mod_mod x y p
theorem law_assoc (a b c : Nat) : ((a + b) % Nt.P + c) % Nt.P = (a + (b + c) % Nt.P) % Nt.P := by rw [mod_add_l, mod_add_r, Nat.add_assoc]
theorem law_massoc (a b c : Nat) : (a * b % Nt.P) * c % Nt.P = a * (b * c % Nt.P) % Nt.P := by rw [Nt.mml, Nt.mmr, Nat.mul_assoc]
theorem law_dist (a b c : Nat) : a * ((b + c) % Nt.P) % Nt.P = (a * b % Nt.P + a * c % Nt.P) % Nt.P := by rw [Nt.mmr, mod_add_l, mod_add_r, Nat.mul_add]
theorem sub_add_gen {a b p : Nat} (ha : a < p) (hb : b < p) : ((a + p - b) % p + b) % p = a := by
  rw [mod_add_l, show a + p - b + b = a + p by omega, Nat.add_mod_right, Nat.mod_eq_of_lt ha]
theorem sub_self_gen {a p : Nat} : (a + p - a) % p = 0 := by rw [show a + p - a = p by omega, Nat.mod_self]

end Go.Proofs.YtpdagpjjlnncbaaDoor
namespace Go.Proofs.YtpdagpjjlnncbaaDoor
open Go.RowKit Go.Lib Go.BigFrame
set_option linter.unusedVariables false
set_option linter.unusedSimpArgs false
set_option maxRecDepth 1000000
set_option maxHeartbeats 4000000

def w0 (v : Nat) : Value := .int .u64 ((v % 18446744073709551616 : Nat) : Int)
def w1 (v : Nat) : Value := .int .u64 ((v / 18446744073709551616 % 18446744073709551616 : Nat) : Int)
def w2 (v : Nat) : Value := .int .u64 ((v / 340282366920938463463374607431768211456 % 18446744073709551616 : Nat) : Int)
def w3 (v : Nat) : Value := .int .u64 ((v / 6277101735386680763835789423207666416102355444464034512896 % 18446744073709551616 : Nat) : Int)
def e4 (v : Nat) : Array Value := #[w0 v, w1 v, w2 v, w3 v]
theorem wd_e4 (v : Nat) : wd v = .agg (e4 v) := rfl
def q4 (x y z t : Nat) : Array Value := #[w0 x, w1 x, w2 x, w3 x, w0 y, w1 y, w2 y, w3 y, w0 z, w1 z, w2 z, w3 z, w0 t, w1 t, w2 t, w3 t]
/-- A point, or what is ready to be added, by value. -/
def pv (x y z t : Nat) : Value := .agg (q4 x y z t)
theorem e4_one (v : Nat) : One (e4 v) := by simp [One, e4, w0, w1, w2, w3, Value.oneCell']
theorem q4_one (x y z t : Nat) : One (q4 x y z t) := by simp [One, q4, w0, w1, w2, w3, Value.oneCell']
theorem row27 : Row 27 4 := ⟨_, Tryd.underlying27, rfl, by kernel_rfl⟩
theorem row29 : Row 29 16 := ⟨_, Tryd.underlying29, rfl, by kernel_rfl⟩
theorem row83 : Row 83 16 := ⟨_, Tryd.underlying83, rfl, by kernel_rfl⟩
theorem sub_x (x y z t : Nat) : Sub (q4 x y z t) 0 (e4 x) := fun j v h => match j, h with
  | 0, h | 1, h | 2, h | 3, h => h
  | _ + 4, h => by cases h
theorem sub_y (x y z t : Nat) : Sub (q4 x y z t) 4 (e4 y) := fun j v h => match j, h with
  | 0, h | 1, h | 2, h | 3, h => h
  | _ + 4, h => by cases h
theorem sub_z (x y z t : Nat) : Sub (q4 x y z t) 8 (e4 z) := fun j v h => match j, h with
  | 0, h | 1, h | 2, h | 3, h => h
  | _ + 4, h => by cases h
theorem sub_t (x y z t : Nat) : Sub (q4 x y z t) 12 (e4 t) := fun j v h => match j, h with
  | 0, h | 1, h | 2, h | 3, h => h
  | _ + 4, h => by cases h
theorem none_r {Z : World → Prop} (hZ : Keeps Z) {x y z t : Nat} {b : Bool} (H0 : Ret Z 59 #[.int .u32 0] (wd 0)) (H1 : Ret Z 47 #[wd z, wd 0] (.bool b)) : Ret Z 42 #[pv x y z t] (.bool b) := by
  intro w hw
  have S := St.refl hw
  go_enter Tryd.func42, Tryd.ntmps42
  refine wp_seq_k fun K hK => ?_
  refine wr_list ?_
  refine wl_alloc S (q4 x y z t) 29 rfl (fun _ => by kernel_rfl) ?_
  intro b0 W0 a' S0 ha
  simp only [Act.put, List.setIfInBounds_toArray, List.set_cons_zero, List.set_cons_succ] at ha
  subst ha
  refine wl_pure (.bool false) rfl (fun _ => rfl) ?_
  intro a' ha
  simp only [Act.put, List.setIfInBounds_toArray, List.set_cons_zero, List.set_cons_succ] at ha
  subst ha
  refine wl_nil (hK _ _ ?_)
  clear hK K
  refine wp_seq_k fun K hK => ?_
  refine wr_ext S0 (by kernel_rfl) (by kernel_rfl) ?_
  refine wq_pure (.pointer (some ⟨b0, 8, none⟩)) rfl (fun _ => by kernel_rfl) ?_
  intro a' ha
  simp only [Act.put, List.setIfInBounds_toArray, List.set_cons_zero, List.set_cons_succ] at ha
  subst ha
  refine wq_load S0 0 b0 8 27 4 (.tmp 3) (q4 x y z t) (e4 z) rfl rfl rfl rfl (sub_z x y z t) row27 rfl ?_
  intro a' ha
  simp only [Act.put, List.setIfInBounds_toArray, List.set_cons_zero, List.set_cons_succ] at ha
  subst ha
  refine wq_call hZ S0 H0 rfl (fun _ => by kernel_rfl) ?_
  intro a' ha
  simp only [Act.put, List.setIfInBounds_toArray, List.set_cons_zero, List.set_cons_succ] at ha
  subst ha
  refine wq_call hZ S0 H1 rfl (fun _ => by kernel_rfl) ?_
  intro a' ha
  simp only [Act.put, List.setIfInBounds_toArray, List.set_cons_zero, List.set_cons_succ] at ha
  subst ha
  refine wq_pure (.bool b) rfl (fun _ => rfl) ?_
  intro a' ha
  simp only [Act.put, List.setIfInBounds_toArray, List.set_cons_zero, List.set_cons_succ] at ha
  subst ha
  refine wq_nil ?_
  intro W1 S1
  refine hK _ _ ?_
  clear hK K
  refine wp_ret ?_
  exact fin_tmp S1 rfl rfl rfl
end Go.Proofs.YtpdagpjjlnncbaaDoor
