/-
  The walks of 'writer' of package ring and of the function that it makes: a buffer is written into the next descriptor. No statement is proved here.
-/
import Derived.Test.YtfiaciniikcacaaRing11
namespace Go.Proofs.Ytfiaciniikcacaa
open Go.RowKit Go.BigFrame Go.MapKept
set_option linter.unusedVariables false
set_option linter.unusedSimpArgs false
set_option maxRecDepth 1000000
set_option maxHeartbeats 4000000

/-- Bytes of which those from a on are these. -/
def wrb (bs : List UInt8) (a : Nat) (s : List UInt8) : List UInt8 := bs.take a ++ s ++ bs.drop (a + s.length)
theorem Writes.ok {w w' : World} {bM bm bb k a : Nat} {lv : Value} {l : List (Nat × Nat)} {bs us : List UInt8} {c : Int} (h : Writes w w' bM bm bb k a lv l bs ⟨us.toArray⟩ c) (h1 : a + us.length ≤ k) (h2 : ∀ j, a ≤ j → j < a + us.length → ¬ In l j) : c = 0 ∧ MemA w' bM bm bb k lv l (wrb bs a us) ∧ Fr [bb] w w' := by
  have hs : (⟨us.toArray⟩ : ByteArray).size = us.length := rfl
  rcases h with ⟨_, q2, _⟩ | ⟨_, q2, ⟨b, q3, q4, q5⟩, _⟩ | ⟨q1, q2, q3, q4, q5⟩
  · rw [hs] at q2; omega
  · rw [hs] at q4; exact absurd q5 (h2 b q3 q4)
  · exact ⟨q1, q4, q5⟩
theorem mput16_ok (bM bm bb k a x : Nat) (lv : Value) (l : List (Nat × Nat)) (bs : List UInt8) (hx : x < 65536) (w : World) (hM : MemA w bM bm bb k lv l bs) (h1 : a + 2 ≤ k) (h2 : ∀ j, a ≤ j → j < a + 2 → ¬ In l j) :
    Calls Try.prog 64 #[.pointer (some ⟨bM, 0, none⟩), .int .u32 a, .int .u16 x] w fun e w' => e = .returned (.int .i64 0) ∧ MemA w' bM bm bb k lv l (wrb bs a (le 2 x)) ∧ Fr [bb] w w' :=
  (mput16_any bM bm bb k a x lv l bs hx w hM (by have := hM.mid.top; omega)).mono fun e w' ⟨c, he, h⟩ => by
    have := h.ok (by rw [le_length]; exact h1) (by rw [le_length]; exact h2)
    exact ⟨by rw [he, this.1], this.2⟩
theorem mput32_ok (bM bm bb k a x : Nat) (lv : Value) (l : List (Nat × Nat)) (bs : List UInt8) (hx : x < 4294967296) (w : World) (hM : MemA w bM bm bb k lv l bs) (h1 : a + 4 ≤ k) (h2 : ∀ j, a ≤ j → j < a + 4 → ¬ In l j) :
    Calls Try.prog 63 #[.pointer (some ⟨bM, 0, none⟩), .int .u32 a, .int .u32 x] w fun e w' => e = .returned (.int .i64 0) ∧ MemA w' bM bm bb k lv l (wrb bs a (le 4 x)) ∧ Fr [bb] w w' :=
  (mput32_any bM bm bb k a x lv l bs hx w hM (by have := hM.mid.top; omega)).mono fun e w' ⟨c, he, h⟩ => by
    have := h.ok (by rw [le_length]; exact h1) (by rw [le_length]; exact h2)
    exact ⟨by rw [he, this.1], this.2⟩
theorem mput64_ok (bM bm bb k a x : Nat) (lv : Value) (l : List (Nat × Nat)) (bs : List UInt8) (hx : x < 18446744073709551616) (w : World) (hM : MemA w bM bm bb k lv l bs) (h1 : a + 8 ≤ k) (h2 : ∀ j, a ≤ j → j < a + 8 → ¬ In l j) :
    Calls Try.prog 62 #[.pointer (some ⟨bM, 0, none⟩), .int .u32 a, .int .u64 x] w fun e w' => e = .returned (.int .i64 0) ∧ MemA w' bM bm bb k lv l (wrb bs a (le 8 x)) ∧ Fr [bb] w w' :=
  (mput64_any bM bm bb k a x lv l bs hx w hM (by have := hM.mid.top; omega)).mono fun e w' ⟨c, he, h⟩ => by
    have := h.ok (by rw [le_length]; exact h1) (by rw [le_length]; exact h2)
    exact ⟨by rw [he, this.1], this.2⟩
/-- Memory in which a descriptor is written: a place, a length, flags, the next one. -/
def descW (bs : List UInt8) (D A L fl nx : Nat) : List UInt8 := wrb (wrb (wrb (wrb bs D (le 8 A)) (D + 8) (le 4 L)) (D + 12) (le 2 fl)) (D + 14) (le 2 nx)

theorem RingF.setTak {w : World} {bR bM at_ bT N bC idx pol : Nat} {brk : Bool} {tk : List Bool} (h : RingF w bR bM at_ bT N bC idx pol brk tk) (d : Nat) (v : Bool) : RingF (w.setCell ⟨bT, d, none⟩ (.bool v)) bR bM at_ bT N bC idx pol brk (tk.set d v) := by
  refine ⟨((Fr.refl [bT] w).setCell (by simp) _).heap h.blk (by simpa using blk_ne h.blk h.tak (by decide)), ?_, by simp [h.len]⟩
  simp [World.setCell, Array.getElem?_modify, h.tak, List.map_set]
theorem RingF.setIdx {w : World} {bR bM at_ bT N bC idx pol : Nat} {brk : Bool} {tk : List Bool} (h : RingF w bR bM at_ bT N bC idx pol brk tk) (x : Nat) : RingF (w.setCell ⟨bR, 4, none⟩ (.int .u16 (x : Nat))) bR bM at_ bT N bC x pol brk tk := by
  refine ⟨?_, ((Fr.refl [bR] w).setCell (by simp) _).heap h.tak (by simpa using blk_ne h.tak h.blk (by decide)), h.len⟩
  simp [World.setCell, Array.getElem?_modify, h.blk]
theorem RingF.setPol {w : World} {bR bM at_ bT N bC idx pol : Nat} {brk : Bool} {tk : List Bool} (h : RingF w bR bM at_ bT N bC idx pol brk tk) (x : Nat) : RingF (w.setCell ⟨bR, 5, none⟩ (.int .u16 (x : Nat))) bR bM at_ bT N bC idx x brk tk := by
  refine ⟨?_, ((Fr.refl [bR] w).setCell (by simp) _).heap h.tak (by simpa using blk_ne h.tak h.blk (by decide)), h.len⟩
  simp [World.setCell, Array.getElem?_modify, h.blk]
theorem RingF.setBrk {w : World} {bR bM at_ bT N bC idx pol : Nat} {brk : Bool} {tk : List Bool} (h : RingF w bR bM at_ bT N bC idx pol brk tk) (x : Bool) : RingF (w.setCell ⟨bR, 6, none⟩ (.bool x)) bR bM at_ bT N bC idx pol x tk := by
  refine ⟨?_, ((Fr.refl [bR] w).setCell (by simp) _).heap h.tak (by simpa using blk_ne h.tak h.blk (by decide)), h.len⟩
  simp [World.setCell, Array.getElem?_modify, h.blk]
theorem writer_any (bR g n cap : Nat) (w : World) : Calls Try.prog 40 #[.pointer (some ⟨bR, 0, none⟩), .slice (some ⟨g, 0, none⟩) n cap] w fun e w' => ∃ p1 p2 p3, e = .returned (.func (.func 61) #[] #[.pointer (some ⟨p1, 0, none⟩), .pointer (some ⟨p2, 0, none⟩), .pointer (some ⟨p3, 0, none⟩)]) ∧
    w'.heap[p1]? = some (.cells #[.pointer (some ⟨bR, 0, none⟩)] 29) ∧ w'.heap[p2]? = some (.cells #[.slice (some ⟨g, 0, none⟩) n cap] 33) ∧ w'.heap[p3]? = some (.cells #[.int .i64 (0 : Nat)] 3) ∧ w.heap.size ≤ p1 ∧ w.heap.size ≤ p2 ∧ w.heap.size ≤ p3 ∧ Fr [] w w' := by
  go_enter Try.func40, Try.ntmps40
  go_wp2
  go_ret
  have := three_new w (.cells #[.pointer (some ⟨bR, 0, none⟩)] 29) (.cells #[.slice (some ⟨g, 0, none⟩) n cap] 33) (.cells #[.int .i64 (0 : Nat)] 3)
  exact ⟨_, _, _, rfl, this.1, this.2.1, this.2.2, by omega, by omega, by omega, (((Fr.refl _ _).alloc _).alloc _).alloc _⟩
/-- The flags of a descriptor. -/
def flg (more xI : Bool) : Nat := (if more then 1 else 0) + (if xI then 2 else 0)
/-- What stands while a descriptor is written. -/
structure WSt (w W : World) (bR bM bm bb k at_ bT N bC idx pol p1 p3 n0 j xA xL : Nat) (xI brk : Bool) (tk : List Bool) (lv : Value) (l : List (Nat × Nat)) (bs : List UInt8) : Prop where
  ring : RingF W bR bM at_ bT N bC idx pol brk tk
  mem : MemA W bM bm bb k lv l bs
  b1 : W.heap[p1]? = some (.cells #[.pointer (some ⟨bR, 0, none⟩)] 29)
  b3 : W.heap[p3]? = some (.cells #[.int .i64 (j : Nat)] 3)
  bx : W.heap[n0]? = some (.cells #[.int .u32 (xA : Nat), .int .u32 (xL : Nat), .bool xI] 59)
  fr : Fr [bT, p3, bb] w W
section
variable {w W W' : World} {bR bM bm bb k at_ bT N bC idx pol p1 p3 n0 j xA xL : Nat} {xI brk : Bool} {tk : List Bool} {lv : Value} {l : List (Nat × Nat)} {bs bs' : List UInt8}
theorem WSt.put (h : WSt w W bR bM bm bb k at_ bT N bC idx pol p1 p3 n0 j xA xL xI brk tk lv l bs) (hM : MemA W' bM bm bb k lv l bs') (hF : Fr [bb] W W') : WSt w W' bR bM bm bb k at_ bT N bC idx pol p1 p3 n0 j xA xL xI brk tk lv l bs' :=
  ⟨h.ring.fr hF (by simpa using blk_ne h.ring.blk h.mem.bytes (by decide)) (by simpa using blk_ne h.ring.tak h.mem.bytes (by decide)), hM, hF.heap h.b1 (by simpa using blk_ne h.b1 h.mem.bytes (by decide)), hF.heap h.b3 (by simpa using blk_ne h.b3 h.mem.bytes (by decide)), hF.heap h.bx (by simpa using blk_ne h.bx h.mem.bytes (by decide)), h.fr.trans hF (fun t ht => .inl (by simp at ht; simp [ht]))⟩
theorem WSt.fr0 (h : WSt w W bR bM bm bb k at_ bT N bC idx pol p1 p3 n0 j xA xL xI brk tk lv l bs) (hF : Fr [] W W') : WSt w W' bR bM bm bb k at_ bT N bC idx pol p1 p3 n0 j xA xL xI brk tk lv l bs :=
  h.put (h.mem.fr0 hF) (hF.mono (by simp))
theorem WSt.cells (h : WSt w W bR bM bm bb k at_ bT N bC idx pol p1 p3 n0 j xA xL xI brk tk lv l bs) : W.cell? ⟨p1, 0, none⟩ = some (.pointer (some ⟨bR, 0, none⟩)) ∧ W.cell? ⟨bR, 0, none⟩ = some (.pointer (some ⟨bM, 0, none⟩)) ∧ W.cell? ⟨n0, 0, none⟩ = some (.int .u32 (xA : Nat)) ∧ W.cell? ⟨n0, 1, none⟩ = some (.int .u32 (xL : Nat)) ∧ W.cell? ⟨n0, 2, none⟩ = some (.bool xI) :=
  ⟨cell_of_heap h.b1 rfl, h.ring.c0, cell_of_heap h.bx rfl, cell_of_heap h.bx rfl, cell_of_heap h.bx rfl⟩
theorem WSt.put16 (h : WSt w W bR bM bm bb k at_ bT N bC idx pol p1 p3 n0 j xA xL xI brk tk lv l bs) (hK : Kept l at_ N) (ho : at_ + uAt N ≤ k) (a x : Nat) (z : Int) (hz : z = (x : Nat)) (hx : x < 65536) (h1 : at_ ≤ a) (h2 : a + 2 ≤ at_ + uAt N) :
    Calls Try.prog 64 #[.pointer (some ⟨bM, 0, none⟩), .int .u32 (a : Nat), .int .u16 z] W fun e w' => e = .returned (.int .i64 0) ∧ WSt w w' bR bM bm bb k at_ bT N bC idx pol p1 p3 n0 j xA xL xI brk tk lv l (wrb bs a (le 2 x)) := by
  subst hz
  exact (mput16_ok bM bm bb k a x lv l bs hx W h.mem (by omega) (fun q g1 g2 => hK q (by omega) (by omega))).mono fun e w' ⟨g1, g2, g3⟩ => ⟨g1, h.put g2 g3⟩
theorem WSt.put32 (h : WSt w W bR bM bm bb k at_ bT N bC idx pol p1 p3 n0 j xA xL xI brk tk lv l bs) (hK : Kept l at_ N) (ho : at_ + uAt N ≤ k) (a x : Nat) (hx : x < 4294967296) (h1 : at_ ≤ a) (h2 : a + 4 ≤ at_ + uAt N) :
    Calls Try.prog 63 #[.pointer (some ⟨bM, 0, none⟩), .int .u32 (a : Nat), .int .u32 (x : Nat)] W fun e w' => e = .returned (.int .i64 0) ∧ Hid (WSt w w' bR bM bm bb k at_ bT N bC idx pol p1 p3 n0 j xA xL xI brk tk lv l (wrb bs a (le 4 x))) ∧ w'.cell? ⟨p1, 0, none⟩ = some (.pointer (some ⟨bR, 0, none⟩)) ∧ w'.cell? ⟨bR, 0, none⟩ = some (.pointer (some ⟨bM, 0, none⟩)) ∧ w'.cell? ⟨n0, 0, none⟩ = some (.int .u32 (xA : Nat)) ∧ w'.cell? ⟨n0, 1, none⟩ = some (.int .u32 (xL : Nat)) :=
  (mput32_ok bM bm bb k a x lv l bs hx W h.mem (by omega) (fun q g1 g2 => hK q (by omega) (by omega))).mono fun e w' ⟨g1, g2, g3⟩ => ⟨g1, h.put g2 g3, (h.put g2 g3).cells.1, (h.put g2 g3).cells.2.1, (h.put g2 g3).cells.2.2.1, (h.put g2 g3).cells.2.2.2.1⟩
theorem WSt.put64 (h : WSt w W bR bM bm bb k at_ bT N bC idx pol p1 p3 n0 j xA xL xI brk tk lv l bs) (hK : Kept l at_ N) (ho : at_ + uAt N ≤ k) (a x : Nat) (hx : x < 4294967296) (h1 : at_ ≤ a) (h2 : a + 8 ≤ at_ + uAt N) :
    Calls Try.prog 62 #[.pointer (some ⟨bM, 0, none⟩), .int .u32 (a : Nat), .int .u64 (x : Nat)] W fun e w' => e = .returned (.int .i64 0) ∧ Hid (WSt w w' bR bM bm bb k at_ bT N bC idx pol p1 p3 n0 j xA xL xI brk tk lv l (wrb bs a (le 8 x))) ∧ w'.cell? ⟨p1, 0, none⟩ = some (.pointer (some ⟨bR, 0, none⟩)) ∧ w'.cell? ⟨bR, 0, none⟩ = some (.pointer (some ⟨bM, 0, none⟩)) ∧ w'.cell? ⟨n0, 0, none⟩ = some (.int .u32 (xA : Nat)) ∧ w'.cell? ⟨n0, 1, none⟩ = some (.int .u32 (xL : Nat)) :=
  (mput64_ok bM bm bb k a x lv l bs (by omega) W h.mem (by omega) (fun q g1 g2 => hK q (by omega) (by omega))).mono fun e w' ⟨g1, g2, g3⟩ => ⟨g1, h.put g2 g3, (h.put g2 g3).cells.1, (h.put g2 g3).cells.2.1, (h.put g2 g3).cells.2.2.1, (h.put g2 g3).cells.2.2.2.1⟩
end
theorem writer1_any (bR bM bm bb k at_ bT N bC idx pol g cap p1 p2 p3 i xA xL : Nat) (xI brk : Bool) (tk : List Bool) (lv : Value) (l : List (Nat × Nat)) (bs : List UInt8) (ds : List Nat) (w : World) (hR : RingF w bR bM at_ bT N bC idx pol brk tk) (hM : MemA w bM bm bb k lv l bs) (hD : DescsAt w g ds)
    (hp1 : w.heap[p1]? = some (.cells #[.pointer (some ⟨bR, 0, none⟩)] 29)) (hp2 : w.heap[p2]? = some (.cells #[.slice (some ⟨g, 0, none⟩) ds.length cap] 33)) (hp3 : w.heap[p3]? = some (.cells #[.int .i64 (i : Nat)] 3))
    (hi : i < ds.length) (hdl : ds.length ≤ 8) (hds : ∀ d ∈ ds, d < N) (hN : N ≤ 256) (ho : at_ + uAt N ≤ k) (hK : Kept l at_ N) (hA : xA < 4294967296) (hL : xL < 4294967296) :
    Calls Try.prog 61 (#[.agg #[.int .u32 xA, .int .u32 xL, .bool xI]] ++ #[.pointer (some ⟨p1, 0, none⟩), .pointer (some ⟨p2, 0, none⟩), .pointer (some ⟨p3, 0, none⟩)]) w fun e w' => e = .returned (.tuple #[]) ∧
      RingF w' bR bM at_ bT N bC idx pol brk (tk.set ds[i] true) ∧ MemA w' bM bm bb k lv l (descW bs (at_ + 16 * ds[i]) xA xL (flg (decide (i + 1 < ds.length)) xI) (ds.getD (i + 1) 0)) ∧ w'.heap[p3]? = some (.cells #[.int .i64 (i + 1 : Nat)] 3) ∧ Fr [bT, p3, bb] w w' := by
  have hk := hM.mid.top
  have hu : 16 * N + 6 + 2 * N ≤ uAt N := by unfold uAt; omega
  have hd := hds ds[i] (List.getElem_mem hi)
  have hi' : (i : Int) < (ds.length : Int) := by omega
  have tl : tk.length = N := hR.len
  have hnx : ds.getD (i + 1) 0 < 65536 := by
    rcases Nat.lt_or_ge (i + 1) ds.length with h | h
    · have := hds ds[i + 1] (List.getElem_mem h); simp [h]; omega
    · simp [h]
  have Hnx := hid (fun (W : World) (hF : Fr [bT, p3, bb] w W) (h : i + 1 < ds.length) => (show W.cell? ⟨g, i + 1, none⟩ = some (.int .u16 (ds.getD (i + 1) 0 : Nat)) from by
    have := (hD.fr hF (by simp; exact ⟨hD.ne hR.tak (by decide), hD.ne hp3 (by decide), hD.ne hM.bytes (by decide)⟩)).cell (i + 1) h
    simpa [h] using this))
  have Hnz := hid (show ¬ i + 1 < ds.length → ds.getD (i + 1) 0 = 0 from fun h => by simp [show ds.length ≤ i + 1 by omega])
  have e1 := blk_ne hR.tak hR.blk (by decide)
  have e2 := blk_ne hR.tak hp1 (by decide)
  have e3 := blk_ne hR.tak hp2 (by decide)
  have e4 := blk_ne hR.tak hp3 (by decide)
  have e5 := (hD.ne hR.tak (by decide)).symm
  have e6 := blk_ne hp3 hp1 (by decide)
  have e7 := blk_ne hp3 hp2 (by decide)
  have e8 := (hD.ne hp3 (by decide)).symm
  have e9 := blk_ne hp3 hR.blk (by decide)
  have HE := hid (show bR ∉ [bb] ∧ bT ∉ [bb] ∧ p1 ∉ [bb] ∧ p2 ∉ [bb] ∧ p3 ∉ [bb] ∧ g ∉ [bb] ∧ bb ≠ bT ∧ bb ≠ p3 ∧ bM ≠ bT ∧ bM ≠ p3 ∧ bm ≠ bT ∧ bm ≠ p3 from ⟨by simpa using blk_ne hR.blk hM.bytes (by decide), by simpa using blk_ne hR.tak hM.bytes (by decide), by simpa using blk_ne hp1 hM.bytes (by decide), by simpa using blk_ne hp2 hM.bytes (by decide), by simpa using blk_ne hp3 hM.bytes (by decide), by simpa using hD.ne hM.bytes (by decide), blk_ne hM.bytes hR.tak (by decide), blk_ne hM.bytes hp3 (by decide), blk_ne hM.top hR.tak (by decide), blk_ne hM.top hp3 (by decide), blk_ne hM.mid.blk hR.tak (by decide), blk_ne hM.mid.blk hp3 (by decide)⟩)
  have HO := hid (show ∀ g', lv.ownBlock = some g' → g' ≠ bT ∧ g' ≠ p3 from fun g' h => ⟨Row.ne hM.mid.row hR.tak (by decide) g' h, Row.ne hM.mid.row hp3 (by decide) g' h⟩)
  obtain ⟨D, hDD⟩ : ∃ D, D = at_ + 16 * ds[i] := ⟨_, rfl⟩
  have HP := hid (show at_ ≤ D ∧ D + 16 ≤ at_ + uAt N by omega)
  have HK := hid hK
  rw [← hDD]
  have H57 := hid (fun W (hF : Fr [] w W) => (show Calls Try.prog 57 #[.pointer (some ⟨bR, 0, none⟩), .int .u16 (ds[i] : Nat)] W fun e w' => e = .returned (.int .u32 (D : Nat)) ∧ w' = W from by rw [hDD]; exact desc_any bR bM at_ bT N bC idx pol ds[i] brk tk W (hR.fr hF (by simp) (by simp)) (by omega) (by omega)))
  have HR := hid hR
  have HM := hid hM
  have HD := hid (And.intro (fun W (hF : Fr [] w W) => (hD.fr hF (by simp)).cell i hi) (And.intro (taken_cell hR ds[i] (by omega)) (lt_of_heap hp3)))
  have Hp := hid (And.intro hp1 (And.intro hp2 hp3))
  generalize hdd : ds[i] = dd at *
  have hdN : (dd : Int) < (N : Int) := by omega
  generalize tk.getD dd true = tv at *
  generalize ds.getD (i + 1) 0 = nx at *
  clear hR hM hD hp1 hp2 hp3 hds hK hDD hdd
  generalize hlen : ds.length = n at *
  clear hlen
  go_enter Try.func61, Try.ntmps61
  go_wp2_with fail
  have HF0 := hid (show Fr [] w (w.alloc (.cells #[.int .u32 (xA : Nat), .int .u32 (xL : Nat), .bool xI] 59)) from (Fr.refl _ _).alloc _)
  have hx0 := heap_alloc_new w (.cells #[.int .u32 (xA : Nat), .int .u32 (xL : Nat), .bool xI] 59)
  generalize w.alloc (.cells #[.int .u32 (xA : Nat), .int .u32 (xL : Nat), .bool xI] 59) = W0 at *
  have hn0 : bT ≠ w.heap.size ∧ p3 ≠ w.heap.size := by
    have := lt_of_heap HR.out.tak
    have := lt_of_heap Hp.out.2.2
    omega
  generalize w.heap.size = n0 at *
  have s1 := HF0.out.cell (cell_of_heap (o := 0) Hp.out.1 rfl) (by simp)
  have s2 := HF0.out.cell (cell_of_heap (o := 0) Hp.out.2.1 rfl) (by simp)
  have s3 := HF0.out.cell (cell_of_heap (o := 0) Hp.out.2.2 rfl) (by simp)
  have r2 := HF0.out.cell HR.out.c2 (by simp)
  have g0 := HD.out.1 W0 HF0.out
  have H57' := hid (fun (d : Nat) => H57.out (W0.drewN d) (HF0.out.drewN d))
  go_quiet (exact Calls.quiet_of_same (H57'.out _))
  have HF1 := hid (HF0.out.drewN nq)
  have hx1 : (W0.drewN nq).heap[n0]? = some (.cells #[.int .u32 (xA : Nat), .int .u32 (xL : Nat), .bool xI] 59) := hx0
  generalize W0.drewN nq = W1 at *
  clear H57 H57' hx0 s1 s2 s3 r2 g0 HF0
  have s1 := HF1.out.cell (cell_of_heap (o := 0) Hp.out.1 rfl) (by simp)
  have s2 := HF1.out.cell (cell_of_heap (o := 0) Hp.out.2.1 rfl) (by simp)
  have s3 := HF1.out.cell (cell_of_heap (o := 0) Hp.out.2.2 rfl) (by simp)
  have r2 := HF1.out.cell HR.out.c2 (by simp)
  have g0 := HD.out.1 W1 HF1.out
  have t0 := HF1.out.cell HD.out.2.1 (by simp)
  have zt := frozen_of_heap (o := dd) (HF1.out.heap HR.out.tak (by simp))
  go_wp2_with fail
  go_region_held (fun w' => w'.cell? ⟨p1, 0, none⟩ = some (.pointer (some ⟨bR, 0, none⟩)) ∧ w'.cell? ⟨p2, 0, none⟩ = some (.slice (some ⟨g, 0, none⟩) n cap) ∧ w'.cell? ⟨p3, 0, none⟩ = some (.int .i64 (i : Nat)) ∧ w'.cell? ⟨bR, 2, none⟩ = some (.slice (some ⟨bT, 0, none⟩) N N) ∧ w'.cell? ⟨g, i, none⟩ = some (.int .u16 (dd : Nat))) (go_keep) (fail)
  have HF2 := hid (show Fr [bT, p3, bb] w (W1.setCell ⟨bT, dd, none⟩ (.bool true)).drew from ((HF1.out.mono (by simp)).setCell (by simp) _).drew)
  have HR2 := hid (show RingF (W1.setCell ⟨bT, dd, none⟩ (.bool true)).drew bR bM at_ bT N bC idx pol brk (tk.set dd true) from ((HR.out.fr HF1.out (by simp) (by simp)).setTak dd true).fr ((Fr.refl [] _).drew) (by simp) (by simp))
  have hx2 : (W1.setCell ⟨bT, dd, none⟩ (.bool true)).drew.heap[n0]? = some (.cells #[.int .u32 (xA : Nat), .int .u32 (xL : Nat), .bool xI] 59) := ((Fr.refl [bT] W1).setCell (by simp) (.bool true)).drew.heap hx1 (by simpa using hn0.1.symm)
  have Hp2 := hid (show (W1.setCell ⟨bT, dd, none⟩ (.bool true)).drew.heap[p1]? = some (.cells #[.pointer (some ⟨bR, 0, none⟩)] 29) ∧ (W1.setCell ⟨bT, dd, none⟩ (.bool true)).drew.heap[p2]? = some (.cells #[.slice (some ⟨g, 0, none⟩) n cap] 33) ∧ (W1.setCell ⟨bT, dd, none⟩ (.bool true)).drew.heap[p3]? = some (.cells #[.int .i64 (i : Nat)] 3) from by
    have hF := (HF1.out.mono (T := [bT]) (by simp)).setCell (p := ⟨bT, dd, none⟩) (by simp) (.bool true)
    exact ⟨hF.drew.heap Hp.out.1 (by simpa using e2.symm), hF.drew.heap Hp.out.2.1 (by simpa using e3.symm), hF.drew.heap Hp.out.2.2 (by simpa using e4.symm)⟩)
  have HM2 := hid (show MemA (W1.setCell ⟨bT, dd, none⟩ (.bool true)).drew bM bm bb k lv l bs from by
    have hF : Fr [bT] w (W1.setCell ⟨bT, dd, none⟩ (.bool true)).drew := ((HF1.out.mono (T := [bT]) (by simp)).setCell (p := ⟨bT, dd, none⟩) (by simp) (.bool true)).drew
    have hE := HE.out
    exact HM.out.fr hF (by simp; exact hE.2.2.2.2.2.2.2.2.1) (by simp; exact hE.2.2.2.2.2.2.2.2.2.2.1) (by simp; exact hE.2.2.2.2.2.2.1) (fun g' hg' => by simp; exact (HO.out g' hg').1))
  generalize (W1.setCell ⟨bT, dd, none⟩ (.bool true)).drew = W2 at *
  clear s1 s2 s3 r2 g0 t0 zt hx1 HF1 HR HM Hp HD
  have HF3 := hid (show Fr [bT, p3, bb] w (W2.setCell ⟨p3, 0, none⟩ (.int .i64 (i + 1 : Nat))) from HF2.out.setCell (by simp) _)
  have HW3 := hid (show WSt w (W2.setCell ⟨p3, 0, none⟩ (.int .i64 (i + 1 : Nat))) bR bM bm bb k at_ bT N bC idx pol p1 p3 n0 (i + 1) xA xL xI brk (tk.set dd true) lv l bs from by
    have hF : Fr [p3] W2 (W2.setCell ⟨p3, 0, none⟩ (.int .i64 (i + 1 : Nat))) := (Fr.refl [p3] W2).setCell (by simp) _
    have hE := HE.out
    refine ⟨HR2.out.fr hF (by simpa using e9.symm) (by simpa using e4), HM2.out.fr hF (by simp; exact hE.2.2.2.2.2.2.2.2.2.1) (by simp; exact hE.2.2.2.2.2.2.2.2.2.2.2) (by simp; exact hE.2.2.2.2.2.2.2.1) (fun g' hg' => by simp; exact (HO.out g' hg').2), hF.heap Hp2.out.1 (by simpa using e6.symm), ?_, hF.heap hx2 (by simpa using hn0.2.symm), HF3.out⟩
    simp [World.setCell, Array.getElem?_modify, Hp2.out.2.2])
  have Hs2 := hid (show (W2.setCell ⟨p3, 0, none⟩ (.int .i64 (i + 1 : Nat))).cell? ⟨p2, 0, none⟩ = some (.slice (some ⟨g, 0, none⟩) n cap) from ((Fr.refl [p3] W2).setCell (p := ⟨p3, 0, none⟩) (by simp) (.int .i64 (i + 1 : Nat))).cell (cell_of_heap Hp2.out.2.1 rfl) (by simpa using e7.symm))
  have s1 := cell_of_heap (o := 0) Hp2.out.1 rfl
  have s2 := cell_of_heap (o := 0) Hp2.out.2.1 rfl
  have s3 := cell_of_heap (o := 0) Hp2.out.2.2 rfl
  have z3 := frozen_of_heap (o := 0) Hp2.out.2.2
  have x2 := cell_of_heap (o := 2) hx2 rfl
  have ec : ((i + 1 : Nat) : Int) = (i : Int) + 1 := by omega
  have wA : IntKind.u64.wrap (xA : Int) = xA := wraps_u64 _ (by omega) (by omega)
  obtain ⟨D8, hD8⟩ : ∃ D', D' = D + 8 := ⟨_, rfl⟩
  obtain ⟨D12, hD12⟩ : ∃ D', D' = D + 12 := ⟨_, rfl⟩
  obtain ⟨D14, hD14⟩ : ∃ D', D' = D + 14 := ⟨_, rfl⟩
  have hDb : D + 16 ≤ 1048576 := by have := HP.out; omega
  have w8 : IntKind.u32.wrap ((D : Int) + 8) = (D8 : Int) := by rw [IntKind.wrap_u32]; omega
  have w12 : IntKind.u32.wrap ((D : Int) + 12) = (D12 : Int) := by rw [IntKind.wrap_u32]; omega
  have w14 : IntKind.u32.wrap ((D : Int) + 14) = (D14 : Int) := by rw [IntKind.wrap_u32]; omega
  have HD := hid (show D8 = D + 8 ∧ D12 = D + 12 ∧ D14 = D + 14 from ⟨hD8, hD12, hD14⟩)
  rw [ec] at HW3 HF3 Hs2
  clear hD8 hD12 hD14 HF2 HR2 HM2 Hp2 hx2 ec
  by_cases hm : i + 1 < n
  · have d1 : decide ((i : Int) + 1 < (n : Int)) = true := by simp; omega
    have hm' : (i : Int) + 1 < (n : Int) := by omega
    go_wp2_with fail
    have g1 := Hnx.out _ HF3.out hm
    generalize W2.setCell ⟨p3, 0, none⟩ (.int .i64 ((i : Int) + 1)) = W3 at *
    clear s1 s2 s3 z3 x2
    have s2 := Hs2.out
    have s3 : W3.cell? ⟨p3, 0, none⟩ = some (.int .i64 ((i : Int) + 1)) := cell_of_heap HW3.out.b3 rfl
    go_quiet (fail)
    have HW4 := hid (HW3.out.fr0 ((Fr.refl _ W3).drewN nq))
    generalize W3.drewN nq = W4 at *
    clear s2 s3 g1 HW3 Hs2 HF3
    have x2 := HW4.out.cells.2.2.2.2
    cases xI with
    | true =>
      have k1 := HW4.out.cells.1
      have k2 := HW4.out.cells.2.1
      have k3 := HW4.out.cells.2.2.1
      have k4 := HW4.out.cells.2.2.2.1
      go_wp2_with fail
      go_region_held (fun w' => w'.cell? ⟨p1, 0, none⟩ = some (.pointer (some ⟨bR, 0, none⟩)) ∧ w'.cell? ⟨bR, 0, none⟩ = some (.pointer (some ⟨bM, 0, none⟩)) ∧ w'.cell? ⟨n0, 0, none⟩ = some (.int .u32 (xA : Nat))) (go_keep) ((go_at_call 62; refine (WSt.put64 (HW4.out.fr0 ((Fr.refl _ W4).drew)) HK.out ho D xA hA (by have := HP.out; omega) (by have := HP.out; omega)).mono ?_; rintro e w5 ⟨rfl, H5, m1, m2, m3, m4⟩))
      clear k1 k2 k3 k4 x2
      go_wp2_with fail
      go_region_held (fun w' => w'.cell? ⟨p1, 0, none⟩ = some (.pointer (some ⟨bR, 0, none⟩)) ∧ w'.cell? ⟨bR, 0, none⟩ = some (.pointer (some ⟨bM, 0, none⟩)) ∧ w'.cell? ⟨n0, 1, none⟩ = some (.int .u32 (xL : Nat))) (go_keep) ((go_at_call 63; refine (WSt.put32 (H5.out.fr0 ((Fr.refl _ w5).drew)) HK.out ho D8 xL hL (by have := HP.out; have := HD.out; omega) (by have := HP.out; have := HD.out; omega)).mono ?_; rintro e w6 ⟨rfl, H6, k1, k2, k3, k4⟩))
      clear m1 m2 m3 m4
      go_wp2_with fail
      refine (WSt.put16 H6.out HK.out ho D12 (flg true true) _ rfl (by decide) (by have := HP.out; have := HD.out; omega) (by have := HP.out; have := HD.out; omega)).mono ?_
      rintro e w7 ⟨rfl, h7⟩
      have H7 := hid h7
      clear h7 k1 k2 k3 k4
      have k1 := H7.out.cells.1
      have k2 := H7.out.cells.2.1
      go_wp2_with fail
      refine (WSt.put16 H7.out HK.out ho D14 nx _ rfl (by omega) (by have := HP.out; have := HD.out; omega) (by have := HP.out; have := HD.out; omega)).mono ?_
      rintro e w8 ⟨rfl, h8⟩
      have H8 := hid h8
      clear h8 k1 k2
      go_wp2
      go_end0
      refine ⟨rfl, H8.out.ring, ?_, H8.out.b3, H8.out.fr⟩
      have h9 := H8.out.mem
      rw [HD.out.1, HD.out.2.1, HD.out.2.2] at h9
      rw [decide_eq_true hm]
      exact h9
    | false =>
      have k1 := HW4.out.cells.1
      have k2 := HW4.out.cells.2.1
      have k3 := HW4.out.cells.2.2.1
      have k4 := HW4.out.cells.2.2.2.1
      go_wp2_with fail
      go_region_held (fun w' => w'.cell? ⟨p1, 0, none⟩ = some (.pointer (some ⟨bR, 0, none⟩)) ∧ w'.cell? ⟨bR, 0, none⟩ = some (.pointer (some ⟨bM, 0, none⟩)) ∧ w'.cell? ⟨n0, 0, none⟩ = some (.int .u32 (xA : Nat))) (go_keep) ((go_at_call 62; refine (WSt.put64 (HW4.out.fr0 ((Fr.refl _ W4).drew)) HK.out ho D xA hA (by have := HP.out; omega) (by have := HP.out; omega)).mono ?_; rintro e w5 ⟨rfl, H5, m1, m2, m3, m4⟩))
      clear k1 k2 k3 k4 x2
      go_wp2_with fail
      go_region_held (fun w' => w'.cell? ⟨p1, 0, none⟩ = some (.pointer (some ⟨bR, 0, none⟩)) ∧ w'.cell? ⟨bR, 0, none⟩ = some (.pointer (some ⟨bM, 0, none⟩)) ∧ w'.cell? ⟨n0, 1, none⟩ = some (.int .u32 (xL : Nat))) (go_keep) ((go_at_call 63; refine (WSt.put32 (H5.out.fr0 ((Fr.refl _ w5).drew)) HK.out ho D8 xL hL (by have := HP.out; have := HD.out; omega) (by have := HP.out; have := HD.out; omega)).mono ?_; rintro e w6 ⟨rfl, H6, k1, k2, k3, k4⟩))
      clear m1 m2 m3 m4
      go_wp2_with fail
      refine (WSt.put16 H6.out HK.out ho D12 (flg true false) _ rfl (by decide) (by have := HP.out; have := HD.out; omega) (by have := HP.out; have := HD.out; omega)).mono ?_
      rintro e w7 ⟨rfl, h7⟩
      have H7 := hid h7
      clear h7 k1 k2 k3 k4
      have k1 := H7.out.cells.1
      have k2 := H7.out.cells.2.1
      go_wp2_with fail
      refine (WSt.put16 H7.out HK.out ho D14 nx _ rfl (by omega) (by have := HP.out; have := HD.out; omega) (by have := HP.out; have := HD.out; omega)).mono ?_
      rintro e w8 ⟨rfl, h8⟩
      have H8 := hid h8
      clear h8 k1 k2
      go_wp2
      go_end0
      refine ⟨rfl, H8.out.ring, ?_, H8.out.b3, H8.out.fr⟩
      have h9 := H8.out.mem
      rw [HD.out.1, HD.out.2.1, HD.out.2.2] at h9
      rw [decide_eq_true hm]
      exact h9
  · have d1 : decide ((i : Int) + 1 < (n : Int)) = false := by simp; omega
    have HW4 := HW3
    clear HW3
    cases xI with
    | true =>
      go_wp2_with fail
      generalize W2.setCell ⟨p3, 0, none⟩ (.int .i64 ((i : Int) + 1)) = W4 at *
      clear s1 s2 s3 z3 Hs2 HF3
      have k1 := HW4.out.cells.1
      have k2 := HW4.out.cells.2.1
      have k3 := HW4.out.cells.2.2.1
      have k4 := HW4.out.cells.2.2.2.1
      go_wp2_with fail
      go_region_held (fun w' => w'.cell? ⟨p1, 0, none⟩ = some (.pointer (some ⟨bR, 0, none⟩)) ∧ w'.cell? ⟨bR, 0, none⟩ = some (.pointer (some ⟨bM, 0, none⟩)) ∧ w'.cell? ⟨n0, 0, none⟩ = some (.int .u32 (xA : Nat))) (go_keep) ((go_at_call 62; refine (WSt.put64 (HW4.out.fr0 ((Fr.refl _ W4).drew)) HK.out ho D xA hA (by have := HP.out; omega) (by have := HP.out; omega)).mono ?_; rintro e w5 ⟨rfl, H5, m1, m2, m3, m4⟩))
      clear k1 k2 k3 k4 x2
      go_wp2_with fail
      go_region_held (fun w' => w'.cell? ⟨p1, 0, none⟩ = some (.pointer (some ⟨bR, 0, none⟩)) ∧ w'.cell? ⟨bR, 0, none⟩ = some (.pointer (some ⟨bM, 0, none⟩)) ∧ w'.cell? ⟨n0, 1, none⟩ = some (.int .u32 (xL : Nat))) (go_keep) ((go_at_call 63; refine (WSt.put32 (H5.out.fr0 ((Fr.refl _ w5).drew)) HK.out ho D8 xL hL (by have := HP.out; have := HD.out; omega) (by have := HP.out; have := HD.out; omega)).mono ?_; rintro e w6 ⟨rfl, H6, k1, k2, k3, k4⟩))
      clear m1 m2 m3 m4
      go_wp2_with fail
      refine (WSt.put16 H6.out HK.out ho D12 (flg false true) _ rfl (by decide) (by have := HP.out; have := HD.out; omega) (by have := HP.out; have := HD.out; omega)).mono ?_
      rintro e w7 ⟨rfl, h7⟩
      have H7 := hid h7
      clear h7 k1 k2 k3 k4
      have k1 := H7.out.cells.1
      have k2 := H7.out.cells.2.1
      go_wp2_with fail
      refine (WSt.put16 H7.out HK.out ho D14 0 _ rfl (by omega) (by have := HP.out; have := HD.out; omega) (by have := HP.out; have := HD.out; omega)).mono ?_
      rintro e w8 ⟨rfl, h8⟩
      have H8 := hid h8
      clear h8 k1 k2
      go_wp2
      go_end0
      refine ⟨rfl, H8.out.ring, ?_, H8.out.b3, H8.out.fr⟩
      have h9 := H8.out.mem
      rw [HD.out.1, HD.out.2.1, HD.out.2.2] at h9
      rw [decide_eq_false hm, Hnz.out hm]
      exact h9
    | false =>
      go_wp2_with fail
      generalize W2.setCell ⟨p3, 0, none⟩ (.int .i64 ((i : Int) + 1)) = W4 at *
      clear s1 s2 s3 z3 Hs2 HF3
      have k1 := HW4.out.cells.1
      have k2 := HW4.out.cells.2.1
      have k3 := HW4.out.cells.2.2.1
      have k4 := HW4.out.cells.2.2.2.1
      go_wp2_with fail
      go_region_held (fun w' => w'.cell? ⟨p1, 0, none⟩ = some (.pointer (some ⟨bR, 0, none⟩)) ∧ w'.cell? ⟨bR, 0, none⟩ = some (.pointer (some ⟨bM, 0, none⟩)) ∧ w'.cell? ⟨n0, 0, none⟩ = some (.int .u32 (xA : Nat))) (go_keep) ((go_at_call 62; refine (WSt.put64 (HW4.out.fr0 ((Fr.refl _ W4).drew)) HK.out ho D xA hA (by have := HP.out; omega) (by have := HP.out; omega)).mono ?_; rintro e w5 ⟨rfl, H5, m1, m2, m3, m4⟩))
      clear k1 k2 k3 k4 x2
      go_wp2_with fail
      go_region_held (fun w' => w'.cell? ⟨p1, 0, none⟩ = some (.pointer (some ⟨bR, 0, none⟩)) ∧ w'.cell? ⟨bR, 0, none⟩ = some (.pointer (some ⟨bM, 0, none⟩)) ∧ w'.cell? ⟨n0, 1, none⟩ = some (.int .u32 (xL : Nat))) (go_keep) ((go_at_call 63; refine (WSt.put32 (H5.out.fr0 ((Fr.refl _ w5).drew)) HK.out ho D8 xL hL (by have := HP.out; have := HD.out; omega) (by have := HP.out; have := HD.out; omega)).mono ?_; rintro e w6 ⟨rfl, H6, k1, k2, k3, k4⟩))
      clear m1 m2 m3 m4
      go_wp2_with fail
      refine (WSt.put16 H6.out HK.out ho D12 (flg false false) _ rfl (by decide) (by have := HP.out; have := HD.out; omega) (by have := HP.out; have := HD.out; omega)).mono ?_
      rintro e w7 ⟨rfl, h7⟩
      have H7 := hid h7
      clear h7 k1 k2 k3 k4
      have k1 := H7.out.cells.1
      have k2 := H7.out.cells.2.1
      go_wp2_with fail
      refine (WSt.put16 H7.out HK.out ho D14 0 _ rfl (by omega) (by have := HP.out; have := HD.out; omega) (by have := HP.out; have := HD.out; omega)).mono ?_
      rintro e w8 ⟨rfl, h8⟩
      have H8 := hid h8
      clear h8 k1 k2
      go_wp2
      go_end0
      refine ⟨rfl, H8.out.ring, ?_, H8.out.b3, H8.out.fr⟩
      have h9 := H8.out.mem
      rw [HD.out.1, HD.out.2.1, HD.out.2.2] at h9
      rw [decide_eq_false hm, Hnz.out hm]
      exact h9
end Go.Proofs.Ytfiaciniikcacaa
