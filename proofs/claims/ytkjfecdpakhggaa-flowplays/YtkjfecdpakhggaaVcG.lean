/-
  A reckoner of conditions: what operations make is what the model makes: blocks, rows, slices. No statement is proved here.
-/
import Derived.Test.YtkjfecdpakhggaaVcF
namespace Go.Proofs.Ytkjfecdpakhggaa
open Go.RowKit
set_option linter.unusedVariables false
set_option linter.unusedSimpArgs false

section
variable {P : Program} {w : World} (β : Nat → Nat)
theorem as64_ok : ∀ {xs : List SV} {l : List (BitVec 64)}, as64 xs = some l → vals β xs = l.map c64
  | [], l, h => by simp [as64] at h; subst h; rfl
  | .w64 x :: xs, l, h => by
    cases hx : as64 xs with
    | none => simp [as64, hx] at h
    | some m => simp [as64, hx] at h; subst h; simp [vals, val, as64_ok hx]
theorem as32_ok : ∀ {xs : List SV} {l : List (BitVec 32)}, as32 xs = some l → vals β xs = l.map c32
  | [], l, h => by simp [as32] at h; subst h; rfl
  | .w32 x :: xs, l, h => by
    cases hx : as32 xs with
    | none => simp [as32, hx] at h
    | some m => simp [as32, hx] at h; subst h; simp [vals, val, as32_ok hx]
theorem as8_ok : ∀ {xs : List SV} {l : List (BitVec 8)}, as8 xs = some l → vals β xs = l.map c8
  | [], l, h => by simp [as8] at h; subst h; rfl
  | .w8 x :: xs, l, h => by
    cases hx : as8 xs with
    | none => simp [as8, hx] at h
    | some m => simp [as8, hx] at h; subst h; simp [vals, val, as8_ok hx]
theorem rowSV_val (l : List SV) : val β (rowSV l) = .agg (vals β l).toArray := by
  unfold rowSV
  split
  · rename_i m h; rw [as32_ok β h]; rfl
  · split
    · rename_i m h; rw [as64_ok β h]; rfl
    · split
      · rename_i m h; rw [as8_ok β h]; rfl
      · rfl
theorem Holds.new (w : World) (cs : Array Value) (t : Nat) : Holds (w.alloc (.cells cs t)) w.heap.size true cs.toList (some (t, cs.toList.length)) :=
  ⟨by simp, fun j v hv => by rw [World.cell?_alloc_new]; simpa using hv, fun _ j _ => by rw [World.frozen?_alloc_new], fun s hs => by rw [← hs]; unfold World.shape?; rw [heap_alloc_new]; simp, fun _ c e lo hi hh => by
    rw [heap_alloc_new] at hh
    simp only [Option.some.injEq, Obj.cells.injEq, Prod.mk.injEq] at hh
    omega, fun _ _ j => by rw [World.frozen?_alloc_new]⟩
theorem Holds.plain {w : World} {b : Nat} {rw : Bool} {cs : List Value} {sh : Option (Nat × Nat)} (h : Holds w b rw cs sh) : Holds w b rw cs := ⟨h.lt, h.cell, h.free, fun s hs => (nomatch hs), h.iv, fun _ hs => by cases hs⟩
theorem isZ_eq {k : IntKind} {v : Value} (h : isZ k v = true) : v = .int k 0 := by
  cases v <;> simp [isZ] at h
  obtain ⟨rfl, rfl⟩ := h
  rfl
theorem allZ {k : IntKind} {l : List Value} (h : l.all (isZ k) = true) : l = List.replicate l.length (.int k 0) := by
  rw [List.eq_replicate_iff]
  exact ⟨rfl, fun v hv => isZ_eq (List.all_eq_true.1 h v hv)⟩
theorem zsv_ok {v : Value} {x : SV} (h : zsv v = some x) : val β x = v ∧ (∀ n, x.wf n = true) ∧ v.cells = #[v] := by
  unfold zsv at h
  split at h <;> (try simp only [reduceCtorEq] at h)
  · rename_i z
    cases hz : z == 0 <;> simp [hz] at h
    subst h; simp at hz; subst hz; exact ⟨rfl, fun _ => rfl, rfl⟩
  · rename_i z
    cases hz : z == 0 <;> simp [hz] at h
    subst h; simp at hz; subst hz; exact ⟨rfl, fun _ => rfl, rfl⟩
  · rename_i z
    cases hz : z == 0 <;> simp [hz] at h
    subst h; simp at hz; subst hz; exact ⟨rfl, fun _ => rfl, rfl⟩
  · rename_i z
    cases hz : z == 0 <;> simp [hz] at h
    subst h; simp at hz; subst hz; exact ⟨rfl, fun _ => rfl, rfl⟩
  · rename_i z
    cases hz : z == 0 <;> simp [hz] at h
    subst h; simp at hz; subst hz; exact ⟨rfl, fun _ => rfl, rfl⟩
  · rename_i k z _ _ _ _ _
    cases hz : z == 0 <;> simp [hz] at h
    subst h; simp at hz; subst hz; exact ⟨rfl, fun _ => rfl, rfl⟩
  · rename_i t
    cases t <;> simp at h
    subst h; exact ⟨rfl, fun _ => rfl, rfl⟩
  · rename_i s
    cases hz : s.size == 0 <;> simp [hz] at h
    subst h
    refine ⟨congrArg Value.string ?_, fun _ => rfl, rfl⟩
    have : bts s = [] := by
      have : s.size = 0 := by simpa using hz
      have h0 : s.data.toList = [] := List.eq_nil_of_length_eq_zero (by rw [Array.length_toList]; exact this)
      rw [bts, h0]; rfl
    rw [← txt_bts s, this]
  all_goals (obtain rfl := Option.some.inj h; exact ⟨rfl, fun _ => rfl, rfl⟩)
theorem zsvs_ok : ∀ {l : List Value} {m : List SV}, zsvs l = some m → vals β m = l ∧ ∀ n, SV.wf.wfs n m = true
  | [], m, h => by simp [zsvs] at h; subst h; exact ⟨rfl, fun _ => rfl⟩
  | v :: l, m, h => by
    unfold zsvs at h
    split at h
    · rename_i y k hy hk
      obtain rfl := Option.some.inj h
      obtain ⟨h1, h2, -⟩ := zsv_ok β hy
      obtain ⟨h3, h4⟩ := zsvs_ok hk
      exact ⟨by simp [vals, h1, h3], fun n => by simp [SV.wf.wfs, h2, h4]⟩
    · cases h
theorem zcv_ok {v : Value} {c : Cont} (h : zcv v = some c) : v.cells.toList = c.cells β ∧ c.here = true ∧ ∀ n, c.wf n = true := by
  unfold zcv at h
  split at h
  · rename_i cs
    cases h1 : cs.toList.all (isZ .u64)
    · cases h2 : cs.toList.all (isZ .u32)
      · cases h3 : cs.toList.all (isZ .u8)
        · simp only [h1, h2, h3, cond_false] at h
          cases h5 : (Nat.blt 8 cs.size && cs.toList.all (isZ .i64)) <;> simp only [h5, cond_false, cond_true] at h
          · cases h4 : zsvs cs.toList with
            | none => simp [h4] at h
            | some m =>
              simp [h4] at h
              subst h
              exact ⟨(zsvs_ok β h4).1.symm, rfl, (zsvs_ok β h4).2⟩
          · obtain rfl := Option.some.inj h
            simp only [Bool.and_eq_true] at h5
            exact ⟨by rw [Value.cells, allZ h5.2]; simp [Cont.cells], rfl, fun _ => rfl⟩
        · simp only [h1, h2, h3, cond_false, cond_true] at h
          obtain rfl := Option.some.inj h
          exact ⟨by rw [Value.cells, allZ h3]; simp [Cont.cells, c8], rfl, fun _ => rfl⟩
      · simp only [h1, h2, cond_false, cond_true] at h
        obtain rfl := Option.some.inj h
        exact ⟨by rw [Value.cells, allZ h2]; simp [Cont.cells, c32], rfl, fun _ => rfl⟩
    · simp only [h1, cond_true] at h
      obtain rfl := Option.some.inj h
      exact ⟨by rw [Value.cells, allZ h1]; simp [Cont.cells, c64], rfl, fun _ => rfl⟩
  · cases h4 : zsv v with
    | none => simp [h4] at h
    | some y =>
      simp [h4] at h
      subst h
      obtain ⟨h1, h2, h3⟩ := zsv_ok β h4
      exact ⟨by rw [h3]; simp [Cont.cells, vals, h1], rfl, fun n => by simp [Cont.wf, SV.wf.wfs, h2]⟩
theorem zcv_shp {v : Value} {c : Cont} (h : zcv v = some c) : c.shp = none := by
  unfold zcv at h
  split at h
  · rename_i cs
    cases h1 : cs.toList.all (isZ .u64)
    · cases h2 : cs.toList.all (isZ .u32)
      · cases h3 : cs.toList.all (isZ .u8)
        · simp only [h1, h2, h3, cond_false] at h
          cases h5 : (Nat.blt 8 cs.size && cs.toList.all (isZ .i64)) <;> simp only [h5, cond_false, cond_true] at h
          · cases h4 : zsvs cs.toList with
            | none => simp [h4] at h
            | some m => simp [h4] at h; subst h; rfl
          · obtain rfl := Option.some.inj h; rfl
        · simp only [h1, h2, h3, cond_false, cond_true] at h
          obtain rfl := Option.some.inj h; rfl
      · simp only [h1, h2, cond_false, cond_true] at h
        obtain rfl := Option.some.inj h; rfl
    · simp only [h1, cond_true] at h
      obtain rfl := Option.some.inj h; rfl
  · cases h4 : zsv v with
    | none => simp [h4] at h
    | some y => simp [h4] at h; subst h; rfl
theorem zc_shp {t : Nat} {c : Cont} (h : zc P t = some c) : c.shp = none := by
  unfold zc at h
  cases hi : P.info? t with
  | none => simp [hi] at h
  | some i =>
    cases hz : i.zero with
    | none => simp [hi, hz] at h
    | some v => simp [hi, hz] at h; exact zcv_shp h
theorem boxc_shp {x : SV} {c : Cont} (h : boxc x = some c) : c.shp = none := by
  unfold boxc at h
  split at h <;> (try simp only [reduceCtorEq] at h) <;> obtain rfl := Option.some.inj h <;> rfl
theorem tyC_cells (t : Nat) (b : Bool) (c : Cont) : (tyC t b c).cells β = c.cells β := by
  cases b
  · rfl
  · cases c <;> rfl
theorem tyC_shp (t : Nat) (b : Bool) {c : Cont} (h : c.shp = none) : ∀ s, (tyC t b c).shp = some s → s = (t, (c.cells β).length) := by
  intro s hs
  cases b
  · rw [show tyC t false c = c from rfl, h] at hs; cases hs
  · cases c with
    | row l =>
      have e : some (t, l.length) = some s := hs
      rw [← Option.some.inj e]; simp [Cont.cells, vals_map]
    | gone | a64 l | a32 l | a8 l | ints l | strs p l | res s => cases hs
    | tr u l | t8 u l => cases h
    | recs ty fs pre l => rw [show tyC t true (.recs ty fs pre l) = .recs ty fs pre l from rfl, h] at hs; cases hs
    | nrec _ _ _ _ => cases h
theorem alloc_ok {t : Nat} {c : Cont} (h : zc P t = some c) : ∃ cs : Array Value, (Instr.alloc t true (.tuple #[])).run P w = .ok (.pointer (some ⟨w.heap.size, 0, none⟩)) (w.alloc (.cells cs t)) ∧ cs.toList = c.cells β := by
  unfold zc at h
  cases hi : P.info? t with
  | none => simp [hi] at h
  | some i =>
    cases hz : i.zero with
    | none => simp [hi, hz] at h
    | some v =>
      simp [hi, hz] at h
      refine ⟨v.cells, ?_, (zcv_ok β h).1⟩
      simp [Instr.alloc, zeroValue, typeInfo, hi, hz, newVar, newRow]
theorem boxc_ok {x : SV} {c : Cont} (h : boxc x = some c) : (val β x).cells.toList = c.cells β ∧ c.here = true := by
  unfold boxc at h
  split at h <;> (try simp only [reduceCtorEq] at h) <;> obtain rfl := Option.some.inj h <;> first | exact ⟨rfl, rfl⟩ | (rename_i b _ _ _ _; cases b <;> exact ⟨rfl, rfl⟩) | exact ⟨by simp [val, Value.cells, Cont.cells], rfl⟩
theorem box_ok {t : Nat} {x : SV} {c : Cont} (h : boxc x = some c) : ∃ cs : Array Value, (Instr.box t (val β x)).run P w = .ok (.pointer (some ⟨w.heap.size, 0, none⟩)) (w.alloc (.cells cs t)) ∧ cs.toList = c.cells β := by
  refine ⟨(val β x).cells, ?_, (boxc_ok β h).1⟩
  simp [Instr.box, newVar, newRow]
theorem isRow_of {t : Nat} (h : isRowT P t = true) : ∃ d, P.underlying t = some d ∧ d.isRow = true := by
  unfold isRowT at h
  split at h
  · rename_i f hu; exact ⟨_, hu, rfl⟩
  · rename_i n e hu; exact ⟨_, hu, rfl⟩
  · cases h
  · cases h
theorem notRow_of {t : Nat} (h : isRowT P t = false) (hk : known P t = true) : (isAgg t).run P w = .ok false w := by
  unfold known at hk
  unfold isRowT at h
  obtain ⟨d, hd⟩ := Option.isSome_iff_exists.1 hk
  rw [hd] at h
  unfold isAgg
  rw [Sem.run_bind, run_underlying hd w, Result.andThen_ok]
  cases d <;> first | rfl | cases h
theorem size_of {t n : Nat} (h : Nat.beq n (sizeT P t) = true) (h0 : 0 < n) : (P.info? t).map (·.size) = some n := by
  have e := Nat.eq_of_beq_eq_true h
  unfold sizeT at e
  cases hi : P.info? t with
  | none => simp [hi] at e; omega
  | some i => simp [hi] at e ⊢; exact e.symm
theorem load_cell {k off : Nat} {t : Nat} {v : Value} (hr : isRowT P t = false) (hk : known P t = true) (hc : w.cell? ⟨k, off, none⟩ = some v) : (Instr.loadAt t (.pointer (some ⟨k, off, none⟩))).run P w = .ok v w := by
  simp [Instr.loadAt, Instr.sureAddr, loadVar, notRow_of (w := w) hr hk, hc]
theorem getD_get {α : Type} {l : List α} {k : Nat} (d : α) (h : k < l.length) : l[k]? = some (l.getD k d) := by simp [List.getD, h]
theorem sub_range {cs : List Value} {b off : Nat} {rw : Bool} {n : Nat} {sh : Option (Nat × Nat)} (h : Holds w b rw cs sh) : w.rangeAt b off ((cs.drop off).take n) := fun j v hv => by
  refine h.cell (off + j) v ?_
  have hj : j < n := by
    rcases Nat.lt_or_ge j n with q | q
    · exact q
    · rw [List.getElem?_take, if_neg (by omega)] at hv; cases hv
  rw [List.getElem?_take_of_lt hj, List.getElem?_drop] at hv
  exact hv
theorem ld_cell {s : St} {off : Nat} {x : SV} (h : s.ld off = some x) (hR : RIn s.objs w) : w.cell? ⟨s.mb, off, none⟩ = some (val β x) := by
  unfold St.ld at h
  split at h
  · rename_i mb clk es d
    have h1 : Holds w mb true [c32 d.a, .int .i64 d.z, .string (txt d.rd), .slice (some ⟨d.ib, 0, none⟩) d.n d.n, .slice (some ⟨d.bb, 0, none⟩) d.n d.n, .bool d.he, .int .i64 d.e, .bool d.ed] none := hR.all (mb, .cells [c32 d.a, .int .i64 d.z, .string (txt d.rd), .slice (some ⟨d.ib, 0, none⟩) d.n d.n, .slice (some ⟨d.bb, 0, none⟩) d.n d.n, .bool d.he, .int .i64 d.e, .bool d.ed] none) (List.mem_cons_self ..)
    split at h
    all_goals first
      | (cases h; exact h1.cell _ _ rfl)
      | cases h
  · cases h
theorem qload_ok {t k off : Nat} {c : Cont} {r : SV} (hc : AtC β w (.ptr k off) c) (hp : 0 < sizeT P t) (hq : qload P t off c = .ok true r) : (Instr.loadAt t (.pointer (some ⟨β k, off, none⟩))).run P w = .ok (val β r) w := by
  unfold qload at hq
  cases hk : known P t
  · simp [hk] at hq
  simp only [hk, Bool.not_true, cond_false] at hq
  cases hr : isRowT P t
  · simp only [hr, cond_false] at hq
    split at hq
    · simp only [QR.ok.injEq] at hq; obtain ⟨hb, rfl⟩ := hq; obtain ⟨r0, hh⟩ := hc rfl
      exact load_cell hr hk (hh.cell off _ (by rw [Cont.cells, List.getElem?_map, getD_get (0 : BitVec 64) (blt_lt hb)]; rfl))
    · simp only [QR.ok.injEq] at hq; obtain ⟨hb, rfl⟩ := hq; obtain ⟨r0, hh⟩ := hc rfl
      exact load_cell hr hk (hh.cell off _ (by rw [Cont.cells, List.getElem?_map, getD_get (0 : BitVec 32) (blt_lt hb)]; rfl))
    · simp only [QR.ok.injEq] at hq; obtain ⟨hb, rfl⟩ := hq; obtain ⟨r0, hh⟩ := hc rfl
      exact load_cell hr hk (hh.cell off _ (by rw [Cont.cells, List.getElem?_map, getD_get (0 : BitVec 8) (blt_lt hb)]; rfl))
    · simp only [QR.ok.injEq] at hq; obtain ⟨hb, rfl⟩ := hq; obtain ⟨r0, hh⟩ := hc rfl
      exact load_cell hr hk (hh.cell off _ (by rw [Cont.cells, List.getElem?_map, getD_get (0 : Int) (blt_lt hb)]; rfl))
    · rename_i pre l
      simp only [QR.ok.injEq, Bool.and_eq_true] at hq; obtain ⟨⟨hb1, hb2⟩, rfl⟩ := hq; obtain ⟨r0, hh⟩ := hc rfl
      have hb1 := Nat.le_of_ble_eq_true hb1
      have hb2 := blt_lt hb2
      exact load_cell hr hk (hh.cell off _ (by rw [Cont.cells, List.getElem?_append_right hb1, List.getElem?_map, getD_get ([] : List (BitVec 8)) (show off - pre.length < l.length by omega)]; rfl))
    · rename_i l
      split at hq
      · rename_i x hx
        simp only [QR.ok.injEq, true_and] at hq
        subst hq; obtain ⟨r0, hh⟩ := hc rfl
        exact load_cell hr hk (hh.cell off _ (by simp [Cont.cells, vals_map, hx]))
      · cases hq
    · rename_i l
      split at hq
      · rename_i x hx
        simp only [QR.ok.injEq, true_and] at hq
        subst hq; obtain ⟨r0, hh⟩ := hc rfl
        exact load_cell hr hk (hh.cell off _ (by simp [Cont.cells, vals_map, hx]))
      · cases hq
    · simp only [QR.ok.injEq] at hq; obtain ⟨hb, rfl⟩ := hq; obtain ⟨r0, hh⟩ := hc rfl
      exact load_cell hr hk (hh.cell off _ (by rw [Cont.cells, List.getElem?_map, getD_get (0 : BitVec 8) (blt_lt hb)]; rfl))
    · cases hq
    · cases hq
    · cases hq
    · rename_i s
      split at hq
      · rename_i x hx
        simp only [QR.ok.injEq, true_and] at hq
        subst hq
        obtain ⟨r0, hh⟩ := hc rfl
        have hh2 : β k = s.mb ∧ RIn s.objs w := hh
        rw [hh2.1]
        exact load_cell hr hk (ld_cell β hx hh2.2)
      · cases hq
  · simp only [hr, cond_true] at hq
    obtain ⟨d, hd, hd2⟩ := isRow_of hr
    split at hq
    · rename_i l
      cases hs : isStructT P t <;> rw [hs] at hq
      case true =>
        simp only [cond_true, QR.ok.injEq] at hq; obtain ⟨hl, rfl⟩ := hq; obtain ⟨r0, hh⟩ := hc rfl
        have hl' := Nat.le_of_ble_eq_true hl
        have e : ((l.drop off).take (sizeT P t)).map c64 = ((l.map c64).drop off).take (sizeT P t) := by simp
        have hlen : ((l.drop off).take (sizeT P t)).length = sizeT P t := by simp; omega
        exact run_loadAt_mid (P := P) w (β k) off t (((l.drop off).take (sizeT P t)).map c64) d (by rw [e]; exact sub_range hh) hd hd2 (by rw [List.length_map, hlen]; exact size_of (by simp) hp)
      simp only [cond_false, QR.ok.injEq, Bool.and_eq_true] at hq; obtain ⟨⟨h0, hl⟩, rfl⟩ := hq; obtain ⟨r0, hh⟩ := hc rfl
      obtain rfl := Nat.eq_of_beq_eq_true h0
      exact run_loadAt_mid w (β k) 0 t (l.map c64) d hh.range hd hd2 (by rw [List.length_map]; exact size_of hl (by rw [Nat.eq_of_beq_eq_true hl]; exact hp))
    · rename_i l
      simp only [QR.ok.injEq, Bool.and_eq_true] at hq; obtain ⟨⟨h0, hl⟩, rfl⟩ := hq; obtain ⟨r0, hh⟩ := hc rfl
      obtain rfl := Nat.eq_of_beq_eq_true h0
      exact run_loadAt_mid w (β k) 0 t (l.map c32) d hh.range hd hd2 (by rw [List.length_map]; exact size_of hl (by rw [Nat.eq_of_beq_eq_true hl]; exact hp))
    · rename_i l
      simp only [QR.ok.injEq, Bool.and_eq_true] at hq; obtain ⟨⟨h0, hl⟩, rfl⟩ := hq; obtain ⟨r0, hh⟩ := hc rfl
      obtain rfl := Nat.eq_of_beq_eq_true h0
      exact run_loadAt_mid w (β k) 0 t (l.map c8) d hh.range hd hd2 (by rw [List.length_map]; exact size_of hl (by rw [Nat.eq_of_beq_eq_true hl]; exact hp))
    · rename_i l
      simp only [QR.ok.injEq] at hq; obtain ⟨hl, rfl⟩ := hq; obtain ⟨r0, hh⟩ := hc rfl
      have hl' := Nat.le_of_ble_eq_true hl
      have e : vals β ((l.drop off).take (sizeT P t)) = ((vals β l).drop off).take (sizeT P t) := by simp [vals_map]
      have hlen : ((l.drop off).take (sizeT P t)).length = sizeT P t := by simp; omega
      have := run_loadAt_mid (P := P) w (β k) off t (vals β ((l.drop off).take (sizeT P t))) d (by rw [e]; exact sub_range hh) hd hd2 (by rw [vals_map, List.length_map, hlen]; exact size_of (by simp) hp)
      rw [rowSV_val]
      exact this
    · rename_i l
      simp only [QR.ok.injEq] at hq; obtain ⟨hl, rfl⟩ := hq; obtain ⟨r0, hh⟩ := hc rfl
      have hl' := Nat.le_of_ble_eq_true hl
      have e : vals β (((l.drop off).take (sizeT P t)).map .i) = ((l.map (.int .i64 ·)).drop off).take (sizeT P t) := by simp [vals_map, val, Function.comp_def]
      have hlen : (((l.drop off).take (sizeT P t)).map SV.i).length = sizeT P t := by simp; omega
      have := run_loadAt_mid (P := P) w (β k) off t (vals β (((l.drop off).take (sizeT P t)).map .i)) d (by rw [e]; exact sub_range hh) hd hd2 (by rw [vals_map, List.length_map, hlen]; exact size_of (by simp) hp)
      exact this
    · cases hq
theorem qloadW_ok {t k off : Nat} {c : Cont} {r : SV} (hc : AtC β w (.ptr k off) c) (hp : 0 < sizeT P t) (hq : qloadW P t off c = .ok true r) : (Instr.loadAt t (.pointer (some ⟨β k, off, none⟩))).run P w = .ok (val β r) w := by
  unfold qloadW at hq
  cases hb : known P t && isRowT P t <;> rw [hb] at hq
  · exact qload_ok β hc hp hq
  · simp only [Bool.and_eq_true] at hb
    obtain ⟨d, hd, hd2⟩ := isRow_of hb.2
    simp only [cond_true] at hq
    split at hq
    · rename_i l
      cases hz : (Nat.beq off 0 && Nat.beq l.length (sizeT P t)) <;> rw [hz] at hq
      · simp only [cond_false, QR.ok.injEq] at hq; obtain ⟨hl, rfl⟩ := hq; obtain ⟨r0, hh⟩ := hc rfl
        have hl' := Nat.le_of_ble_eq_true hl
        have e : ((l.drop off).take (sizeT P t)).map c64 = ((l.map c64).drop off).take (sizeT P t) := by simp
        have hlen : ((l.drop off).take (sizeT P t)).length = sizeT P t := by simp; omega
        exact run_loadAt_mid (P := P) w (β k) off t (((l.drop off).take (sizeT P t)).map c64) d (by rw [e]; exact sub_range hh) hd hd2 (by rw [List.length_map, hlen]; exact size_of (by simp) hp)
      · simp only [cond_true, QR.ok.injEq, true_and] at hq; subst hq; obtain ⟨r0, hh⟩ := hc rfl
        simp only [Bool.and_eq_true] at hz
        obtain rfl := Nat.eq_of_beq_eq_true hz.1
        exact run_loadAt_mid w (β k) 0 t (l.map c64) d hh.range hd hd2 (by rw [List.length_map]; exact size_of hz.2 (by rw [Nat.eq_of_beq_eq_true hz.2]; exact hp))
    · exact qload_ok β hc hp hq
theorem qloadT_ok {T : PT} {t k off : Nat} {c : Cont} {r : SV} (hc : AtC β w (.ptr k off) c) (hp : 0 < sizeT P t) (hq : (bif wideOn T then qloadW P t off c else qload P t off c) = .ok true r) : (Instr.loadAt t (.pointer (some ⟨β k, off, none⟩))).run P w = .ok (val β r) w := by
  cases hw : wideOn T <;> rw [hw] at hq
  · exact qload_ok β hc hp hq
  · exact qloadW_ok β hc hp hq
theorem qload_old {t off : Nat} {c : Cont} {b : Bool} {r : SV} {x : Cont} (hq : qload P t off c = .new b r x) : False := by
  unfold qload at hq
  cases hk : known P t <;> rw [hk] at hq
  · cases hq
  · cases hr : isRowT P t <;> rw [hr] at hq <;> cases hs : isStructT P t <;> simp only [hs, Bool.not_true, cond_false, cond_true] at hq <;> repeat' split at hq
    all_goals cases hq
theorem qloadT_old {T : PT} {t off : Nat} {c : Cont} {b : Bool} {r : SV} {x : Cont} (hq : (bif wideOn T then qloadW P t off c else qload P t off c) = .new b r x) : False := by
  cases hw : wideOn T <;> rw [hw] at hq
  · exact qload_old hq
  · simp only [cond_true, qloadW] at hq
    cases hb : known P t && isRowT P t <;> rw [hb] at hq
    · exact qload_old hq
    · simp only [cond_true] at hq
      split at hq
      · rename_i l
        cases hz : (Nat.beq off 0 && Nat.beq l.length (sizeT P t)) <;> rw [hz] at hq <;> cases hq
      · exact qload_old hq
end
end Go.Proofs.Ytkjfecdpakhggaa
