/-
  A reckoner of conditions: what operations make is what the model makes: indexes, slices, rows that are built. No statement is proved here.
-/
import Derived.Test.YtkjfecdpakhggaaVcG
import Derived.Laws.OwnMore
import Derived.Laws.Tables
namespace Go.Proofs.Ytkjfecdpakhggaa
open Go.RowKit
set_option linter.unusedVariables false
set_option linter.unusedSimpArgs false

section
variable {P : Program} {w : World} (β : Nat → Nat)
theorem iof_ok {y : SV} {z : Int} (h : iof y = some z) : ∃ k, val β y = .int k z := by
  cases y <;> simp only [iof, reduceCtorEq, Option.some.injEq] at h <;> subst h
  · exact ⟨.i64, rfl⟩
  · exact ⟨.u64, rfl⟩
  · exact ⟨.u32, rfl⟩
  · exact ⟨.u16, rfl⟩
  · exact ⟨.u8, rfl⟩
theorem inR_iff {z : Int} {n : Nat} : inR z n = true ↔ 0 ≤ z ∧ z < (n : Int) := by simp [inR, ile_eq, ilt_eq]
theorem size_one {t : Nat} (h : Nat.beq (sizeT P t) 1 = true) : ∃ i, P.info? t = some i ∧ i.size = 1 := by
  have e := Nat.eq_of_beq_eq_true h
  unfold sizeT at e
  cases hi : P.info? t with
  | none => simp [hi] at e
  | some i => exact ⟨i, rfl, by simpa [hi] using e⟩
theorem txt_get (l : List (BitVec 8)) (j : Nat) (hj : j < l.length) : (txt l)[j]? = some (UInt8.ofBitVec (l.getD j 0)) := by
  have h1 : j < (txt l).size := by rw [txt_size]; exact hj
  have h2 : (txt l)[j]? = some ((txt l)[j]'h1) := getElem?_pos (txt l) j h1
  rw [h2]
  congr 1
  show (txt l).data[j] = _
  simp [txt, List.getD, hj]
theorem part_one {t off : Nat} {cs : List Value} {v : Value} (hr : isRowT P t = false) (hk : known P t = true) (hv : cs[off]? = some v) : (part t cs.toArray off).run P w = .ok v w := by
  unfold part
  rw [Sem.run_bind, notRow_of hr hk, Result.andThen_ok]
  simp [hv]
theorem part_row {t off : Nat} {i : TypeInfo} {cs : List Value} (hr : isRowT P t = true) (hi : P.info? t = some i) : (part t cs.toArray off).run P w = .ok (.agg ((cs.drop off).take i.size).toArray) w := by
  obtain ⟨d, hd, hd2⟩ := isRow_of hr
  have ha : (isAgg t).run P w = .ok true w := by
    unfold isAgg
    rw [Sem.run_bind, run_underlying hd w, Result.andThen_ok]
    cases d <;> first | rfl | cases hd2
  unfold part
  rw [Sem.run_bind, ha, Result.andThen_ok]
  simp [sizeOf, typeInfo, hi, List.extract_eq_take_drop]
theorem qfieldV_ok {t f : Nat} {x r : SV} (hq : qfieldV P t f x = .ok true r) : (Instr.field t (val β x) f).run P w = .ok (val β r) w := by
  unfold qfieldV at hq
  split at hq
  · rename_i l fs hu
    split at hq
    · rename_i d hd
      cases hr : isRowT P d.type <;> rw [hr] at hq
      · cases hq
      · simp only [cond_true, QR.ok.injEq, Bool.and_eq_true] at hq
        obtain ⟨⟨h0, h1⟩, rfl⟩ := hq
        have h0 := blt_lt h0
        have hi : ∃ i, P.info? d.type = some i ∧ i.size = sizeT P d.type := by
          unfold sizeT at h0 ⊢
          cases hi : P.info? d.type with
          | none => simp [hi] at h0
          | some i => exact ⟨i, rfl, by simp⟩
        obtain ⟨i, hi, hs⟩ := hi
        have hp := part_row (P := P) (w := w) (t := d.type) (off := d.offset) (cs := l.map c64) hr hi
        show (Instr.field t (.agg (l.map c64).toArray) f).run P w = _
        simp only [Instr.field, Sem.run_bind, run_underlying hu w, Result.andThen_ok, hd, asAgg]
        show ((part d.type (l.map c64).toArray d.offset).run P w) = _
        rw [hp, hs]
        simp [val]
    · cases hq
  · cases hq
theorem qindex_ok {t : Nat} {x y r : SV} (hq : qindex P t x y = .ok true r) : (Instr.index t (val β x) (val β y)).run P w = .ok (val β r) w := by
  unfold qindex at hq
  split at hq
  · cases hq
  · rename_i z hz
    obtain ⟨k, hv⟩ := iof_ok β hz
    rw [hv]
    split at hq
    · rename_i l hu
      simp only [QR.ok.injEq] at hq
      obtain ⟨hb, rfl⟩ := hq
      obtain ⟨h0, h1⟩ := inR_iff.1 hb
      have hg := txt_get l z.toNat (by omega)
      show (Instr.index t (.string (txt l)) (.int k z)).run P w = _
      simp [Instr.index, asIntOf, run_underlying hu, h0, hg, val, c8]
    · rename_i n e l hu
      simp only [QR.ok.injEq, Bool.and_eq_true, Bool.not_eq_true'] at hq
      obtain ⟨⟨⟨⟨⟨hs, hr⟩, hk⟩, hl⟩, hb⟩, rfl⟩ := hq
      obtain ⟨h0, h1⟩ := inR_iff.1 hb
      obtain ⟨i, hi, hi1⟩ := size_one hs
      have hl' := Nat.eq_of_beq_eq_true hl
      have := part_one (w := w) (off := z.toNat) (cs := l.map c64) hr hk (by rw [List.getElem?_map, getD_get (0 : BitVec 64) (by omega : z.toNat < l.length)]; rfl)
      show (Instr.index t (.agg (l.map c64).toArray) (.int k z)).run P w = _
      simp [Instr.index, asIntOf, run_underlying hu, h0, h1, sizeOf, typeInfo, hi, hi1, this, val]
    · rename_i n e l hu
      simp only [QR.ok.injEq, Bool.and_eq_true, Bool.not_eq_true'] at hq
      obtain ⟨⟨⟨⟨⟨hs, hr⟩, hk⟩, hl⟩, hb⟩, rfl⟩ := hq
      obtain ⟨h0, h1⟩ := inR_iff.1 hb
      obtain ⟨i, hi, hi1⟩ := size_one hs
      have hl' := Nat.eq_of_beq_eq_true hl
      have := part_one (w := w) (off := z.toNat) (cs := l.map c32) hr hk (by rw [List.getElem?_map, getD_get (0 : BitVec 32) (by omega : z.toNat < l.length)]; rfl)
      show (Instr.index t (.agg (l.map c32).toArray) (.int k z)).run P w = _
      simp [Instr.index, asIntOf, run_underlying hu, h0, h1, sizeOf, typeInfo, hi, hi1, this, val]
    · rename_i n e l hu
      simp only [QR.ok.injEq, Bool.and_eq_true, Bool.not_eq_true'] at hq
      obtain ⟨⟨⟨⟨⟨hs, hr⟩, hk⟩, hl⟩, hb⟩, rfl⟩ := hq
      obtain ⟨h0, h1⟩ := inR_iff.1 hb
      obtain ⟨i, hi, hi1⟩ := size_one hs
      have hl' := Nat.eq_of_beq_eq_true hl
      have := part_one (w := w) (off := z.toNat) (cs := l.map c8) hr hk (by rw [List.getElem?_map, getD_get (0 : BitVec 8) (by omega : z.toNat < l.length)]; rfl)
      show (Instr.index t (.agg (l.map c8).toArray) (.int k z)).run P w = _
      simp [Instr.index, asIntOf, run_underlying hu, h0, h1, sizeOf, typeInfo, hi, hi1, this, val]
    · rename_i n e l hu
      cases hr : isRowT P e <;> rw [hr] at hq
      · simp only [cond_false, QR.ok.injEq, Bool.and_eq_true] at hq
        obtain ⟨⟨⟨⟨hs, hk⟩, hl⟩, hb⟩, rfl⟩ := hq
        obtain ⟨h0, h1⟩ := inR_iff.1 hb
        obtain ⟨i, hi, hi1⟩ := size_one hs
        have hl' := Nat.eq_of_beq_eq_true hl
        have := part_one (w := w) (off := z.toNat) (cs := vals β l) hr hk (by rw [vals_map, List.getElem?_map, getD_get SV.any (by omega : z.toNat < l.length)]; rfl)
        show (Instr.index t (.agg (vals β l).toArray) (.int k z)).run P w = _
        simp [Instr.index, asIntOf, run_underlying hu, h0, h1, sizeOf, typeInfo, hi, hi1, this]
      · simp only [cond_true, QR.ok.injEq, Bool.and_eq_true] at hq
        obtain ⟨⟨⟨hs, hl⟩, hb⟩, rfl⟩ := hq
        obtain ⟨h0, h1⟩ := inR_iff.1 hb
        obtain ⟨i, hi, hi1⟩ := info_of hs
        have hsz : sizeT P e = i.size := by unfold sizeT; rw [hi]; rfl
        have := part_row (w := w) (off := z.toNat * i.size) (cs := vals β l) hr hi
        show (Instr.index t (.agg (vals β l).toArray) (.int k z)).run P w = _
        rw [rowSV_val, hsz]
        have e2 : vals β ((l.drop (z.toNat * i.size)).take i.size) = ((vals β l).drop (z.toNat * i.size)).take i.size := by simp [vals_map]
        rw [e2]
        simp [Instr.index, asIntOf, run_underlying hu, h0, h1, sizeOf, typeInfo, hi, this]
    · cases hq
theorem qixaddr_ok {t : Nat} {x y r : SV} (hq : qixaddr P t x y = .ok true r) : (Instr.indexAt t (val β x) (val β y)).run P w = .ok (val β r) w := by
  unfold qixaddr at hq
  split at hq
  · cases hq
  · rename_i z hz
    obtain ⟨k, hv⟩ := iof_ok β hz
    rw [hv]
    split at hq
    · rename_i n e k2 off hu
      cases hs : Nat.beq (sizeT P e) 1 <;> rw [hs] at hq
      · simp only [cond_false, QR.ok.injEq, Bool.and_eq_true] at hq
        obtain ⟨⟨hse, hb⟩, rfl⟩ := hq
        obtain ⟨h0, h1⟩ := inR_iff.1 hb
        obtain ⟨i, hi⟩ : ∃ ie, P.info? e = some ie := by
          cases h : P.info? e with
          | none => simp [sizeT, h, Nat.blt] at hse
          | some ie => exact ⟨ie, rfl⟩
        have hsz : sizeT P e = i.size := by simp [sizeT, hi]
        show (Instr.indexAt t (.pointer (some ⟨β k2, off, none⟩)) (.int k z)).run P w = _
        simp [Instr.indexAt, asIntOf, run_underlying hu, Instr.sureAddr, h0, h1, sizeOf, typeInfo, hi, hsz, Addr.add_mid, val, Nat.add_comm]
      simp only [cond_true, QR.ok.injEq] at hq
      obtain ⟨hb, rfl⟩ := hq
      obtain ⟨h0, h1⟩ := inR_iff.1 hb
      obtain ⟨i, hi, hi1⟩ := size_one hs
      show (Instr.indexAt t (.pointer (some ⟨β k2, off, none⟩)) (.int k z)).run P w = _
      simp [Instr.indexAt, asIntOf, run_underlying hu, Instr.sureAddr, h0, h1, sizeOf, typeInfo, hi, hi1, Addr.add_mid, val, Nat.add_comm]
    · rename_i e k2 off len cap hu
      simp only [QR.ok.injEq, Bool.and_eq_true] at hq
      obtain ⟨⟨hs, hb⟩, rfl⟩ := hq
      obtain ⟨h0, h1⟩ := inR_iff.1 hb
      obtain ⟨i, hi, hi1⟩ := size_one hs
      show (Instr.indexAt t (.slice (some ⟨β k2, off, none⟩) len cap) (.int k z)).run P w = _
      simp [Instr.indexAt, asIntOf, run_underlying hu, h0, h1, sizeOf, typeInfo, hi, hi1, Addr.add_mid, val, Nat.add_comm]
    · cases hq
theorem bound_ok {d : Nat} {x : Option SV} {z : Int} (h : bound d x = some z) : (x = none ∧ z = (d : Int)) ∨ ∃ (y : SV) (k : IntKind), x = some y ∧ val β y = .int k z := by
  cases x with
  | none => exact .inl ⟨rfl, (Option.some.inj h).symm⟩
  | some y => obtain ⟨k, hk⟩ := iof_ok β h; exact .inr ⟨y, k, rfl, hk⟩
theorem bounds_ok {isS : Bool} {len cap : Nat} {lo hi : Option SV} {a b : Int} (hl : bound 0 lo = some a) (hh : bound len hi = some b) (h0 : 0 ≤ a) (h1 : a ≤ b) (h2 : b ≤ (cap : Int)) : (Instr.sliceBounds isS len cap (lo.map (val β)) (hi.map (val β)) none).run P w = .ok (a.toNat, b.toNat, cap) w := by
  have hb0 : 0 ≤ b := by omega
  rcases bound_ok β hl with ⟨rfl, rfl⟩ | ⟨y, k, rfl, hy⟩
  · rcases bound_ok β hh with ⟨rfl, rfl⟩ | ⟨y2, k2, rfl, hy2⟩
    · simp [Instr.sliceBounds]
    · simp [Instr.sliceBounds, Instr.sliceBound, asIntOf, hy2, hb0, h2]
  · have hz : a.toNat ≤ b.toNat := by omega
    have ha : a ≤ max b 0 := by omega
    rcases bound_ok β hh with ⟨rfl, rfl⟩ | ⟨y2, k2, rfl, hy2⟩
    · simp [Instr.sliceBounds, Instr.sliceBound, asIntOf, hy, h0, h1]
    · simp [Instr.sliceBounds, Instr.sliceBound, asIntOf, hy, hy2, h0, hb0, h2, h1, ha]
theorem txt_extract (l : List (BitVec 8)) (a b : Nat) : (txt l).extract a b = txt ((l.take b).drop a) := by
  apply ByteArray.ext
  simp [txt, ByteArray.data_extract, List.extract_eq_take_drop]
  rw [List.drop_take]
theorem qslice_ok {t : Nat} {x r : SV} {lo hi : Option SV} (hq : qslice P t x lo hi = .ok true r) : (Instr.sliceAt t (val β x) (lo.map (val β)) (hi.map (val β)) none).run P w = .ok (val β r) w := by
  unfold qslice at hq
  split at hq
  · rename_i l hu
    split at hq
    · rename_i a b ha hb
      simp only [QR.ok.injEq, Bool.and_eq_true, ile_eq, ilt_eq, decide_eq_true_eq] at hq
      obtain ⟨⟨⟨h0, h1⟩, h2⟩, rfl⟩ := hq
      have := bounds_ok (P := P) (w := w) β (isS := false) ha hb h0 h1 h2
      show (Instr.sliceAt t (.string (txt l)) _ _ _).run P w = _
      simp [Instr.sliceAt, run_underlying hu, Instr.slice, txt_size, this, txt_extract, val]
    · cases hq
  · rename_i e k off len cap hu
    split at hq
    · rename_i a b ha hb
      split at hq
      · simp only [QR.ok.injEq, Bool.and_eq_true, ile_eq, decide_eq_true_eq] at hq
        obtain ⟨⟨hs, ⟨⟨h0, h1⟩, h2⟩⟩, rfl⟩ := hq
        obtain ⟨i, hi, hi1⟩ := size_one hs
        have := bounds_ok (P := P) (w := w) β (isS := true) ha hb h0 h1 h2
        simp only [Option.map_some, Option.map_none] at this
        show (Instr.sliceAt t (.slice (some ⟨β k, off, none⟩) len cap) _ _ _).run P w = _
        cases hc : ilt a (cap : Int)
        · have hne : cap = a.toNat := by rw [ilt_eq] at hc; have := of_decide_eq_false hc; omega
          have hb' : b.toNat - a.toNat = 0 := by omega
          simp [Instr.sliceAt, run_underlying hu, Instr.slice, this, sizeOf, typeInfo, hi, hi1, ← hne, val]
        · have hne : ¬ cap = a.toNat := by rw [ilt_eq] at hc; have := of_decide_eq_true hc; omega
          simp [Instr.sliceAt, run_underlying hu, Instr.slice, this, sizeOf, typeInfo, hi, hi1, hne, Addr.add_mid, val, Nat.add_comm]
      simp only [QR.ok.injEq, Bool.and_eq_true, ile_eq, ilt_eq, decide_eq_true_eq] at hq
      obtain ⟨⟨hs, ⟨⟨⟨h0, h1⟩, h2⟩, h3⟩⟩, rfl⟩ := hq
      obtain ⟨i, hi, hi1⟩ := size_one hs
      have := bounds_ok (P := P) (w := w) β (isS := true) ha hb h0 h1 h2
      have hne : ¬ cap = a.toNat := by omega
      show (Instr.sliceAt t (.slice (some ⟨β k, off, none⟩) len cap) _ _ _).run P w = _
      simp [Instr.sliceAt, run_underlying hu, Instr.slice, this, sizeOf, typeInfo, hi, hi1, hne, Addr.add_mid, val, Nat.add_comm]
    · cases hq
  · rename_i e hu
    split at hq
    · rename_i a b ha hb
      simp only [QR.ok.injEq, Bool.and_eq_true, ile_eq, ilt_eq, decide_eq_true_eq] at hq
      obtain ⟨⟨hs, ⟨⟨h0, h1⟩, h2⟩⟩, rfl⟩ := hq
      obtain ⟨i, hi, hi1⟩ := size_one hs
      have := bounds_ok (P := P) (w := w) β (isS := true) (cap := 0) ha hb h0 h1 h2
      have ha0 : a.toNat = 0 := by omega
      have hb0 : b.toNat = 0 := by omega
      rw [ha0, hb0] at this
      show (Instr.sliceAt t (.slice none 0 0) _ _ _).run P w = _
      simp [Instr.sliceAt, run_underlying hu, Instr.slice, this, sizeOf, typeInfo, hi, hi1, val]
    · cases hq
  · rename_i e p len cap hu
    split at hq
    · rename_i a b ha hb
      simp only [QR.ok.injEq, Bool.and_eq_true, ile_eq, ilt_eq, decide_eq_true_eq, beq_iff_eq] at hq
      obtain ⟨⟨hs, ⟨⟨rfl, h1⟩, h2⟩⟩, rfl⟩ := hq
      obtain ⟨i, hi, hi1⟩ := size_one hs
      have := bounds_ok (P := P) (w := w) β (isS := true) (cap := cap) ha hb (by omega) h1 h2
      have h0 : (0 : Int).toNat = 0 := rfl
      rw [h0] at this
      show (Instr.sliceAt t (.slice (some p) len cap) _ _ _).run P w = _
      have hadd : p.add 0 = p := by simp [Addr.add]
      simp [Instr.sliceAt, run_underlying hu, Instr.slice, this, sizeOf, typeInfo, hi, hi1, val, hadd]
    · cases hq
  · rename_i n e k off hu
    split at hq
    · rename_i a b ha hb
      simp only [QR.ok.injEq, Bool.and_eq_true, ile_eq, ilt_eq, decide_eq_true_eq] at hq
      obtain ⟨⟨hs, ⟨⟨⟨h0, h1⟩, h2⟩, h3⟩⟩, rfl⟩ := hq
      obtain ⟨i, hi, hi1⟩ := size_one hs
      have := bounds_ok (P := P) (w := w) β (isS := false) ha hb h0 h1 h2
      have hne : ¬ n = a.toNat := by omega
      show (Instr.sliceAt t (.pointer (some ⟨β k, off, none⟩)) _ _ _).run P w = _
      simp [Instr.sliceAt, run_underlying hu, Instr.sureAddr, this, sizeOf, typeInfo, hi, hi1, hne, Addr.add_mid, val, Nat.add_comm]
    · cases hq
  · cases hq
theorem qslice3_ok {t : Nat} {x r lo hi mx : SV} (hq : qslice3 P t x lo hi mx = .ok true r) : (Instr.sliceAt t (val β x) (some (val β lo)) (some (val β hi)) (some (val β mx))).run P w = .ok (val β r) w := by
  unfold qslice3 at hq
  split at hq
  · rename_i e k off len cap a b m hu ha hb hm
    simp only [QR.ok.injEq, Bool.and_eq_true, ile_eq, ilt_eq, decide_eq_true_eq] at hq
    obtain ⟨⟨hs, ⟨⟨⟨h0, h1⟩, h2⟩, h3⟩⟩, rfl⟩ := hq
    obtain ⟨i, hi1, hi2⟩ := size_one hs
    obtain ⟨k1, e1⟩ := iof_ok β ha
    obtain ⟨k2, e2⟩ := iof_ok β hb
    obtain ⟨k3, e3⟩ := iof_ok β hm
    have hb0 : 0 ≤ b := by omega
    have hm0 : 0 ≤ m := by omega
    have hbm : b ≤ max m 0 := by omega
    have hab : a ≤ max b 0 := by omega
    rw [e1, e2, e3]
    show (Instr.sliceAt t (.slice (some ⟨β k, off, none⟩) len cap) _ _ _).run P w = _
    by_cases hc : a < m
    · have hne : ¬ m.toNat = a.toNat := by omega
      simp [Instr.sliceAt, run_underlying hu, Instr.slice, Instr.sliceBounds, Instr.sliceBound, asIntOf, sizeOf, typeInfo, hi1, hi2, h0, hb0, hm0, h3, hbm, hab, hne, hc, Addr.add_mid, val, Nat.add_comm]
    · obtain rfl : a = b := by omega
      obtain rfl : a = m := by omega
      simp [Instr.sliceAt, run_underlying hu, Instr.slice, Instr.sliceBounds, Instr.sliceBound, asIntOf, sizeOf, typeInfo, hi1, hi2, h0, h3, hab, val]
  · cases hq
theorem qslice3n_ok {t : Nat} {x r hi mx : SV} (hq : qslice3n P t x hi mx = .ok true r) : (Instr.sliceAt t (val β x) none (some (val β hi)) (some (val β mx))).run P w = .ok (val β r) w := by
  unfold qslice3n at hq
  split at hq
  · rename_i e k off len cap b m hu hb hm
    simp only [QR.ok.injEq, Bool.and_eq_true, ile_eq, ilt_eq, decide_eq_true_eq] at hq
    obtain ⟨⟨hs, ⟨⟨h1, h2⟩, h3⟩⟩, rfl⟩ := hq
    obtain ⟨i, hi1, hi2⟩ := size_one hs
    obtain ⟨k2, e2⟩ := iof_ok β hb
    obtain ⟨k3, e3⟩ := iof_ok β hm
    have hm0 : 0 ≤ m := by omega
    have hbm : b ≤ max m 0 := by omega
    have hab : (0 : Int) ≤ max b 0 := by omega
    rw [e2, e3]
    show (Instr.sliceAt t (.slice (some ⟨β k, off, none⟩) len cap) _ _ _).run P w = _
    by_cases hc : 0 < m
    · have hne : ¬ m.toNat = 0 := by omega
      simp [Instr.sliceAt, run_underlying hu, Instr.slice, Instr.sliceBounds, Instr.sliceBound, asIntOf, sizeOf, typeInfo, hi1, hi2, h1, hm0, h3, hbm, hab, hne, hc, Addr.add, val, Nat.add_comm]
    · obtain rfl : m = 0 := by omega
      obtain rfl : b = 0 := by omega
      simp [Instr.sliceAt, run_underlying hu, Instr.slice, Instr.sliceBounds, Instr.sliceBound, asIntOf, sizeOf, typeInfo, hi1, hi2, h3, val]
  · rename_i e b m hu hb hm
    simp only [QR.ok.injEq, Bool.and_eq_true, ile_eq, ilt_eq, decide_eq_true_eq] at hq
    obtain ⟨⟨hs, ⟨⟨h1, h2⟩, h3⟩⟩, rfl⟩ := hq
    obtain ⟨i, hi1, hi2⟩ := size_one hs
    obtain ⟨k2, e2⟩ := iof_ok β hb
    obtain ⟨k3, e3⟩ := iof_ok β hm
    obtain rfl : m = 0 := by omega
    obtain rfl : b = 0 := by omega
    rw [e2, e3]
    simp [Instr.sliceAt, run_underlying hu, Instr.slice, Instr.sliceBounds, Instr.sliceBound, asIntOf, sizeOf, typeInfo, hi1, hi2, val]
  · cases hq
theorem qlen_ok {t t2 : Nat} {x r : SV} (hq : qlen P t x = .ok true r) : (Builtin.len_ #[t] t2 #[val β x]).run P w = .ok (val β r) w := by
  unfold qlen at hq
  split at hq <;> simp only [QR.ok.injEq, true_and, reduceCtorEq] at hq <;> subst hq <;> rename_i hu
  · simp [Builtin.len_, run_underlying hu, val, txt_size, goInt]
  · simp [Builtin.len_, run_underlying hu, val, goInt]
  · simp [Builtin.len_, run_underlying hu, val, goInt]
  · simp [Builtin.len_, run_underlying hu, val, goInt]
theorem qcap_ok {t t2 : Nat} {x r : SV} (hq : qcap P t x = .ok true r) : (Builtin.cap_ #[t] t2 #[val β x]).run P w = .ok (val β r) w := by
  unfold qcap at hq
  split at hq <;> simp only [QR.ok.injEq, true_and, reduceCtorEq] at hq <;> subst hq <;> rename_i hu
  · simp [Builtin.cap_, run_underlying hu, val, goInt]
  · simp [Builtin.cap_, run_underlying hu, val, goInt]
theorem qfield_ok {t f : Nat} {x r : SV} (hq : qfield P t f x = .ok true r) : (Instr.fieldAt t (val β x) f).run P w = .ok (val β r) w := by
  unfold qfield at hq
  split at hq
  · rename_i k off fs hu
    split at hq
    · rename_i d hd
      simp only [QR.ok.injEq] at hq
      obtain ⟨hb, rfl⟩ := hq
      have hb := blt_lt hb
      unfold sizeT at hb
      cases hi : P.info? d.type with
      | none => rw [hi] at hb; simp at hb
      | some i =>
        rw [hi] at hb
        have hne : ¬ i.size = 0 := by simp at hb; omega
        show (Instr.fieldAt t (.pointer (some ⟨β k, off, none⟩)) f).run P w = _
        simp [Instr.fieldAt, run_underlying hu, hd, Instr.sureAddr, fieldPlace, sizeOf, typeInfo, hi, hne, Addr.add_mid, val]
    · cases hq
  · cases hq
/-- Rows that are filled in order, cell by cell. -/
theorem set_split (l : List Value) (n : Nat) (v : Value) (k : Nat) (hn : n < l.length) : (l.set n v).take (n + 1) = l.take n ++ [v] ∧ (l.set n v).drop (n + 1 + k) = l.drop (n + (k + 1)) := by
  have hl : (l.take n).length = n := by simp; omega
  refine ⟨?_, ?_⟩
  · rw [List.set_eq_take_append_cons_drop, if_pos hn, List.take_append, hl]
    simp
    exact List.take_of_length_le (by omega)
  · rw [List.drop_set_of_lt (by omega)]; congr 1; omega
theorem fill_ok (pl : Nat → Option (Nat × Nat)) (hpl : ∀ i, pl i = some (i, 1)) : ∀ (vs : List Value) (n : Nat) (cs : Array Value), (∀ v ∈ vs, v.cells = #[v]) → n + vs.length ≤ cs.size →
    Instr.fill pl cs ((List.range' n vs.length).zip vs) = some (cs.toList.take n ++ vs ++ cs.toList.drop (n + vs.length)).toArray
  | [], n, cs, _, _ => by simp [Instr.fill]
  | v :: vs, n, cs, h1, hl => by
    simp only [List.length_cons] at hl
    have hv := h1 v (by simp)
    have hn : n < cs.size := by omega
    have ih := fill_ok pl hpl vs (n + 1) (cs.setIfInBounds n v) (fun u hu => h1 u (by simp [hu])) (by simp; omega)
    obtain ⟨e1, e2⟩ := set_split cs.toList n v vs.length (by simpa using hn)
    rw [Array.toList_setIfInBounds, e1, e2] at ih
    simp only [List.length_cons, List.range'_succ, List.zip_cons_cons, Instr.fill, hv, hpl]
    have h2 : ¬ (n + 1 > cs.size) := by omega
    simp [h2]
    simp at ih
    exact ih
theorem asI_ok : ∀ {xs : List SV} {l : List Int}, asI xs = some l → vals β xs = l.map (.int .i64 ·)
  | [], l, h => by simp [asI] at h; subst h; rfl
  | .i x :: xs, l, h => by
    cases hx : asI xs with
    | none => simp [asI, hx] at h
    | some m => simp [asI, hx] at h; subst h; simp [vals, val, asI_ok hx]
theorem asS_ok : ∀ {xs : List SV} {l : List (List (BitVec 8))}, asS xs = some l → vals β xs = l.map fun x => .string (txt x)
  | [], l, h => by simp [asS] at h; subst h; rfl
  | .s x :: xs, l, h => by
    cases hx : asS xs with
    | none => simp [asS, hx] at h
    | some m => simp [asS, hx] at h; subst h; simp [vals, val, asS_ok hx]
theorem inOrder_zip (ρ : Operand → Value) : ∀ (ps : List (Nat × Operand)) (n : Nat), inOrder n ps = true → ps.map (fun x => (x.1, ρ x.2)) = (List.range' n ps.length).zip (ps.map fun x => ρ x.2)
  | [], n, _ => rfl
  | (i, x) :: ps, n, h => by
    simp only [inOrder, Bool.and_eq_true] at h
    obtain rfl := Nat.eq_of_beq_eq_true h.1
    simp [List.range'_succ, inOrder_zip ρ ps (i + 1) h.2]
theorem one_cells {v : Value} (h : v.oneCell' = true) : v.cells = #[v] := by cases v <;> first | rfl | cases h
/-- A slice that is built of cells in order. -/
theorem buildSlice_ok {t len e : Nat} {i : TypeInfo} {z : Value} (ρ : Operand → Value) (parts : Array (Nat × Operand)) (vs : List Value) (hu : P.underlying t = some (.slice e)) (hi : P.info? e = some i) (h1 : i.size = 1) (hz : i.zero = some z) (hzc : z.cells.size = 1)
    (ho : inOrder 0 parts.toList = true) (hp : parts.toList.map (fun x => ρ x.2) = vs) (hl : vs.length = len) (hb : len ≤ 1000) (hone : ∀ v ∈ vs, v.oneCell' = true) :
    (Instr.buildSlice t len (parts.map fun x => (x.1, ρ x.2))).run P w = .ok (.slice (some ⟨w.heap.size, 0, none⟩) len len) (w.alloc (.cells vs.toArray e)) := by
  rcases Nat.eq_zero_or_pos len with hl0 | h0
  · subst hl0
    have hv0 : vs = [] := List.length_eq_zero_iff.1 hl
    subst hv0
    have hpl : parts = #[] := by
      have : parts.toList = [] := by simpa using hp
      exact Array.toList_eq_nil_iff.1 this
    subst hpl
    simp [Instr.buildSlice, run_underlying hu, sizeOf, typeInfo, hi, h1, newRow, Instr.fill]
    have e : (Array.map (fun x => (default : Value)) (Array.range 0)) = #[] := by apply Array.eq_empty_of_size_eq_zero; simp
    rw [e]
  have hz2 := inOrder_zip ρ parts.toList 0 ho
  have hpl : parts.toList.length = vs.length := by rw [← hp]; simp
  have hf := fill_ok (fun i => some (i * 1, 1)) (fun i => by simp) vs 0 ((Array.range (len * 1)).map (z.cells[· % z.cells.size]!)) (fun v hv => one_cells (hone v hv)) (by simp; omega)
  have e1 : (List.map (fun x => (x.fst, ρ x.snd)) parts.toList) = (List.range' 0 vs.length).zip vs := by rw [hz2, hp, hpl]
  have hd : ((Array.range (len * 1)).map (z.cells[· % z.cells.size]!)).toList.drop (0 + vs.length) = [] := List.drop_eq_nil_of_le (by simp; omega)
  rw [hd, List.take_zero, List.nil_append, List.append_nil] at hf
  have hn : ¬ (len * 1 > 2 ^ 24) := by omega
  have hn0 : ¬ (len * 1 = 0) := by omega
  simp [Instr.buildSlice, run_underlying hu, sizeOf, typeInfo, hi, h1, zeroValue, hz, newRow, e1] at *
  have h3 : ¬ (16777216 < len) := by omega
  have h4 : ¬ (len = 0) := by omega
  simp [h3, h4, hf]
theorem zeroCells_ok {t n : Nat} (h : zeroCells P t n = true) : ∃ i z, P.info? t = some i ∧ i.zero = some z ∧ z.cells.size = n := by
  unfold zeroCells at h
  split at h
  · split at h
    · exact ⟨_, _, ‹_›, ‹_›, Nat.eq_of_beq_eq_true h⟩
    · cases h
  · cases h
theorem qbuildSlice_ok {t len n : Nat} {xs : List SV} {r : SV} {c : Cont} (ρ : Operand → Value) (parts : Array (Nat × Operand)) (hp : parts.toList.map (fun x => ρ x.2) = vals β xs) (hq : qbuildSlice P t len n parts.toList xs = .new true r c) :
    ∃ (cs : Array Value) (e : Nat), (Instr.buildSlice t len (parts.map fun x => (x.1, ρ x.2))).run P w = .ok (.slice (some ⟨w.heap.size, 0, none⟩) len len) (w.alloc (.cells cs e)) ∧ cs.toList = c.cells β ∧ r = .sl n 0 len len := by
  unfold qbuildSlice at hq
  split at hq
  · rename_i e hu
    generalize hb : (Nat.beq (sizeT P e) 1 && zeroCells P e 1 && inOrder 0 parts.toList && Nat.beq xs.length len && Nat.ble len 1000) = bb at hq
    cases bb
    · cases hq
    · simp only [Bool.and_eq_true] at hb
      obtain ⟨⟨⟨⟨hs, hz⟩, ho⟩, hl⟩, h2⟩ := hb
      obtain ⟨i, z, hi, hzz, hzc⟩ := zeroCells_ok hz
      obtain ⟨i', hi', hi1⟩ := size_one hs
      obtain rfl : i = i' := Option.some.inj (hi.symm.trans hi')
      have hl' := Nat.eq_of_beq_eq_true hl
      have key : ∀ (vs : List Value), vals β xs = vs → (∀ v ∈ vs, v.oneCell' = true) → (Instr.buildSlice t len (parts.map fun x => (x.1, ρ x.2))).run P w = .ok (.slice (some ⟨w.heap.size, 0, none⟩) len len) (w.alloc (.cells vs.toArray e)) := fun vs hv hone =>
        buildSlice_ok ρ parts vs hu hi hi1 hzz hzc ho (hp.trans hv) (by rw [← hv, vals_map, List.length_map]; exact hl') (Nat.le_of_ble_eq_true h2) hone
      simp only [cond_true] at hq
      split at hq
      · split at hq
        · rename_i l hx; simp only [QR.new.injEq, true_and] at hq; obtain ⟨rfl, rfl⟩ := hq
          exact ⟨_, _, key _ (as64_ok β hx) (fun v hv => by obtain ⟨a, -, rfl⟩ := List.mem_map.1 hv; rfl), rfl, rfl⟩
        · cases hq
      · split at hq
        · rename_i l hx; simp only [QR.new.injEq, true_and] at hq; obtain ⟨rfl, rfl⟩ := hq
          exact ⟨_, _, key _ (as32_ok β hx) (fun v hv => by obtain ⟨a, -, rfl⟩ := List.mem_map.1 hv; rfl), rfl, rfl⟩
        · cases hq
      · split at hq
        · rename_i l hx; simp only [QR.new.injEq, true_and] at hq; obtain ⟨rfl, rfl⟩ := hq
          exact ⟨_, _, key _ (as8_ok β hx) (fun v hv => by obtain ⟨a, -, rfl⟩ := List.mem_map.1 hv; rfl), rfl, rfl⟩
        · cases hq
      · split at hq
        · rename_i l hx; simp only [QR.new.injEq, true_and] at hq; obtain ⟨rfl, rfl⟩ := hq
          exact ⟨_, _, key _ (asI_ok β hx) (fun v hv => by obtain ⟨a, -, rfl⟩ := List.mem_map.1 hv; rfl), rfl, rfl⟩
        · cases hq
      · split at hq
        · rename_i l hx; simp only [QR.new.injEq, true_and] at hq; obtain ⟨rfl, rfl⟩ := hq
          exact ⟨_, _, key _ (asS_ok β hx) (fun v hv => by obtain ⟨a, -, rfl⟩ := List.mem_map.1 hv; rfl), rfl, rfl⟩
        · cases hq
      · cases hq
  · cases hq
theorem qbuildSlice_no {t len n : Nat} {xs : List SV} {r : SV} {ps : List (Nat × Operand)} {b : Bool} : qbuildSlice P t len n ps xs ≠ .ok b r := by
  unfold qbuildSlice
  split
  · cases (Nat.beq (sizeT P _) 1 && zeroCells P _ 1 && inOrder 0 ps && Nat.beq xs.length len && Nat.ble len 1000)
    · exact fun h => nomatch h
    · simp only [cond_true]
      repeat' split
      all_goals exact fun h => nomatch h
  · exact fun h => nomatch h
theorem put_cells (off : Nat) : ∀ (l : List Value) (k : Nat) (cs : Array Value), off + k + l.length ≤ cs.size → ((l.zipIdx k).foldl (fun cs (x : Value × Nat) => cs.setIfInBounds (off + x.2) x.1) cs).toList = cs.toList.take (off + k) ++ l ++ cs.toList.drop (off + k + l.length)
  | [], k, cs, _ => by simp
  | v :: l, k, cs, h => by
    simp only [List.length_cons] at h
    rw [List.zipIdx_cons, List.foldl_cons, put_cells off l (k + 1) _ (by simp; omega), Array.toList_setIfInBounds]
    obtain ⟨e1, e2⟩ := set_split cs.toList (off + k) v l.length (by simp; omega)
    rw [show off + (k + 1) = off + k + 1 by omega, e1, e2]
    simp
theorem places_some (P : Program) : ∀ (l : List Field), (l.all fun f => sized P f.type) = true → l.mapM (fun f => (P.info? f.type).map fun i => (f.offset, i.size)) = some (l.map fun f => (f.offset, sizeT P f.type))
  | [], _ => by simp
  | f :: l, h => by
    simp only [List.all_cons, Bool.and_eq_true] at h
    have h2 := places_some P l h.2
    have h1 := h.1
    unfold sized at h1
    cases hi : P.info? f.type with
    | none => rw [hi] at h1; cases h1
    | some i => simp [h2, hi, sizeT]
theorem ns_one (β : Nat → Nat) (b : Bool) (k sz len cap : Nat) : (val β (.ns b k sz len cap)).oneCell' = true := by cases b <;> rfl
theorem part_ok {x : SV} {l : List SV} (h : partCells x = some l) : (val β x).cells.toList = vals β l := by
  unfold partCells at h
  split at h
  · obtain rfl := Option.some.inj h; simp [val, Value.cells, vals_map, Function.comp_def]
  · obtain rfl := Option.some.inj h; simp [val, Value.cells, vals_map, Function.comp_def]
  · obtain rfl := Option.some.inj h; simp [val, Value.cells, vals_map, Function.comp_def]
  · obtain rfl := Option.some.inj h; simp [val, Value.cells]
  · rename_i x' _ _ _ _
    cases hb : (oneCell x || nilV x)
    · rw [hb] at h; cases h
    · rw [hb] at h
      obtain rfl := Option.some.inj h
      have : (val β x).oneCell' = true := by
        simp only [Bool.or_eq_true] at hb
        rcases hb with h | h
        · cases x <;> first | rfl | exact ns_one β _ _ _ _ _ | cases h
        · unfold nilV at h
          split at h <;> first | rfl | cases h
      rw [one_cells this]; rfl
theorem placeF_ok (fs : Array Field) (ρ : Operand → Value) (pl : Nat → Option (Nat × Nat)) (hpl : ∀ (i : Nat) (f : Field), fs[i]? = some f → pl i = some (f.offset, sizeT P f.type)) : ∀ (ps : List (Nat × Operand)) (xs z l : List SV) (cs : Array Value), placeF P fs ps xs z = some l → ps.map (fun x => ρ x.2) = vals β xs → cs.toList = vals β z → ∃ ds : Array Value, Instr.fill pl cs (ps.map fun x => (x.1, ρ x.2)) = some ds ∧ ds.toList = vals β l
  | [], [], z, l, cs, h, _, hc => by
    simp only [placeF, Option.some.injEq] at h
    subst h
    exact ⟨cs, by simp [Instr.fill], hc⟩
  | [], x :: xs, z, l, cs, h, _, hc => by cases h
  | (i, o) :: ps, [], z, l, cs, h, _, hc => by cases h
  | (i, o) :: ps, x :: xs, z, l, cs, h, hp, hc => by
    unfold placeF at h
    split at h
    · rename_i f m hf hm
      generalize hb : (Nat.beq m.length (sizeT P f.type) && Nat.blt 0 m.length && Nat.ble (f.offset + m.length) z.length) = bb at h
      cases bb
      · cases h
      · simp only [Bool.and_eq_true] at hb
        obtain ⟨⟨h1, h0⟩, h2⟩ := hb
        have h1 := Nat.eq_of_beq_eq_true h1
        have h2 := Nat.le_of_ble_eq_true h2
        simp only [cond_true] at h
        simp only [List.map_cons, vals, List.cons.injEq] at hp
        have hx := part_ok β hm
        rw [← hp.1] at hx
        have hsz : (ρ o).cells.size = m.length := by rw [← Array.length_toList, hx, vals_map, List.length_map]
        have hcs : cs.size = z.length := by rw [← Array.length_toList, hc, vals_map, List.length_map]
        have hput := put_cells f.offset (ρ o).cells.toList 0 cs (by rw [Nat.add_zero, Array.length_toList]; omega)
        obtain ⟨ds, hd1, hd2⟩ := placeF_ok fs ρ pl hpl ps xs _ l (((ρ o).cells.zipIdx).foldl (fun cs (x : Value × Nat) => cs.setIfInBounds (f.offset + x.2) x.1) cs) h hp.2 (by
          rw [← Array.foldl_toList, Array.toList_zipIdx, hput, hx, hc]
          simp [vals_map])
        refine ⟨ds, ?_, hd2⟩
        simp only [List.map_cons, Instr.fill, hpl i f hf]
        have hn : ¬ (f.offset + m.length > cs.size) := by omega
        simp only [hsz, h1]
        rw [h1] at hn
        simp only [Array.size_zipIdx] at hd1
        simp [hn]
        rw [← hsz] at *
        exact hd1
    · cases h
theorem cat64_le {P : Program} {fs : Array Field} {n : Nat} : ∀ (ps : List (Nat × Operand)) (xs : List SV) (acc : Nat) (b : Bool) (l : List (BitVec 64)), cat64 P fs n acc ps xs = some (b, l) → acc ≤ n
  | [], [], acc, b, l, h => by
    unfold cat64 at h
    cases hb : Nat.beq acc n
    · rw [hb] at h; cases h
    · exact Nat.le_of_eq (Nat.eq_of_beq_eq_true hb)
  | [], x :: xs, acc, b, l, h => by simp [cat64] at h
  | (i, o) :: ps, [], acc, b, l, h => by simp [cat64] at h
  | (i, o) :: ps, x :: xs, acc, b, l, h => by
    cases x with
    | a64 m =>
      simp only [cat64] at h
      split at h
      · rename_i f hf
        generalize (Nat.beq f.offset acc && Nat.blt 0 (sizeT P f.type)) = bb at h
        cases bb
        · cases h
        · simp only [cond_true] at h
          split at h
          · rename_i b' r hr
            exact Nat.le_trans (Nat.le_add_right _ _) (cat64_le _ _ _ _ _ hr)
          · cases h
      · cases h
    | _ => simp [cat64] at h
theorem cat64_ok (fs : Array Field) (n : Nat) (ρ : Operand → Value) (pl : Nat → Option (Nat × Nat)) (hpl : ∀ (i : Nat) (f : Field), fs[i]? = some f → pl i = some (f.offset, sizeT P f.type)) : ∀ (ps : List (Nat × Operand)) (xs : List SV) (acc : Nat) (l : List (BitVec 64)) (cs : Array Value), cat64 P fs n acc ps xs = some (true, l) → ps.map (fun x => ρ x.2) = vals β xs → cs.size = n → ∃ ds : Array Value, Instr.fill pl cs (ps.map fun x => (x.1, ρ x.2)) = some ds ∧ ds.toList = cs.toList.take acc ++ l.map c64
  | [], [], acc, l, cs, h, _, hc => by
    unfold cat64 at h
    cases hb : Nat.beq acc n
    · rw [hb] at h; cases h
    · rw [hb] at h
      simp only [cond_true, Option.some.injEq, Prod.mk.injEq, true_and] at h
      subst h
      have e := Nat.eq_of_beq_eq_true hb
      exact ⟨cs, by simp [Instr.fill], by rw [List.take_of_length_le (by simp; omega)]; simp⟩
  | [], x :: xs, acc, l, cs, h, _, hc => by simp [cat64] at h
  | (i, o) :: ps, [], acc, l, cs, h, _, hc => by simp [cat64] at h
  | (i, o) :: ps, x :: xs, acc, l, cs, h, hp, hc => by
    cases x with
    | a64 m =>
      simp only [cat64] at h
      split at h
      · rename_i f hf
        generalize hb : (Nat.beq f.offset acc && Nat.blt 0 (sizeT P f.type)) = bb at h
        cases bb
        · cases h
        · simp only [Bool.and_eq_true] at hb
          have h0 := Nat.eq_of_beq_eq_true hb.1
          simp only [cond_true] at h
          split at h
          · rename_i b' r hr
            simp only [Option.some.injEq, Prod.mk.injEq, Bool.and_eq_true] at h
            obtain ⟨⟨h1, rfl⟩, rfl⟩ := h
            have h1 := Nat.eq_of_beq_eq_true h1
            have hle := cat64_le _ _ _ _ _ hr
            simp only [List.map_cons, vals, List.cons.injEq] at hp
            have hx : (ρ o).cells.toList = m.map c64 := by rw [hp.1]; simp [val, Value.cells]
            have hsz : (ρ o).cells.size = m.length := by rw [← Array.length_toList, hx, List.length_map]
            have hput := put_cells f.offset (ρ o).cells.toList 0 cs (by rw [Nat.add_zero, Array.length_toList]; omega)
            have hcs' : (((ρ o).cells.zipIdx).foldl (fun cs (x : Value × Nat) => cs.setIfInBounds (f.offset + x.2) x.1) cs).toList = cs.toList.take acc ++ m.map c64 ++ cs.toList.drop (acc + m.length) := by
              rw [← Array.foldl_toList, Array.toList_zipIdx, hput, hx]
              simp [h0]
            obtain ⟨ds, hd1, hd2⟩ := cat64_ok fs n ρ pl hpl ps xs (acc + sizeT P f.type) r (((ρ o).cells.zipIdx).foldl (fun cs (x : Value × Nat) => cs.setIfInBounds (f.offset + x.2) x.1) cs) hr hp.2 (by
              rw [← Array.length_toList, hcs']
              simp
              omega)
            refine ⟨ds, ?_, ?_⟩
            · simp only [List.map_cons, Instr.fill, hpl i f hf]
              have hn : ¬ (f.offset + m.length > cs.size) := by omega
              simp only [hsz, h1]
              rw [h1] at hn
              simp only [Array.size_zipIdx] at hd1
              simp [hn]
              rw [← hsz] at *
              exact hd1
            · rw [hd2, hcs', List.take_append_of_le_length (by simp; omega), List.take_of_length_le (by simp; omega)]
              simp
          · cases h
      · cases h
    | _ => simp [cat64] at h
theorem row64_val (l : List SV) : val β (row64 l) = .agg (vals β l).toArray := by
  unfold row64
  split
  · rename_i x m h
    rw [as64_ok β h]
    rfl
  · rfl
theorem qbuild_ok {t : Nat} {xs : List SV} {r : SV} (ρ : Operand → Value) (parts : Array (Nat × Operand)) (hp : parts.toList.map (fun x => ρ x.2) = vals β xs) (hq : qbuild P t parts.toList xs = .ok true r) :
    (Instr.build t (parts.map fun x => (x.1, ρ x.2))).run P w = .ok (val β r) w := by
  unfold qbuild at hq
  split at hq
  · rename_i n e hu
    generalize hb : (Nat.beq (sizeT P e) 1 && zeroCells P t n && inOrder 0 parts.toList && Nat.beq xs.length n) = bb at hq
    cases bb
    · clear hb
      simp only [cond_false] at hq
      generalize hb : (Nat.beq (sizeT P e) 1 && zeroCells P t n && inOrder 0 parts.toList && Nat.ble xs.length n) = bb at hq
      cases bb
      · clear hb
        simp only [cond_false] at hq
        split at hq
        · rename_i z hz
          cases hse : Nat.blt 0 (sizeT P e)
          · rw [hse] at hq; cases hq
          · rw [hse, cond_true] at hq
            split at hq
            · rename_i b l hl
              simp only [QR.ok.injEq] at hq
              obtain ⟨rfl, rfl⟩ := hq
              unfold zeroRow at hz
              split at hz
              · rename_i i hi
                split at hz
                · rename_i cs hzz
                  have hcz := (zsvs_ok β hz).1
                  obtain ⟨ie, hie⟩ : ∃ ie, P.info? e = some ie := by
                    cases h : P.info? e with
                    | none => simp [sizeT, h, Nat.blt] at hse
                    | some ie => exact ⟨ie, rfl⟩
                  have hsz : sizeT P e = ie.size := by simp [sizeT, hie]
                  obtain ⟨ds, hd1, hd2⟩ := cat64_ok β (arrF e (sizeT P e) n) z.length ρ (fun i => some (i * ie.size, ie.size)) (fun i f hf => by
                    simp only [arrF, List.getElem?_toArray, List.getElem?_map] at hf
                    rw [Option.map_eq_some_iff] at hf
                    obtain ⟨j, hj, rfl⟩ := hf
                    obtain ⟨hj1, hj2⟩ := List.getElem?_eq_some_iff.1 hj
                    rw [List.getElem_range] at hj2
                    subst hj2
                    simp [hsz]) parts.toList xs 0 l cs hl hp (by rw [← Array.length_toList, ← hcz, vals_map, List.length_map])
                  have hbt : P.built t (parts.map fun x => (x.1, ρ x.2)).toList = some ds := by
                    unfold Program.built
                    simp only [hi, hu, hzz, hie, Array.toList_map]
                    exact hd1
                  rw [run_build w t _ ds hbt]
                  show _ = Result.ok (Value.agg (l.map c64).toArray) w
                  rw [List.take_zero, List.nil_append] at hd2
                  rw [← hd2]
                · cases hz
              · cases hz
            split at hq
            · rename_i l hl
              split at hq
              · rename_i m hm
                simp only [QR.ok.injEq, true_and] at hq
                subst hq
                unfold zeroRow at hz
                split at hz
                · rename_i i hi
                  split at hz
                  · rename_i cs hzz
                    obtain ⟨ie, hie⟩ : ∃ ie, P.info? e = some ie := by
                      cases h : P.info? e with
                      | none => simp [sizeT, h, Nat.blt] at hse
                      | some ie => exact ⟨ie, rfl⟩
                    have hsz : sizeT P e = ie.size := by simp [sizeT, hie]
                    obtain ⟨ds, hd1, hd2⟩ := placeF_ok β (arrF e (sizeT P e) n) ρ (fun i => some (i * ie.size, ie.size)) (fun i f hf => by
                      simp only [arrF, List.getElem?_toArray, List.getElem?_map] at hf
                      rw [Option.map_eq_some_iff] at hf
                      obtain ⟨j, hj, rfl⟩ := hf
                      obtain ⟨hj1, hj2⟩ := List.getElem?_eq_some_iff.1 hj
                      rw [List.getElem_range] at hj2
                      subst hj2
                      simp [hsz]) parts.toList xs z l cs hl hp (zsvs_ok β hz).1.symm
                    have hbt : P.built t (parts.map fun x => (x.1, ρ x.2)).toList = some ds := by
                      unfold Program.built
                      simp only [hi, hu, hzz, hie, Array.toList_map]
                      exact hd1
                    rw [run_build w t _ ds hbt]
                    show _ = Result.ok (Value.agg (m.map c8).toArray) w
                    rw [← as8_ok β hm, ← hd2]
                  · cases hz
                · cases hz
              · cases hq
            · cases hq
        · cases hq
      · simp only [Bool.and_eq_true] at hb
        obtain ⟨⟨⟨hs, hz⟩, ho⟩, hl⟩ := hb
        obtain ⟨i, z, hi, hzz, hzc⟩ := zeroCells_ok hz
        obtain ⟨i', hi', hi1⟩ := size_one hs
        have hl' := Nat.le_of_ble_eq_true hl
        simp only [cond_true] at hq
        split at hq
        · rename_i l zs hx hzs
          simp only [QR.ok.injEq, true_and] at hq; subst hq
          have hv : vals β xs = l.map c64 := as64_ok β hx
          have hvl : (l.map c64).length = xs.length := by rw [← hv, vals_map, List.length_map]
          have hcz : z.cells.toList = zs.map c64 := by
            unfold zc at hzs
            rw [hi, Option.bind_some, hzz, Option.bind_some] at hzs
            exact (zcv_ok β hzs).1
          have hf := fill_ok (fun i => some (i * 1, 1)) (fun i => by simp) (l.map c64) 0 z.cells (fun v hv => one_cells (by obtain ⟨a, -, rfl⟩ := List.mem_map.1 hv; rfl)) (by omega)
          have hz2 := inOrder_zip ρ parts.toList 0 ho
          have hpl : parts.toList.length = (l.map c64).length := by rw [← hv, ← hp]; simp
          have e1 : (List.map (fun x => (x.fst, ρ x.snd)) parts.toList) = (List.range' 0 (l.map c64).length).zip (l.map c64) := by rw [hz2, hp, hv, hpl]
          have hfin : ((l.map c64) ++ z.cells.toList.drop (0 + (l.map c64).length)).toArray = ((l ++ zs.drop l.length).map c64).toArray := by
            rw [hcz]; simp
          rw [List.take_zero, List.nil_append, hfin] at hf
          show (Instr.build t (parts.map fun x => (x.1, ρ x.2))).run P w = .ok (.agg ((l ++ zs.drop l.length).map c64).toArray) w
          generalize ((l ++ zs.drop l.length).map c64).toArray = res at hf ⊢
          simp [Instr.build, zeroValue, typeInfo, hi, hzz, run_underlying hu, sizeOf, hi', hi1, e1] at hf ⊢
          simp [hf]
        · cases hq
    · simp only [Bool.and_eq_true] at hb
      obtain ⟨⟨⟨hs, hz⟩, ho⟩, hl⟩ := hb
      obtain ⟨i, z, hi, hzz, hzc⟩ := zeroCells_ok hz
      obtain ⟨i', hi', hi1⟩ := size_one hs
      have hl' := Nat.eq_of_beq_eq_true hl
      have key : ∀ (vs : List Value), vals β xs = vs → (∀ v ∈ vs, v.oneCell' = true) → (Instr.build t (parts.map fun x => (x.1, ρ x.2))).run P w = .ok (.agg vs.toArray) w := fun vs hv hone => by
        have hvl : vs.length = n := by rw [← hv, vals_map, List.length_map]; exact hl'
        have hf := fill_ok (fun i => some (i * 1, 1)) (fun i => by simp) vs 0 z.cells (fun v hv => one_cells (hone v hv)) (by omega)
        have hz2 := inOrder_zip ρ parts.toList 0 ho
        have hpl : parts.toList.length = vs.length := by rw [← hv, ← hp]; simp
        have e1 : (List.map (fun x => (x.fst, ρ x.snd)) parts.toList) = (List.range' 0 vs.length).zip vs := by rw [hz2, hp, hv, hpl]
        have hd : z.cells.toList.drop (0 + vs.length) = [] := List.drop_eq_nil_of_le (by simp; omega)
        rw [hd, List.take_zero, List.nil_append, List.append_nil] at hf
        simp [Instr.build, zeroValue, typeInfo, hi, hzz, run_underlying hu, sizeOf, hi', hi1, e1] at hf ⊢
        simp [hf]
      simp only [cond_true] at hq
      split at hq
      · split at hq
        · rename_i l hx; simp only [QR.ok.injEq, true_and] at hq; subst hq
          exact key _ (as64_ok β hx) (fun v hv => by obtain ⟨a, -, rfl⟩ := List.mem_map.1 hv; rfl)
        · cases hq
      · split at hq
        · rename_i l hx; simp only [QR.ok.injEq, true_and] at hq; subst hq
          exact key _ (as32_ok β hx) (fun v hv => by obtain ⟨a, -, rfl⟩ := List.mem_map.1 hv; rfl)
        · cases hq
      · split at hq
        · rename_i l hx; simp only [QR.ok.injEq, true_and] at hq; subst hq
          exact key _ (as8_ok β hx) (fun v hv => by obtain ⟨a, -, rfl⟩ := List.mem_map.1 hv; rfl)
        · cases hq
      · split at hq
        · rename_i l hx; simp only [QR.ok.injEq, true_and] at hq; subst hq
          have := key _ (asI_ok β hx) (fun v hv => by obtain ⟨a, -, rfl⟩ := List.mem_map.1 hv; rfl)
          rw [this]
          simp [val, vals_map, Function.comp_def]
        · cases hq
      · cases hq
  · rename_i fs hu
    generalize hb : (fs.toList.all fun f => sized P f.type) = bb at hq
    cases bb
    · cases hq
    · simp only [cond_true] at hq
      split at hq
      · rename_i z hz
        split at hq
        · rename_i b l hl
          simp only [QR.ok.injEq] at hq
          obtain ⟨rfl, rfl⟩ := hq
          unfold zeroRow at hz
          split at hz
          · rename_i i hi
            split at hz
            · rename_i cs hzz
              have hm := places_some P fs.toList hb
              have hcz := (zsvs_ok β hz).1
              obtain ⟨ds, hd1, hd2⟩ := cat64_ok β fs z.length ρ (fun i => (fs.toList.map fun f => (f.offset, sizeT P f.type)).toArray[i]?) (fun i f hf => by
                rw [← Array.getElem?_toList] at hf
                simp [hf]) parts.toList xs 0 l cs hl hp (by rw [← Array.length_toList, ← hcz, vals_map, List.length_map])
              have hbt : P.built t (parts.map fun x => (x.1, ρ x.2)).toList = some ds := by
                unfold Program.built
                simp only [hi, hu, hzz, hm, Array.toList_map]
                exact hd1
              rw [run_build w t _ ds hbt]
              show _ = Result.ok (Value.agg (l.map c64).toArray) w
              rw [List.take_zero, List.nil_append] at hd2
              rw [← hd2]
            · cases hz
          · cases hz
        split at hq
        · rename_i l hl
          simp only [QR.ok.injEq, true_and] at hq
          subst hq
          unfold zeroRow at hz
          split at hz
          · rename_i i hi
            split at hz
            · rename_i cs hzz
              have hm := places_some P fs.toList hb
              obtain ⟨ds, hd1, hd2⟩ := placeF_ok β fs ρ (fun i => (fs.toList.map fun f => (f.offset, sizeT P f.type)).toArray[i]?) (fun i f hf => by
                rw [← Array.getElem?_toList] at hf
                simp [hf]) parts.toList xs z l cs hl hp (zsvs_ok β hz).1.symm
              have hbt : P.built t (parts.map fun x => (x.1, ρ x.2)).toList = some ds := by
                unfold Program.built
                simp only [hi, hu, hzz, hm, Array.toList_map]
                exact hd1
              rw [run_build w t _ ds hbt]
              rw [row64_val]
              show _ = Result.ok (Value.agg (vals β l).toArray) w
              rw [← hd2]
            · cases hz
          · cases hz
        · cases hq
      · cases hq
  · cases hq
theorem zIs_ok {k : IntKind} {t b : Nat} (h : zIs P k t b = true) : ∃ i, P.info? t = some i ∧ i.zero = some (.int k 0) ∧ i.bytes = b := by
  unfold zIs at h
  cases hi : P.info? t with
  | none => rw [hi] at h; cases h
  | some i =>
    rw [hi] at h
    simp only at h
    cases hz : i.zero with
    | none => rw [hz] at h; cases h
    | some z =>
      rw [hz] at h
      simp only [Bool.and_eq_true] at h
      exact ⟨i, rfl, by rw [hz, isZ_eq h.1], Nat.eq_of_beq_eq_true h.2⟩
theorem zF_ok {t : Nat} (h : zF P t = true) : ∃ i, P.info? t = some i ∧ i.zero = some (.bool false) ∧ i.bytes = 1 ∧ i.size = 1 := by
  unfold zF at h
  cases hi : P.info? t with
  | none => rw [hi] at h; cases h
  | some i =>
    rw [hi] at h
    simp only at h
    cases hz : i.zero with
    | none => rw [hz] at h; cases h
    | some z =>
      rw [hz] at h
      simp only [Bool.and_eq_true] at h
      obtain rfl := isF_ok h.1
      exact ⟨i, rfl, hz, Nat.eq_of_beq_eq_true h.2.1, Nat.eq_of_beq_eq_true h.2.2⟩
theorem rows_b (n : Nat) : rows [.b] (List.replicate n (rz [.b])) = List.replicate n (.bool false) := by
  induction n with
  | zero => rfl
  | succ n ih => rw [List.replicate_succ, List.replicate_succ, ← ih]; rfl
theorem qmake_ok {t n : Nat} {x y r : SV} {c : Cont} (hq : qmake P t n x y = .new true r c) : ∃ (cs : Array Value) (e : Nat) (l m : Nat), (Instr.makeSlice t (val β x) (val β y)).run P w = .ok (.slice (some ⟨w.heap.size, 0, none⟩) l m) (w.alloc (.cells cs e)) ∧ cs.toList = c.cells β ∧ (r = .sl n 0 l m ∨ r = .rs n 0 0 1 l m) := by
  unfold qmake at hq
  split at hq
  · rename_i e a b hu ha hb
    obtain ⟨ka, hva⟩ := iof_ok β ha
    obtain ⟨kb, hvb⟩ := iof_ok β hb
    rw [hva, hvb]
    generalize h8 : (isInt P .u8 e && Nat.beq (sizeT P e) 1 && zIs P .u8 e 1) = b8 at hq
    cases b8
    · generalize h64 : (isInt P .u64 e && Nat.beq (sizeT P e) 1 && zIs P .u64 e 8) = b64 at hq
      cases b64
      · generalize hF : zF P e = bF at hq
        cases bF
        · cases hq
        · simp only [cond_false, cond_true, QR.new.injEq, Bool.and_eq_true, ile_eq, ilt_eq, decide_eq_true_eq] at hq
          obtain ⟨⟨⟨h0, h1⟩, h2⟩, rfl, rfl⟩ := hq
          obtain ⟨i, hi, hz, hby, hi1⟩ := zF_ok hF
          have := run_make (P := P) w t e i _ hu hi hz ka kb a b h0 h1 (by rw [hby]; omega) (by omega)
          exact ⟨_, _, _, _, this, by rw [hi1, Nat.mul_one]; simp [Value.cells, toList_madeCells_one, Cont.cells]; exact (rows_b _).symm, .inr rfl⟩
      · simp only [Bool.and_eq_true] at h64
        simp only [cond_false, cond_true, QR.new.injEq, Bool.and_eq_true, ile_eq, ilt_eq, decide_eq_true_eq] at hq
        obtain ⟨⟨⟨h0, h1⟩, h2⟩, rfl, rfl⟩ := hq
        obtain ⟨i, hi, hz, hby⟩ := zIs_ok h64.2
        obtain ⟨i', hi', hi1⟩ := size_one h64.1.2
        obtain rfl : i = i' := Option.some.inj (hi.symm.trans hi')
        have := run_make (P := P) w t e i _ hu hi hz ka kb a b h0 h1 (by rw [hby]; omega) (by omega)
        exact ⟨_, _, _, _, this, by rw [hi1, Nat.mul_one]; simp [Value.cells, toList_madeCells_one, Cont.cells, c64], .inl rfl⟩
    · simp only [Bool.and_eq_true] at h8
      simp only [cond_true, QR.new.injEq, Bool.and_eq_true, ile_eq, ilt_eq, decide_eq_true_eq] at hq
      obtain ⟨⟨⟨h0, h1⟩, h2⟩, rfl, rfl⟩ := hq
      obtain ⟨i, hi, hz, hby⟩ := zIs_ok h8.2
      obtain ⟨i', hi', hi1⟩ := size_one h8.1.2
      obtain rfl : i = i' := Option.some.inj (hi.symm.trans hi')
      have := run_make (P := P) w t e i _ hu hi hz ka kb a b h0 h1 (by rw [hby]; omega) (by omega)
      exact ⟨_, _, _, _, this, by rw [hi1, Nat.mul_one]; simp [Value.cells, toList_madeCells_one, Cont.cells, c8], .inl rfl⟩
  · cases hq
theorem qpick_ok {t : Bool} {x y r : SV} (hq : qpick t x y = .ok true r) {vx vy : Value} (hx : x = .any ∨ vx = val β x) (hy : y = .any ∨ vy = val β y) : r = .any ∨ (if t then vx else vy) = val β r := by
  unfold qpick at hq
  split at hq <;> simp only [QR.ok.injEq, true_and, reduceCtorEq] at hq
  · subst hq; right; cases t
    · exact hy.resolve_left (fun e => nomatch e)
    · exact hx.resolve_left (fun e => nomatch e)
  · subst hq; right; cases t
    · exact hy.resolve_left (fun e => nomatch e)
    · exact hx.resolve_left (fun e => nomatch e)
  · subst hq; right; cases t
    · exact hy.resolve_left (fun e => nomatch e)
    · exact hx.resolve_left (fun e => nomatch e)
  · subst hq; right; cases t
    · exact hy.resolve_left (fun e => nomatch e)
    · exact hx.resolve_left (fun e => nomatch e)
  · obtain ⟨h1, rfl⟩ := hq
    cases t
    · exact hy
    · cases h1
  · obtain ⟨h1, rfl⟩ := hq
    cases t
    · cases h1
    · exact hx
  · obtain ⟨h1, rfl⟩ := hq
    cases t
    · exact hy
    · cases h1
  · obtain ⟨h1, rfl⟩ := hq
    cases t
    · cases h1
    · exact hx
end
end Go.Proofs.Ytkjfecdpakhggaa
