/-
  A ring from which a chain was polled. No statement is proved here.
-/
import Derived.Test.YtfiaciniikcacaaRing18
namespace Go.Proofs.Ytfiaciniikcacaa
open Go.RowKit Go.BigFrame Go.MapKept
set_option linter.unusedVariables false
set_option linter.unusedSimpArgs false
set_option maxRecDepth 1000000
set_option maxHeartbeats 4000000

/-- Which descriptors are taken, i of these freed. -/
def tkC (tk : List Bool) (ds : List Nat) : Nat → List Bool
  | 0 => tk
  | i + 1 => (tkC tk ds i).set (ds.getD i 0) false
theorem tkC_length (tk : List Bool) (ds : List Nat) : ∀ i, (tkC tk ds i).length = tk.length
  | 0 => rfl
  | i + 1 => by simp [tkC, tkC_length tk ds i]
theorem tkC_get (tk : List Bool) (ds : List Nat) (d : Nat) (hd : d < tk.length) : ∀ i, i ≤ ds.length → ((tkC tk ds i).getD d true = true ↔ tk.getD d true = true ∧ d ∉ ds.take i)
  | 0, _ => by simp [tkC]
  | i + 1, hi => by
    have ih := tkC_get tk ds d hd i (by omega)
    have hi' : i < ds.length := by omega
    rw [tkC, getD_set _ _ _ _ (by rw [tkC_length]; exact hd), List.take_succ_eq_append_getElem hi']
    simp only [List.mem_append, List.mem_singleton, not_or]
    have e : ds.getD i 0 = ds[i] := by simp [hi']
    rw [e]
    split
    · rename_i h; subst h; simp
    · rename_i h
      rw [ih]
      constructor
      · rintro ⟨h1, h2⟩; exact ⟨h1, h2, fun e => h e.symm⟩
      · rintro ⟨h1, h2, _⟩; exact ⟨h1, h2⟩
section
variable {B bR bM bm bb k at_ bT N bC idx pol : Nat} {Z : Nat → Prop} {brk : Bool} {tk : List Bool} {cs : List Ch} {bs : List UInt8} {w w' : World}
theorem flat_mid {α : Type} (f : Ch → List α) (ps qs : List Ch) (c : Ch) : (ps ++ c :: qs).flatMap f = ps.flatMap f ++ (f c ++ qs.flatMap f) := by simp
/-- A ring from which a chain was polled. -/
theorem RS.polled {ps qs : List Ch} {c : Ch} (h : RS B w bR bM bm bb k at_ bT N bC Z idx pol brk tk (ps ++ c :: qs) bs)
    (hK : Kp B [bR, bT, bC, bm, bb] w w') (q1 : RingF w' bR bM at_ bT N bC idx pol brk (tkC tk c.ds c.ds.length)) (q2 : MapC w' bC (ps ++ qs)) (q3 : ∃ l, MemK B w' bM bm bb k l bs ∧ Lens l k Z ((ps ++ qs).flatMap fun c => ivs c.xs)) :
    RS B w' bR bM bm bb k at_ bT N bC Z idx pol brk (tkC tk c.ds c.ds.length) (ps ++ qs) bs := by
  have htl : tk.length = N := h.ring.len
  have hin : ∀ x, x ∈ ps ++ qs → x ∈ ps ++ c :: qs := fun x hx => by
    rcases List.mem_append.1 hx with hx | hx
    · exact List.mem_append.2 (.inl hx)
    · exact List.mem_append.2 (.inr (List.mem_cons_of_mem _ hx))
  have hd := h.dsn
  rw [flat_mid] at hd
  have hfl : ∀ d, d ∈ (ps ++ qs).flatMap Ch.ds → d ∈ (ps ++ c :: qs).flatMap Ch.ds ∧ d ∉ c.ds := fun d hm => by
    rw [flat_mid]
    rw [List.flatMap_append] at hm
    rw [List.nodup_append, List.nodup_append] at hd
    rcases List.mem_append.1 hm with hm | hm
    · exact ⟨by simp [hm], fun hc => hd.2.2 d hm d (by simp [hc]) rfl⟩
    · exact ⟨by simp [hm], fun hc => hd.2.1.2.2 d hc d hm rfl⟩
  refine ⟨q1, q2, q3, fun x hx => (h.chs x (hin x hx)).kp hK h.odd, fun x hx => h.off x (hin x hx), fun x hx => h.inn x (hin x hx), h.pow, h.fit, h.zof, h.zus, ?_, ?_, ?_, fun d hm => h.dlt d (hfl d hm).1, h.idl, h.pll, ⟨Nat.le_trans h.low.1 hK.size, h.low.2⟩⟩
  · refine h.hds.sublist ?_
    rw [List.map_append, List.map_append, List.map_cons]
    exact List.Sublist.append_left (List.sublist_cons_self _ _) _
  · refine hd.sublist ?_
    rw [List.flatMap_append]
    exact List.Sublist.append_left (List.sublist_append_right _ _) _
  · intro d hdN
    rw [tkC_get tk c.ds d (by omega) _ (Nat.le_refl _), List.take_of_length_le (Nat.le_refl _), h.tks d hdN]
    constructor
    · rintro ⟨h1, h2⟩
      rw [flat_mid] at h1
      rw [List.flatMap_append]
      simp only [List.mem_append] at h1 ⊢
      rcases h1 with h1 | h1 | h1
      · exact .inl h1
      · exact absurd h1 h2
      · exact .inr h1
    · exact hfl d
/-- What the device says of the next chain: where that stands. -/
def eAt (at_ N pol : Nat) : Nat := at_ + uAt N + 4 + 8 * (pol % N)
theorem eAt_le (h : RS B w bR bM bm bb k at_ bT N bC Z idx pol brk tk cs bs) : eAt at_ N pol + 8 ≤ k := by
  have h1 := h.fit
  have hN : 1 ≤ N := by have := h.pow; unfold Pow at this; omega
  have h2 := Nat.mod_lt pol (show 0 < N by omega)
  unfold eAt
  unfold rSize at h1
  omega
/-- What the device says of the next chain, if that can be. -/
def EntP (bs : List UInt8) (at_ N pol : Nat) (cs : List Ch) (e : Ending) : Prop :=
  (e = .returned (.tuple #[.agg #[.int .u16 0, .int .u32 0], .bool false]) ∧ ∀ c, c ∈ cs → ¬ (c.h = num bs (eAt at_ N pol) 4 ∧ num bs (eAt at_ N pol + 4) 4 ≤ roomB c.xs)) ∨
  ∃ ps c qs, cs = ps ++ c :: qs ∧ c.h = num bs (eAt at_ N pol) 4 ∧ num bs (eAt at_ N pol + 4) 4 ≤ roomB c.xs ∧ e = .returned (.tuple #[.agg #[.int .u16 (c.h : Nat), .int .u32 (num bs (eAt at_ N pol + 4) 4 : Nat)], .bool true])
theorem RS.setPol (h : RS B w bR bM bm bb k at_ bT N bC Z idx pol brk tk cs bs) (x : Nat) (hx : x < 65536) : RS B (w.setCell ⟨bR, 5, none⟩ (.int .u16 (x : Nat))) bR bM bm bb k at_ bT N bC Z idx x brk tk cs bs := by
  have F : Fr [bR] w (w.setCell ⟨bR, 5, none⟩ (.int .u16 (x : Nat))) := (Fr.refl _ w).setCell (by simp) _
  obtain ⟨l, ⟨lv, h1, h1'⟩, h2⟩ := h.mem
  obtain ⟨es, cl, hm, _⟩ := h.map
  refine ⟨h.ring.setPol x, h.map.fr F ?_, ⟨l, ⟨lv, h1.fr F (by simpa using blk_ne h1.top h.ring.blk (by decide)) (by simpa using blk_ne h1.mid.blk h.ring.blk (by decide)) (by simpa using blk_ne h1.bytes h.ring.blk (by decide)) (fun g hg => by simpa using Row.ne h1.mid.row h.ring.blk (by decide) g hg), h1'⟩, h2⟩, fun c hc => (h.chs c hc).kp (B := B) (S := [bR]) F.kp' (fun t ht => h.odd t (by simp at ht; simp [ht])), h.off, h.inn, h.pow, h.fit, h.zof, h.zus, h.hds, h.dsn, h.tks, h.dlt, h.idl, hx, ⟨Nat.le_trans h.low.1 F.size, h.low.2⟩⟩
  simp
  rintro rfl
  rw [h.ring.blk] at hm; cases hm
theorem RS.setBrk (h : RS B w bR bM bm bb k at_ bT N bC Z idx pol brk tk cs bs) (x : Bool) : RS B (w.setCell ⟨bR, 6, none⟩ (.bool x)) bR bM bm bb k at_ bT N bC Z idx pol x tk cs bs := by
  have F : Fr [bR] w (w.setCell ⟨bR, 6, none⟩ (.bool x)) := (Fr.refl _ w).setCell (by simp) _
  obtain ⟨l, ⟨lv, h1, h1'⟩, h2⟩ := h.mem
  obtain ⟨es, cl, hm, _⟩ := h.map
  refine ⟨h.ring.setBrk x, h.map.fr F ?_, ⟨l, ⟨lv, h1.fr F (by simpa using blk_ne h1.top h.ring.blk (by decide)) (by simpa using blk_ne h1.mid.blk h.ring.blk (by decide)) (by simpa using blk_ne h1.bytes h.ring.blk (by decide)) (fun g hg => by simpa using Row.ne h1.mid.row h.ring.blk (by decide) g hg), h1'⟩, h2⟩, fun c hc => (h.chs c hc).kp (B := B) (S := [bR]) F.kp' (fun t ht => h.odd t (by simp at ht; simp [ht])), h.off, h.inn, h.pow, h.fit, h.zof, h.zus, h.hds, h.dsn, h.tks, h.dlt, h.idl, h.pll, ⟨Nat.le_trans h.low.1 F.size, h.low.2⟩⟩
  simp
  rintro rfl
  rw [h.ring.blk] at hm; cases hm
end
end Go.Proofs.Ytfiaciniikcacaa
