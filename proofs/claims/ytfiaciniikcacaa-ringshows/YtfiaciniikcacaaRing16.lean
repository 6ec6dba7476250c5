/-
  The walk of Add of package ring where its buffers may be a chain: it is made available, or can't be lent. No statement is proved here.
-/
import Derived.Test.YtfiaciniikcacaaRing15
namespace Go.Proofs.Ytfiaciniikcacaa
open Go.RowKit Go.BigFrame Go.MapKept
set_option linter.unusedVariables false
set_option linter.unusedSimpArgs false
set_option maxRecDepth 1000000
set_option maxHeartbeats 4000000

theorem mayB_len {xs : List Bf} (hm : mayB xs = true) : 1 ≤ xs.length ∧ xs.length ≤ 8 := by
  unfold mayB at hm
  simp only [Bool.and_eq_true, decide_eq_true_eq] at hm
  exact hm.1
theorem goB_one : ∀ (xs : List Bf) (n : Bool), goB n xs = true → ∀ x, x ∈ xs → 1 ≤ x.L
  | [], _, _, x, hx => by cases hx
  | y :: ys, n, h, x, hx => by
    simp only [goB, Bool.and_eq_true, Bool.not_eq_true', Bool.or_eq_false_iff, decide_eq_false_iff_not] at h
    rcases List.mem_cons.1 hx with rfl | hx
    · omega
    · exact goB_one ys _ h.2 x hx
theorem may_in {k : Nat} {xs : List Bf} (hm : mayB xs = true) (hi : inB k xs = true) : ∀ x, x ∈ xs → 1 ≤ x.L ∧ x.A + x.L ≤ k := by
  intro x hx
  unfold mayB at hm
  simp only [Bool.and_eq_true] at hm
  unfold inB at hi
  have := List.all_eq_true.1 hi x hx
  exact ⟨goB_one xs false hm.2 x hx, by simpa using this⟩
theorem writable_k (B bR bM bm bb k at_ bT N bC idx pol g cap : Nat) (brk : Bool) (tk : List Bool) (l : List (Nat × Nat)) (bs : List UInt8) (ds : List Nat) (w : World) (hR : RingF w bR bM at_ bT N bC idx pol brk tk) (hM : MemK B w bM bm bb k l bs)
    (hD : DescsAt w g ds) (hds : ∀ d ∈ ds, d < N) (hdl : ds.length ≤ 8) (hN1 : 1 ≤ N) (hN : N ≤ 256) (hi : idx < 65536) (ho : at_ + uAt N ≤ k) (hK : Kept l at_ N) :
    Calls Try.prog 38 #[.pointer (some ⟨bR, 0, none⟩), .slice (some ⟨g, 0, none⟩) ds.length cap] w fun e w' => e = .returned (.bool true) ∧ MemK B w' bM bm bb k l bs ∧ Fr [bb] w w' := by
  obtain ⟨lv, h1, h2⟩ := hM
  exact (writable_ok bR bM bm bb k at_ bT N bC idx pol g cap brk tk lv l bs ds w hR h1 hD hds hdl hN1 hN hi ho hK).mono fun e w' ⟨q1, q2, q3⟩ => ⟨q1, ⟨lv, q2, h2⟩, q3⟩

/-- What stands while the descriptors of a chain are written. -/
structure AddI (w6 wr : World) (bR bM bm bb k at_ bT N bC idx pol g dcap p1 p2 p3 b o : Nat) (tk : List Bool) (lv : Value) (l : List (Nat × Nat)) (bs : List UInt8) (ds : List Nat) (xs : List Bf) (i : Nat) : Prop where
  ring : RingF wr bR bM at_ bT N bC idx pol false (tkW tk ds i)
  mem : MemA wr bM bm bb k lv l (dW bs at_ ds xs i)
  dscs : DescsAt wr g ds
  bufs : BufsAt wr b o xs
  b1 : wr.heap[p1]? = some (.cells #[.pointer (some ⟨bR, 0, none⟩)] 29)
  b2 : wr.heap[p2]? = some (.cells #[.slice (some ⟨g, 0, none⟩) ds.length dcap] 33)
  b3 : wr.heap[p3]? = some (.cells #[.int .i64 (i : Nat)] 3)
  ne3 : b ≠ p3
  fr : Fr [bT, p3, bb] w6 wr
theorem AddI.step {w6 wr W1 w' : World} {bR bM bm bb k at_ bT N bC idx pol g dcap p1 p2 p3 b o : Nat} {tk : List Bool} {lv : Value} {l : List (Nat × Nat)} {bs : List UInt8} {ds : List Nat} {xs : List Bf} {i : Nat} (h : AddI w6 wr bR bM bm bb k at_ bT N bC idx pol g dcap p1 p2 p3 b o tk lv l bs ds xs i) (hi : i < xs.length) (hid' : i < ds.length) (hF : Fr [] wr W1)
    (q1 : RingF w' bR bM at_ bT N bC idx pol false ((tkW tk ds i).set ds[i] true)) (q2 : MemA w' bM bm bb k lv l (descW (dW bs at_ ds xs i) (at_ + 16 * ds[i]) xs[i].A xs[i].L (flg (decide (i + 1 < ds.length)) xs[i].I) (ds.getD (i + 1) 0))) (q3 : w'.heap[p3]? = some (.cells #[.int .i64 (i + 1 : Nat)] 3)) (q4 : Fr [bT, p3, bb] W1 w') :
    AddI w6 w' bR bM bm bb k at_ bT N bC idx pol g dcap p1 p2 p3 b o tk lv l bs ds xs (i + 1) := by
  have e1 : ds.getD i 0 = ds[i] := by simp [hid']
  have e2 : xs.getD i ⟨0, 0, false⟩ = xs[i] := by simp [hi]
  obtain ⟨c, t, f, z1, z2⟩ := h.bufs.blk
  have F : Fr [bT, p3, bb] wr w' := (hF.mono (by simp)).trans q4 (fun t ht => .inl ht)
  refine ⟨by rw [tkW, e1]; exact q1, by rw [dW, e1, e2]; exact q2, h.dscs.fr F ?_, h.bufs.fr F ?_, F.heap h.b1 ?_, F.heap h.b2 ?_, q3, h.ne3, h.fr.trans F (fun t ht => .inl ht)⟩
  · simp; exact ⟨h.dscs.ne h.ring.tak (by decide), h.dscs.ne h.b3 (by decide), h.dscs.ne h.mem.bytes (by decide)⟩
  · simp; exact ⟨blk_ne z1 h.ring.tak z2.2.2.2.2.1, h.ne3, blk_ne z1 h.mem.bytes z2.2.1⟩
  · simp; exact ⟨blk_ne h.b1 h.ring.tak (by decide), blk_ne h.b1 h.b3 (by decide), blk_ne h.b1 h.mem.bytes (by decide)⟩
  · simp; exact ⟨blk_ne h.b2 h.ring.tak (by decide), blk_ne h.b2 h.b3 (by decide), blk_ne h.b2 h.mem.bytes (by decide)⟩

section
variable {B bR bM bm bb k at_ bT N bC idx pol : Nat} {Z : Nat → Prop} {brk : Bool} {tk : List Bool} {cs : List Ch} {bs : List UInt8} {w w' : World}
theorem Lens.putAll {l : List (Nat × Nat)} {iv : List (Nat × Nat)} {xs : List Bf} {cs : List Ch} {ch : Ch} (hL : Lens l k Z (ivs xs ++ cs.flatMap fun c => ivs c.xs)) (he : ch.xs = xs) : Lens l k Z ((cs ++ [ch]).flatMap fun c => ivs c.xs) := by
  refine hL.perm ?_
  simp only [List.flatMap_append, List.flatMap_cons, List.flatMap_nil, List.append_nil, he]
  exact List.perm_append_comm
/-- A ring to which a chain was added. -/
theorem RS.added (h : RS B w bR bM bm bb k at_ bT N bC Z idx pol brk tk cs bs) {l : List (Nat × Nat)} {lv : Value} {bs' : List UInt8} {xs : List Bf} {ch : Ch} (hx : ch.xs = xs) (hd : ch.ds = frK tk xs.length N) (hl : (frK tk xs.length N).length = xs.length)
    (hK : Kp B [bR, bT, bC, bm, bb] w w') (q1 : RingF w' bR bM at_ bT N bC ((idx + 1) % 65536) pol brk (tkW tk (frK tk xs.length N) xs.length)) (q2 : MapC w' bC (cs ++ [ch])) (q3 : MemA w' bM bm bb k lv l bs') (q4 : ∀ g, lv.ownBlock = some g → B ≤ g)
    (q5 : Lens l k Z (ivs xs ++ cs.flatMap fun c => ivs c.xs)) (q6 : ChAt w' ch) (q7 : ∀ x, x ∈ xs → x.I = true → ¬ ovr at_ (rSize N) x) (q8 : ∀ x, x ∈ xs → 1 ≤ x.L ∧ x.A + x.L ≤ k) :
    RS B w' bR bM bm bb k at_ bT N bC Z ((idx + 1) % 65536) pol brk (tkW tk (frK tk xs.length N) xs.length) (cs ++ [ch]) bs' := by
  have htl : tk.length = N := h.ring.len
  have hfm : ∀ d, d ∈ ch.ds → d < N ∧ d ∉ cs.flatMap Ch.ds := fun d hdm => by
    rw [hd] at hdm
    have := frK_mem tk xs.length N d hdm
    refine ⟨this.1, fun hin => ?_⟩
    have h2 := (h.tks d this.1).2 hin
    rw [this.2] at h2
    cases h2
  have hchh : ch.h ∈ ch.ds := List.mem_of_getElem? q6.hd
  refine ⟨q1, q2, ⟨l, ⟨lv, q3, q4⟩, q5.putAll (iv := []) hx⟩, ?_, ?_, ?_, h.pow, h.fit, h.zof, h.zus, ?_, ?_, ?_, ?_, by omega, h.pll, ⟨Nat.le_trans h.low.1 hK.size, h.low.2⟩⟩
  · intro c hc
    rcases List.mem_append.1 hc with hc | hc
    · exact (h.chs c hc).kp hK h.odd
    · simp at hc; subst hc; exact q6
  · intro c hc x hxm
    rcases List.mem_append.1 hc with hc | hc
    · exact h.off c hc x hxm
    · simp at hc; subst hc; exact q7 x (hx ▸ hxm)
  · intro c hc x hxm
    rcases List.mem_append.1 hc with hc | hc
    · exact h.inn c hc x hxm
    · simp at hc; subst hc; exact q8 x (hx ▸ hxm)
  · rw [List.map_append, List.nodup_append]
    refine ⟨h.hds, by simp, fun a ha b hb => ?_⟩
    simp at hb; subst hb
    obtain ⟨c, hc, rfl⟩ := List.mem_map.1 ha
    intro e
    exact (hfm ch.h hchh).2 (List.mem_flatMap.2 ⟨c, hc, e ▸ List.mem_of_getElem? (h.chs c hc).hd⟩)
  · rw [List.flatMap_append, List.nodup_append]
    refine ⟨h.dsn, by simp; rw [hd]; exact frK_nodup _ _ _, fun a ha b hb => ?_⟩
    simp at hb
    rintro rfl
    exact (hfm a hb).2 ha
  · intro d hdN
    rw [tkW_get tk _ d (by omega) xs.length (by omega), h.tks d hdN, List.take_of_length_le (by omega), List.flatMap_append, List.mem_append]
    simp [hd]
  · intro d hdm
    rw [List.flatMap_append, List.mem_append] at hdm
    rcases hdm with hdm | hdm
    · exact h.dlt d hdm
    · simp at hdm; exact (hfm d hdm).1
end
/-- What Add comes to where the buffers may be a chain. -/
def AddP (B : Nat) (w w' : World) (bR bM bm bb k at_ bT N bC : Nat) (Z : Nat → Prop) (idx pol : Nat) (tk : List Bool) (cs : List Ch) (bs : List UInt8) (xs : List Bf) (e : Ending) : Prop :=
  (e = .returned (.tuple #[.int .u16 0, .int .i64 11]) ∧ (∃ l, (∀ j, In l j ↔ Z j ∨ Cov (cs.flatMap fun c => ivs c.xs) j) ∧ LendNo at_ (rSize N) l xs) ∧ RS B w' bR bM bm bb k at_ bT N bC Z idx pol false tk cs bs ∧ Kp B [bR, bT, bC, bm, bb] w w') ∨
  (∃ ch : Ch, ch.xs = xs ∧ ch.ds = frK tk xs.length N ∧ e = .returned (.tuple #[.int .u16 (ch.h : Nat), .int .i64 0]) ∧ (∀ g, ch.dv.ownBlock = some g → w.heap.size ≤ g) ∧ RS B w' bR bM bm bb k at_ bT N bC Z ((idx + 1) % 65536) pol false (tkW tk (frK tk xs.length N) xs.length) (cs ++ [ch]) (offW (dW bs at_ (frK tk xs.length N) xs xs.length) at_ N idx ch.h) ∧ Kp B [bR, bT, bC, bm, bb] w w')
end Go.Proofs.Ytfiaciniikcacaa
