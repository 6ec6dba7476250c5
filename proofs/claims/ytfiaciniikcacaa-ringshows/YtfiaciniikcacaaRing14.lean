/-
  What stands of a ring between two calls ('RS'): its fields, its chains, which bytes are lent. No statement is proved here.
-/
import Derived.Test.YtfiaciniikcacaaRing13
namespace Go.Proofs.Ytfiaciniikcacaa
open Go.RowKit Go.BigFrame Go.MapKept
set_option linter.unusedVariables false
set_option linter.unusedSimpArgs false
set_option maxRecDepth 1000000
set_option maxHeartbeats 4000000

/-- A chain that waits, as it lies in a world. -/
structure ChAt (w : World) (c : Ch) : Prop where
  bufs : ∃ b cap x, c.bv = .slice (some ⟨b, 0, none⟩) c.xs.length cap ∧ c.xs.length ≤ cap ∧ cap ≤ maxLen ∧ BufsAt w b 0 c.xs ∧ w.heap[b]? = some (.cells x 59)
  dscs : ∃ g cap, c.dv = .slice (some ⟨g, 0, none⟩) c.ds.length cap ∧ DescsAt w g c.ds
  n1 : 1 ≤ c.xs.length
  n8 : c.xs.length ≤ 8
  nd : c.ds.length = c.xs.length
  hd : c.ds[0]? = some c.h
/-- None of these blocks holds buffers or descriptors. -/
def Odd (w : World) (S : List Nat) : Prop := ∀ t, t ∈ S → ∀ c f, w.heap[t]? ≠ some (.cells c 59 f) ∧ w.heap[t]? ≠ some (.cells c 37 f)
theorem ChAt.kp {B : Nat} {S : List Nat} {w w' : World} {c : Ch} (h : ChAt w c) (hK : Kp B S w w') (hS : Odd w S) : ChAt w' c := by
  obtain ⟨b, cap, x, h1, h2, h3, h4, h5⟩ := h.bufs
  obtain ⟨g, gc, g1, g2⟩ := h.dscs
  have hb : b ∉ S := fun ht => (hS b ht x _).1 h5
  have hg : g ∉ S := fun ht => by
    obtain ⟨cur, q1, _⟩ := g2.blk
    exact (hS g ht cur _).2 q1
  exact ⟨⟨b, cap, x, h1, h2, h3, h4.kp hK hb, hK.heap h5 hb (by decide)⟩, ⟨g, gc, g1, g2.kp hK hg⟩, h.n1, h.n8, h.nd, h.hd⟩
theorem Fr.kp' {B : Nat} {S : List Nat} {w w' : World} (h : Fr S w w') : Kp B S w w' := h.kp (fun t ht => .inl ht)
theorem odd_ring {w : World} {bR bM at_ bT N bC idx pol bm bb k B : Nat} {brk : Bool} {tk : List Bool} {cs : List Ch} {l : List (Nat × Nat)} {bs : List UInt8} (hR : RingF w bR bM at_ bT N bC idx pol brk tk) (hC : MapC w bC cs) (hM : MemK B w bM bm bb k l bs) : Odd w [bR, bT, bC, bm, bb] := by
  obtain ⟨lv, hA, _⟩ := hM
  obtain ⟨es, cl, hm, _⟩ := hC
  intro t ht c f
  simp only [List.mem_cons, List.not_mem_nil, or_false] at ht
  rcases ht with rfl | rfl | rfl | rfl | rfl
  · rw [hR.blk]; simp
  · rw [hR.tak]; simp
  · rw [hm]; simp
  · rw [hA.mid.blk]; simp
  · rw [hA.bytes]; simp
/-- What stands of a ring between two calls. -/
structure RS (B : Nat) (w : World) (bR bM bm bb k at_ bT N bC : Nat) (Z : Nat → Prop) (idx pol : Nat) (brk : Bool) (tk : List Bool) (cs : List Ch) (bs : List UInt8) : Prop where
  ring : RingF w bR bM at_ bT N bC idx pol brk tk
  map : MapC w bC cs
  mem : ∃ l, MemK B w bM bm bb k l bs ∧ Lens l k Z (cs.flatMap fun c => ivs c.xs)
  chs : ∀ c, c ∈ cs → ChAt w c
  off : ∀ c, c ∈ cs → ∀ x, x ∈ c.xs → x.I = true → ¬ ovr at_ (rSize N) x
  inn : ∀ c, c ∈ cs → ∀ x, x ∈ c.xs → 1 ≤ x.L ∧ x.A + x.L ≤ k
  pow : Pow N
  fit : at_ + rSize N ≤ k
  zof : ∀ j, Z j → ¬ (at_ ≤ j ∧ j < at_ + uAt N)
  zus : ∀ j, at_ + uAt N ≤ j → j < at_ + rSize N → Z j
  hds : (cs.map Ch.h).Nodup
  dsn : (cs.flatMap Ch.ds).Nodup
  tks : ∀ d, d < N → (tk.getD d true = true ↔ d ∈ cs.flatMap Ch.ds)
  dlt : ∀ d, d ∈ cs.flatMap Ch.ds → d < N
  idl : idx < 65536
  pll : pol < 65536
  low : B ≤ w.heap.size ∧ B ≤ bR ∧ B ≤ bT ∧ B ≤ bC ∧ B ≤ bm ∧ B ≤ bb
section
variable {B : Nat} {w w' : World} {bR bM bm bb k at_ bT N bC : Nat} {Z : Nat → Prop} {idx pol : Nat} {brk : Bool} {tk : List Bool} {cs : List Ch} {bs : List UInt8}
theorem RS.top (h : RS B w bR bM bm bb k at_ bT N bC Z idx pol brk tk cs bs) : k ≤ 1048576 := by
  obtain ⟨l, ⟨lv, h1, _⟩, _⟩ := h.mem
  exact h1.mid.top
theorem RS.odd (h : RS B w bR bM bm bb k at_ bT N bC Z idx pol brk tk cs bs) : Odd w [bR, bT, bC, bm, bb] := by
  obtain ⟨l, h1, _⟩ := h.mem
  exact odd_ring h.ring h.map h1
theorem RS.fr0 (h : RS B w bR bM bm bb k at_ bT N bC Z idx pol brk tk cs bs) (hF : Fr [] w w') : RS B w' bR bM bm bb k at_ bT N bC Z idx pol brk tk cs bs := by
  obtain ⟨l, h1, h2⟩ := h.mem
  exact ⟨h.ring.fr hF (by simp) (by simp), h.map.fr hF (by simp), ⟨l, h1.fr0 hF, h2⟩, fun c hc => (h.chs c hc).kp (B := B) (S := []) hF.kp0 (fun t ht => by simp at ht), h.off, h.inn, h.pow, h.fit, h.zof, h.zus, h.hds, h.dsn, h.tks, h.dlt, h.idl, h.pll, ⟨Nat.le_trans h.low.1 hF.size, h.low.2⟩⟩
/-- The device's or the driver's bytes have turned, or which row of spans there is: nothing else. -/
theorem RS.mem' (h : RS B w bR bM bm bb k at_ bT N bC Z idx pol brk tk cs bs) {bs' : List UInt8} (hK : Kp B [bm, bb] w w') (hm : ∃ l, MemK B w' bM bm bb k l bs' ∧ Lens l k Z (cs.flatMap fun c => ivs c.xs)) : RS B w' bR bM bm bb k at_ bT N bC Z idx pol brk tk cs bs' := by
  obtain ⟨l, ⟨lv, h1, _⟩, _⟩ := h.mem
  have e1 : bR ∉ [bm, bb] := by simp; exact ⟨blk_ne h.ring.blk h1.mid.blk (by decide), blk_ne h.ring.blk h1.bytes (by decide)⟩
  have e2 : bT ∉ [bm, bb] := by simp; exact ⟨blk_ne h.ring.tak h1.mid.blk (by decide), blk_ne h.ring.tak h1.bytes (by decide)⟩
  have e3 : bC ∉ [bm, bb] := by
    obtain ⟨es, cl, hq, _⟩ := h.map
    simp
    constructor
    · rintro rfl; rw [h1.mid.blk] at hq; cases hq
    · rintro rfl; rw [h1.bytes] at hq; cases hq
  exact ⟨h.ring.kp hK e1 e2, h.map.kp hK e3, hm, fun c hc => (h.chs c hc).kp hK (fun t ht => h.odd t (by simp at ht ⊢; rcases ht with rfl | rfl <;> simp)), h.off, h.inn, h.pow, h.fit, h.zof, h.zus, h.hds, h.dsn, h.tks, h.dlt, h.idl, h.pll, ⟨Nat.le_trans h.low.1 hK.size, h.low.2⟩⟩
theorem RS.kept (h : RS B w bR bM bm bb k at_ bT N bC Z idx pol brk tk cs bs) {l : List (Nat × Nat)} {iv : List (Nat × Nat)} (hL : Lens l k Z iv) (ho : ∀ p, p ∈ iv → ¬ (p.1 < at_ + rSize N ∧ at_ < p.1 + p.2)) : Kept l at_ N := by
  intro j h1 h2 h3
  have hr : uAt N ≤ rSize N := by unfold rSize; omega
  rcases (hL.cov j).1 h3 with h4 | ⟨p, hp, h5, h6⟩
  · exact h.zof j h4 ⟨h1, h2⟩
  · exact ho p hp ⟨by omega, by omega⟩
theorem ivs_mem {xs : List Bf} {p : Nat × Nat} (h : p ∈ ivs xs) : ∃ x, x ∈ xs ∧ x.I = true ∧ p = (x.A, x.L) := by
  simp only [ivs, List.mem_filterMap] at h
  obtain ⟨x, hx, h1⟩ := h
  split at h1
  · rename_i hI
    exact ⟨x, hx, hI, by cases h1; rfl⟩
  · cases h1
theorem RS.offIv (h : RS B w bR bM bm bb k at_ bT N bC Z idx pol brk tk cs bs) : ∀ p, p ∈ (cs.flatMap fun c => ivs c.xs) → ¬ (p.1 < at_ + rSize N ∧ at_ < p.1 + p.2) := by
  intro p hp
  obtain ⟨c, hc, hp⟩ := List.mem_flatMap.1 hp
  obtain ⟨x, hx, hI, rfl⟩ := ivs_mem hp
  exact h.off c hc x hx hI
end
/-- Buffers that are handed to Add. -/
def Arg (w : World) (v : Value) (xs : List Bf) : Prop := (∃ p c, v = .slice p 0 c ∧ xs = []) ∨ ∃ b o cap, v = .slice (some ⟨b, o, none⟩) xs.length cap ∧ 1 ≤ xs.length ∧ xs.length ≤ cap ∧ cap ≤ maxLen ∧ BufsAt w b o xs
theorem Arg.bufs {w : World} {v : Value} {xs : List Bf} (h : Arg w v xs) : Bufs w v xs := by
  rcases h with ⟨p, c, h1, h2⟩ | ⟨b, o, cap, h1, h2, h3, h4, h5⟩
  · exact .inl ⟨p, c, h1, h2⟩
  · exact .inr ⟨b, o, cap, h1, Nat.le_trans h3 h4, h5.at_⟩
theorem Arg.fr0 {w w' : World} {v : Value} {xs : List Bf} (h : Arg w v xs) (hF : Fr [] w w') : Arg w' v xs := by
  rcases h with h | ⟨b, o, cap, h1, h2, h3, h4, h5⟩
  · exact .inl h
  · exact .inr ⟨b, o, cap, h1, h2, h3, h4, h5.fr hF (by simp)⟩
theorem Arg.form {w : World} {v : Value} {xs : List Bf} (h : Arg w v xs) : ∃ p c, v = .slice p xs.length c := by
  rcases h with ⟨p, c, h1, h2⟩ | ⟨b, o, cap, h1, h2, h3, h4, h5⟩
  · exact ⟨p, c, by rw [h1, h2]; rfl⟩
  · exact ⟨_, _, h1⟩
/-- The descriptors' bytes, and which are taken, behind i of them. -/
def dW (bs : List UInt8) (at_ : Nat) (ds : List Nat) (xs : List Bf) : Nat → List UInt8
  | 0 => bs
  | i + 1 => descW (dW bs at_ ds xs i) (at_ + 16 * ds.getD i 0) (xs.getD i ⟨0, 0, false⟩).A (xs.getD i ⟨0, 0, false⟩).L (flg (decide (i + 1 < ds.length)) (xs.getD i ⟨0, 0, false⟩).I) (ds.getD (i + 1) 0)
def tkW (tk : List Bool) (ds : List Nat) : Nat → List Bool
  | 0 => tk
  | i + 1 => (tkW tk ds i).set (ds.getD i 0) true
theorem tkW_length (tk : List Bool) (ds : List Nat) : ∀ i, (tkW tk ds i).length = tk.length
  | 0 => rfl
  | i + 1 => by simp [tkW, tkW_length tk ds i]
theorem getD_set (l : List Bool) (i d : Nat) (v : Bool) (hd : d < l.length) : (l.set i v).getD d true = if i = d then v else l.getD d true := by
  simp only [List.getD_eq_getElem?_getD, List.getElem?_set]
  split
  · rename_i h; subst h; simp [hd]
  · rfl
theorem tkW_get (tk : List Bool) (ds : List Nat) (d : Nat) (hd : d < tk.length) : ∀ i, i ≤ ds.length → ((tkW tk ds i).getD d true = true ↔ tk.getD d true = true ∨ d ∈ ds.take i)
  | 0, _ => by simp [tkW]
  | i + 1, hi => by
    have ih := tkW_get tk ds d hd i (by omega)
    have hi' : i < ds.length := by omega
    rw [tkW, getD_set _ _ _ _ (by rw [tkW_length]; exact hd), List.take_succ_eq_append_getElem hi']
    simp only [List.mem_append, List.mem_singleton]
    have e : ds.getD i 0 = ds[i] := by simp [hi']
    rw [e]
    split
    · rename_i h; subst h; simp
    · rename_i h
      rw [ih]
      constructor
      · rintro (h1 | h1)
        · exact .inl h1
        · exact .inr (.inl h1)
      · rintro (h1 | h1 | h1)
        · exact .inl h1
        · exact .inr h1
        · exact absurd h1.symm h
end Go.Proofs.Ytfiaciniikcacaa
