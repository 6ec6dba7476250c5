/-
  What holds of a pool whose buffers of the device's are just what is lent ('PInv'), and what Get, Put, Give and Take leave of it. No statement is proved here.
-/
import Derived.Test.YtbkfgidmjkbfmaaPoolC
namespace Go.Proofs.Ytbkfgidmjkbfmaa
open Go.RowKit Go.BigFrame
set_option linter.unusedVariables false
set_option linter.unusedSimpArgs false
set_option maxRecDepth 1000000
set_option maxHeartbeats 4000000

/-- A memory, a pool in it from 3 on, and a list of whose its buffers are; all of it made since w0. -/
structure PInv (w0 w : World) (bM bm bb bp bw bh size n k : Nat) (lv : Value) (l : List (Nat × Nat)) (bs ws : List UInt8) : Prop where
  mem : MemA w bM bm bb k lv l bs
  pool : PoolA w bp bm 3 size bw ws
  hld : w.heap[bh]? = some (.cells (ws.map b8).toArray 5)
  len : ws.length = n
  dev : ∀ b, In l b ↔ Dev 3 size ws b
  n1 : bb ≠ bw
  n2 : bb ≠ bh
  n3 : bw ≠ bh
  b1 : w0.heap.size ≤ bm
  b2 : w0.heap.size ≤ bw
  b3 : w0.heap.size ≤ bh
  own : ∀ g, lv.ownBlock = some g → w0.heap.size ≤ g
  fr : Fr [] w0 w
  fit : 3 + n * size ≤ k
  s1 : 1 ≤ size
  s2 : size ≤ 64
  c1 : n ≤ 16

theorem PInv.fr0 {w0 w w' : World} {bM bm bb bp bw bh size n k : Nat} {lv : Value} {l : List (Nat × Nat)} {bs ws : List UInt8} (h : PInv w0 w bM bm bb bp bw bh size n k lv l bs ws) (hF : Fr [] w w') : PInv w0 w' bM bm bb bp bw bh size n k lv l bs ws :=
  ⟨h.mem.fr0 hF, h.pool.fr hF (by simp) (by simp), hF.heap h.hld (by simp), h.len, h.dev, h.n1, h.n2, h.n3, h.b1, h.b2, h.b3, h.own, h.fr.trans0 hF, h.fit, h.s1, h.s2, h.c1⟩

/-- A buffer of the pool is another one's, and the list does not say so yet. -/
def PMid (w0 w' : World) (bM bm bb bp bw bh size n k : Nat) (bs ws : List UInt8) (i : Nat) (x : UInt8) : Prop :=
  ∃ lv' l', MemA w' bM bm bb k lv' l' bs ∧ PoolA w' bp bm 3 size bw (ws.set i x) ∧ w'.heap[bh]? = some (.cells (ws.map b8).toArray 5) ∧ (∀ b, In l' b ↔ Dev 3 size (ws.set i x) b) ∧ (∀ g, lv'.ownBlock = some g → w0.heap.size ≤ g) ∧ Fr [] w0 w'
/-- Some of it. -/
def PKeeps (w0 w : World) (bM bm bb bp bw bh size n k : Nat) : Prop := ∃ lv l bs ws, PInv w0 w bM bm bb bp bw bh size n k lv l bs ws

theorem PMid.store {w0 w w' : World} {bM bm bb bp bw bh size n k : Nat} {lv : Value} {l : List (Nat × Nat)} {bs ws : List UInt8} {i : Nat} {x : UInt8} (h : PInv w0 w bM bm bb bp bw bh size n k lv l bs ws) (hm : PMid w0 w' bM bm bb bp bw bh size n k bs ws i x) :
    PKeeps w0 (w'.setCell ⟨bh, i, none⟩ (.int .u8 (x.toNat : Nat))) bM bm bb bp bw bh size n k := by
  obtain ⟨lv', l', h1, h2, h3, h4, h5, h6⟩ := hm
  have hS : Fr [bh] w' (w'.setCell ⟨bh, i, none⟩ (.int .u8 (x.toNat : Nat))) := (Fr.refl [bh] w').setCell (by simp) _
  have o1 : ∀ g, lv'.ownBlock = some g → g ≠ bh := Row.ne h1.mid.row h3 (by decide)
  have o2 : bM ≠ bh := by intro e; subst e; have := h1.top; rw [h3] at this; simp at this
  have o3 : bm ≠ bh := by intro e; subst e; have := h1.mid.blk; rw [h3] at this; simp at this
  have o4 : bp ≠ bh := by intro e; subst e; have := h2.blk; rw [h3] at this; simp at this
  exact ⟨lv', l', bs, ws.set i x, h1.fr hS (by simpa using o2) (by simpa using o3) (by simpa using h.n2) (fun g hg => by simpa using o1 g hg), h2.fr hS (by simpa using o4) (by simpa using h.n3), setW h3 i x, by rw [List.length_set]; exact h.len, h4,
    h.n1, h.n2, h.n3, h.b1, h.b2, h.b3, h5, h6.trans hS (fun t ht => .inr (by simp at ht; subst ht; exact h.b3)), h.fit, h.s1, h.s2, h.c1⟩
theorem PMid.cell {w0 w' : World} {bM bm bb bp bw bh size n k : Nat} {bs ws : List UInt8} {i : Nat} {x : UInt8} (hm : PMid w0 w' bM bm bb bp bw bh size n k bs ws i x) (j : Nat) (hj : j < ws.length) : w'.cell? ⟨bh, j, none⟩ = some (.int .u8 ((ws[j]).toNat : Nat)) := by
  obtain ⟨lv', l', h1, h2, h3, h4, h5, h6⟩ := hm
  exact who_cell h3 j hj
theorem PMid.fz {w0 w' : World} {bM bm bb bp bw bh size n k : Nat} {bs ws : List UInt8} {i : Nat} {x : UInt8} (hm : PMid w0 w' bM bm bb bp bw bh size n k bs ws i x) (j : Nat) : w'.frozen? ⟨bh, j, none⟩ = false := by
  obtain ⟨lv', l', h1, h2, h3, h4, h5, h6⟩ := hm
  exact frozen_of_heap h3

theorem At.of {size n i : Nat} (h1 : 1 ≤ size) (hi : i < n) : At 3 size n (3 + i * size) ∧ (3 + i * size - 3) / size = i := by
  have e : 3 + i * size - 3 = i * size := by omega
  unfold At
  rw [e, Nat.mul_mod_left, Nat.mul_div_cancel _ (by omega)]
  exact ⟨⟨by omega, rfl, hi⟩, rfl⟩
theorem PInv.top {w0 w : World} {bM bm bb bp bw bh size n k : Nat} {lv : Value} {l : List (Nat × Nat)} {bs ws : List UInt8} (h : PInv w0 w bM bm bb bp bw bh size n k lv l bs ws) {i : Nat} (hi : i < n) : 3 + i * size + size ≤ 3 + n * size ∧ n * size ≤ 1024 := by
  have a := Nat.mul_le_mul_right size (show i + 1 ≤ n from hi)
  have b := Nat.mul_le_mul h.c1 h.s2
  rw [Nat.succ_mul] at a
  omega

theorem get_inv (w0 w : World) (bM bm bb bp bw bh size n k : Nat) (lv : Value) (l : List (Nat × Nat)) (bs ws : List UInt8) (h : PInv w0 w bM bm bb bp bw bh size n k lv l bs ws) :
    Calls Try.prog 28 #[.pointer (some ⟨bp, 0, none⟩)] w fun e w' => (∃ i : Nat, i < n ∧ ws[i]? = some 0 ∧ e = .returned (.tuple #[.int .u32 ((3 + i * size : Nat) : Int), .int .i64 0]) ∧ PMid w0 w' bM bm bb bp bw bh size n k bs ws i 1) ∨
      (frees ws = 0 ∧ e = .returned (.tuple #[.int .u32 0, .int .i64 6]) ∧ Fr [] w w') := by
  have hc := h.c1
  have hle := h.len
  have hb := Nat.mul_le_mul h.c1 h.s2
  refine (pget_any bp bm 3 size bw ws w h.pool (by omega) (by rw [hle]; omega)).mono ?_
  rintro e w' (⟨i, hi, h0, _, he, hP, hF⟩ | ⟨hno, he, hF⟩)
  · refine .inl ⟨i, by omega, h0, he, lv, l, ?_, hP, hF.heap h.hld (by simpa using Ne.symm h.n3), fun b => ?_, h.own, h.fr.trans hF (fun t ht => .inr (by simp at ht; subst ht; exact h.b2))⟩
    · have ap := PoolA.apart h.mem h.pool
      exact h.mem.fr hF (by simpa using Ne.symm ap.2.2.1) (by simpa using Ne.symm ap.2.1) (by simpa using h.n1) (fun g hg => by simpa using (ap.2.2.2.2.2 g hg).2)
    · rw [h.dev b, Dev.set_same 1 (by decide) (by rw [h0]; decide)]
  · refine .inr ⟨?_, he, hF⟩
    unfold frees
    rw [List.countP_eq_zero]
    intro a ha h2
    obtain ⟨j, hj⟩ := List.getElem?_of_mem ha
    exact hno j (by rw [hj]; simpa using h2)
theorem put_inv (w0 w : World) (bM bm bb bp bw bh size n k i : Nat) (lv : Value) (l : List (Nat × Nat)) (bs ws : List UInt8) (h : PInv w0 w bM bm bb bp bw bh size n k lv l bs ws) (hi : i < n) :
    Calls Try.prog 29 #[.pointer (some ⟨bp, 0, none⟩), .int .u32 ((3 + i * size : Nat) : Int)] w fun e w' => (ws[i]? = some 1 ∧ e = .returned (.int .i64 0) ∧ PMid w0 w' bM bm bb bp bw bh size n k bs ws i 0) ∨
      (ws[i]? ≠ some 1 ∧ e = .returned (.int .i64 3) ∧ Fr [] w w') := by
  have hc := h.c1
  have hs := h.s2
  have hle := h.len
  have ht := h.top hi
  have hA := At.of (size := size) (n := ws.length) h.s1 (show i < ws.length by omega)
  refine (pput_any bp bm 3 size bw (3 + i * size) ws w h.pool (by omega) (by omega) h.s1 (by omega) (by omega)).mono ?_
  rintro e w' (⟨_, h1, he, hP, hF⟩ | ⟨_, h1, he, hF⟩ | ⟨h1, _⟩)
  · rw [hA.2] at h1 hP
    refine .inl ⟨h1, he, lv, l, ?_, hP, hF.heap h.hld (by simpa using Ne.symm h.n3), fun b => ?_, h.own, h.fr.trans hF (fun t ht => .inr (by simp at ht; subst ht; exact h.b2))⟩
    · have ap := PoolA.apart h.mem h.pool
      exact h.mem.fr hF (by simpa using Ne.symm ap.2.2.1) (by simpa using Ne.symm ap.2.1) (by simpa using h.n1) (fun g hg => by simpa using (ap.2.2.2.2.2 g hg).2)
    · rw [h.dev b, Dev.set_same 0 (by decide) (by rw [h1]; decide)]
  · rw [hA.2] at h1
    exact .inr ⟨h1, he, hF⟩
  · exact absurd hA.1 h1
theorem own_up {w0 w : World} {lv lv' : Value} (hF : Fr [] w0 w) (hO : ∀ g, lv.ownBlock = some g → w0.heap.size ≤ g) (h : ∀ g, lv'.ownBlock = some g → lo w lv ≤ g) : ∀ g, lv'.ownBlock = some g → w0.heap.size ≤ g := by
  intro g hg
  refine Nat.le_trans ?_ (h g hg)
  unfold lo
  cases e : lv.ownBlock with
  | none => exact hF.size
  | some g' => exact hO g' e
theorem PInv.after {w0 w w' : World} {bM bm bb bp bw bh size n k : Nat} {lv : Value} {l : List (Nat × Nat)} {bs ws : List UInt8} (h : PInv w0 w bM bm bb bp bw bh size n k lv l bs ws) (hF : Fr (bw :: bm :: lv.ownBlock.toList) w w') : w'.heap[bh]? = some (.cells (ws.map b8).toArray 5) ∧ Fr [] w0 w' := by
  have o1 : ∀ g, lv.ownBlock = some g → g ≠ bh := Row.ne h.mem.mid.row h.hld (by decide)
  have o3 : bh ≠ bm := by intro e; subst e; have := h.mem.mid.blk; rw [h.hld] at this; simp at this
  refine ⟨hF.heap h.hld ?_, h.fr.trans hF (fun t ht => .inr ?_)⟩
  · simp only [List.mem_cons, Option.mem_toList, not_or]
    exact ⟨Ne.symm h.n3, o3, fun e => o1 _ e rfl⟩
  · simp only [List.mem_cons, Option.mem_toList] at ht
    rcases ht with rfl | rfl | ht
    · exact h.b2
    · exact h.b1
    · exact h.own t ht
theorem give_inv (w0 w : World) (bM bm bb bp bw bh size n k i : Nat) (lv : Value) (l : List (Nat × Nat)) (bs ws : List UInt8) (h : PInv w0 w bM bm bb bp bw bh size n k lv l bs ws) (hi : i < n) :
    Calls Try.prog 30 #[.pointer (some ⟨bp, 0, none⟩), .int .u32 ((3 + i * size : Nat) : Int)] w fun e w' => (ws[i]? = some 1 ∧ e = .returned (.int .i64 0) ∧ PMid w0 w' bM bm bb bp bw bh size n k bs ws i 2) ∨
      (ws[i]? ≠ some 1 ∧ e = .returned (.int .i64 3) ∧ Fr [] w w') := by
  have hc := h.c1
  have hs := h.s2
  have hle := h.len
  have ht := h.top hi
  have hk := h.fit
  have hA := At.of (size := size) (n := ws.length) h.s1 (show i < ws.length by omega)
  refine (pgive_any bM bp bm bb k 3 size bw (3 + i * size) ws lv l bs w h.mem h.pool h.n1 (by omega) (by omega) h.s1 (by omega) (by omega)).mono ?_
  rintro e w' ⟨c, he, ⟨_, h1, _⟩ | ⟨hc3, _, h1, hF⟩ | ⟨_, h1, ⟨_, h2⟩ | ⟨_, _, b, h2, h3, h4⟩, _⟩ | ⟨hc0, _, h1, _, lv', l', hM, hP, hI, hL, hF⟩⟩
  · exact absurd hA.1 h1
  · rw [hA.2] at h1
    exact .inr ⟨h1, by rw [he, hc3], hF⟩
  · omega
  · rw [hA.2] at h1
    obtain ⟨j, g1, g2, g3⟩ := (h.dev b).1 h4
    obtain rfl := same_row h2 h3 g2 g3
    rw [g1] at h1
    cases h1
  · rw [hA.2] at h1 hP
    have af := h.after hF
    refine .inl ⟨h1, by rw [he, hc0], lv', l', hM, hP, af.1, fun b => ?_, own_up h.fr h.own hL, af.2⟩
    rw [hI, Dev.set_in (by omega), h.dev b]
theorem take_inv (w0 w : World) (bM bm bb bp bw bh size n k i : Nat) (lv : Value) (l : List (Nat × Nat)) (bs ws : List UInt8) (h : PInv w0 w bM bm bb bp bw bh size n k lv l bs ws) (hi : i < n) :
    Calls Try.prog 31 #[.pointer (some ⟨bp, 0, none⟩), .int .u32 ((3 + i * size : Nat) : Int)] w fun e w' => (ws[i]? = some 2 ∧ e = .returned (.int .i64 0) ∧ PMid w0 w' bM bm bb bp bw bh size n k bs ws i 1) ∨
      (ws[i]? ≠ some 2 ∧ e = .returned (.int .i64 3) ∧ Fr [] w w') := by
  have hc := h.c1
  have hs := h.s2
  have hle := h.len
  have ht := h.top hi
  have hk := h.fit
  have hA := At.of (size := size) (n := ws.length) h.s1 (show i < ws.length by omega)
  refine (ptake_any bM bp bm bb k 3 size bw (3 + i * size) ws lv l bs w h.mem h.pool h.n1 (by omega) (by omega) h.s1 (by omega) (by omega)).mono ?_
  rintro e w' ⟨c, he, ⟨_, h1, _⟩ | ⟨hc3, _, h1, hF⟩ | ⟨_, h1, ⟨_, h2⟩ | ⟨_, _, h4⟩, _⟩ | ⟨hc0, _, h1, _, lv', l', hM, hP, hI, hL, hF⟩⟩
  · exact absurd hA.1 h1
  · rw [hA.2] at h1
    exact .inr ⟨h1, by rw [he, hc3], hF⟩
  · omega
  · rw [hA.2] at h1
    exact absurd (fun b h2 h3 => (h.dev b).2 ⟨i, h1, h2, h3⟩) h4
  · rw [hA.2] at h1 hP
    have af := h.after hF
    refine .inl ⟨h1, by rw [he, hc0], lv', l', hM, hP, af.1, fun b => ?_, own_up h.fr h.own hL, af.2⟩
    rw [hI, Dev.set_out 1 (by decide), h.dev b]
/-- All bytes that are lent are those of the buffers that are the device's. -/
theorem PInv.sum {w0 w : World} {bM bm bb bp bw bh size n k : Nat} {lv : Value} {l : List (Nat × Nat)} {bs ws : List UInt8} (h : PInv w0 w bM bm bb bp bw bh size n k lv l bs ws) : total l = givens ws * size := by
  have a := h.mem.mid.can.has.congr h.dev
  exact a.unique (Dev.has size ws 3 k (by rw [h.len]; exact h.fit))
end Go.Proofs.Ytbkfgidmjkbfmaa
