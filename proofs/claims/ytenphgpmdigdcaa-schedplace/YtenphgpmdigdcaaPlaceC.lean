/-
  The walk of the statement SchedPlace. No statement is proved here.
-/
import Derived.Test.YtenphgpmdigdcaaPlaceB
import Derived.Test.YtenphgpmdigdcaaFairC
namespace Go.Proofs.Ytenphgpmdigdcaa
open Go.RowKit Go.BigFrame Go.MapKept
set_option linter.unusedVariables false
set_option linter.unusedSimpArgs false
set_option maxRecDepth 1000000
set_option maxHeartbeats 4000000

def u8s (G : List Nat) : Array Value := (G.map fun k => Value.int .u8 (k : Nat)).toArray
def gkf (f : Nat → Nat) (k : Nat) : List Nat := (List.range 6).map fun j => if j < k then f j else 0
theorem gkf_zero (f : Nat → Nat) : u8s (gkf f 0) = #[.int .u8 0, .int .u8 0, .int .u8 0, .int .u8 0, .int .u8 0, .int .u8 0] := rfl
theorem gkf_succ (f : Nat → Nat) (k : Nat) (hk : k < 6) : gkf f (k + 1) = (gkf f k).set k (f k) := by
  have : k = 0 ∨ k = 1 ∨ k = 2 ∨ k = 3 ∨ k = 4 ∨ k = 5 := by omega
  rcases this with rfl | rfl | rfl | rfl | rfl | rfl <;> rfl
theorem gkf_get (f : Nat → Nat) (k : Nat) (hk : k < 6) : (gkf f 6).getD k 0 = f k := by
  have : k = 0 ∨ k = 1 ∨ k = 2 ∨ k = 3 ∨ k = 4 ∨ k = 5 := by omega
  rcases this with rfl | rfl | rfl | rfl | rfl | rfl <;> rfl
theorem gkf_length (f : Nat → Nat) (k : Nat) : (gkf f k).length = 6 := by simp [gkf]
def RowAt (w : World) (gs : Nat) (S : List Nat) : Prop := w.heap[gs]? = some (.cells (u8s S) 56)
theorem RowAt.cell {w : World} {gs : Nat} {S : List Nat} (h : RowAt w gs S) (i : Nat) (hi : i < S.length) : w.cell? ⟨gs, i, none⟩ = some (.int .u8 (S.getD i 0 : Nat)) :=
  cell_of_heap h (by simp [u8s, hi])
theorem RowAt.froz {w : World} {gs : Nat} {S : List Nat} (h : RowAt w gs S) (i : Nat) : w.frozen? ⟨gs, i, none⟩ = false := frozen_of_heap h
theorem RowAt.set {w : World} {gs : Nat} {S : List Nat} (h : RowAt w gs S) (i v : Nat) (z : Int) (hz : z = (v : Nat)) : RowAt (w.setCell ⟨gs, i, none⟩ (.int .u8 z)) gs (S.set i v) := by
  subst hz
  unfold RowAt at h ⊢
  simp [World.setCell, Array.getElem?_modify, h, u8s, List.map_set]
/-- What stands while a step is played: its block, and the row of the states before. -/
structure PB (w wr : World) (sb p m xb bb : Nat) (s : St) (G : List Nat) (R W : List Tk) (X : Option Tk) : Prop where
  pl : PL wr w.heap.size sb p m R W X
  bx : wr.heap[xb]? = some (.cells #[.int .i64 s.d, .int .u32 ((s.i % 6 : Nat) : Nat), .int .u64 (s.n : Nat), .int .i64 s.m] 37)
  br : RowAt wr bb G
  low : w.heap.size ≤ xb ∧ w.heap.size ≤ bb
  bel : Below w.heap.size w wr
section
variable {w wr w' : World} {sb p m xb bb : Nat} {s : St} {G : List Nat} {R W : List Tk} {X : Option Tk}
theorem PB.kq (h : PB w wr sb p m xb bb s G R W X) {m' : Nat} {R' W' : List Tk} {X' : Option Tk} (hs : PL w' w.heap.size sb p m' R' W' X') (hK : Kq w.heap.size wr w') : PB w w' sb p m' xb bb s G R' W' X' :=
  ⟨hs, hK.heap h.bx (by decide), hK.heap h.br (by decide), h.low, h.bel.trans (hK.below h.bel.size)⟩
theorem PB.fr0 (h : PB w wr sb p m xb bb s G R W X) (hF : Fr [] wr w') : PB w w' sb p m xb bb s G R W X := h.kq (h.pl.fr0 hF) hF.kq0
theorem PB.set (h : PB w wr sb p m xb bb s G R W X) (i v : Nat) (z : Int) (hz : z = (v : Nat)) : PB w (wr.setCell ⟨bb, i, none⟩ (.int .u8 z)) sb p m xb bb s (G.set i v) R W X := by
  have hF : Fr [bb] wr (wr.setCell ⟨bb, i, none⟩ (.int .u8 z)) := (Fr.refl _ _).setCell (by simp) _
  have hx : xb ∉ [bb] := by
    have := blk_ne h.bx h.br (by decide)
    simpa using this
  obtain ⟨now, q1, q2⟩ := h.pl.ss
  exact ⟨⟨⟨now, q1, q2.frO hF (by intro t ht; simp at ht; subst ht; exact .inr ⟨_, _, _, h.br, by decide⟩)⟩, h.pl.ids, h.pl.pas⟩, hF.heap h.bx hx, h.br.set i v z hz, h.low, h.bel.setCell h.low.2 _⟩
theorem PL.made (h : PL wr w.heap.size sb p m R W X) (hB : Below w.heap.size w wr) (D : Int) (I N : Nat) (M : Int) (f : Nat → Nat) :
    PB w ((wr.alloc (.cells #[.int .i64 D, .int .u32 ((I : Int) % 6), .int .u64 (N : Nat), .int .i64 M] 37)).alloc (.cells #[.int .u8 0, .int .u8 0, .int .u8 0, .int .u8 0, .int .u8 0, .int .u8 0] 56)) sb p m wr.heap.size (wr.heap.size + 1) ⟨D, I, N, M⟩ (gkf f 0) R W X := by
  have hF : Fr [] wr ((wr.alloc (.cells #[.int .i64 D, .int .u32 ((I : Int) % 6), .int .u64 (N : Nat), .int .i64 M] 37)).alloc (.cells #[.int .u8 0, .int .u8 0, .int .u8 0, .int .u8 0, .int .u8 0, .int .u8 0] 56)) := ((Fr.refl _ _).alloc _).alloc _
  refine ⟨h.fr0 hF, ?_, ?_, ⟨hB.size, by have := hB.size; omega⟩, hB.trans (hF.kq0.below hB.size)⟩
  · rw [show (((I % 6 : Nat) : Nat) : Int) = (I : Int) % 6 by omega]
    exact ((Fr.refl [] _).alloc _).heap (heap_alloc_new wr _) (by simp)
  · have := heap_alloc_new (wr.alloc (.cells #[.int .i64 D, .int .u32 ((I : Int) % 6), .int .u64 (N : Nat), .int .i64 M] 37)) (.cells #[.int .u8 0, .int .u8 0, .int .u8 0, .int .u8 0, .int .u8 0, .int .u8 0] 56)
    rw [show (wr.alloc (.cells #[.int .i64 D, .int .u32 ((I : Int) % 6), .int .u64 (N : Nat), .int .i64 M] 37)).heap.size = wr.heap.size + 1 from Array.size_push _] at this
    exact this
theorem PB.xs (h : PB w wr sb p m xb bb s G R W X) : wr.cell? ⟨xb, 0, none⟩ = some (.int .i64 s.d) ∧ wr.cell? ⟨xb, 1, none⟩ = some (.int .u32 ((s.i % 6 : Nat) : Nat)) ∧ wr.cell? ⟨xb, 2, none⟩ = some (.int .u64 (s.n : Nat)) ∧ wr.cell? ⟨xb, 3, none⟩ = some (.int .i64 s.m) :=
  ⟨cell_of_heap h.bx rfl, cell_of_heap h.bx rfl, cell_of_heap h.bx rfl, cell_of_heap h.bx rfl⟩
end
/-- What a step leaves. -/
def PA (w wx : World) (sb p m xb bb : Nat) (s : St) (G : List Nat) (W : List Tk) : Prop := ∃ R' W' X', PB w wx sb p m xb bb s G R' W' X' ∧ Goes (decide (s.d = 5 ∨ s.d = 6)) W R' W'
theorem PB.left {w wr w' : World} {sb p m m' xb bb : Nat} {s : St} {G : List Nat} {R W : List Tk} {X : Option Tk} {k : Bool} (h : PB w wr sb p m xb bb s G R W X) (hL : Hid (Left wr w' w.heap.size sb p m' k W)) (hm : m' ≤ m + 10) (hk : k = false ∨ k = decide (s.d = 5 ∨ s.d = 6)) : Hid (PA w w' sb p (m + 10) xb bb s G W) := by
  obtain ⟨R', W', X', h1, h2, h3⟩ := hL.out
  refine hid ⟨R', W', X', h.kq (h1.mono hm) h3, fun t ht => ?_⟩
  rcases hk with rfl | rfl
  · rcases h2 t ht with g | ⟨g, _⟩
    · exact .inl g
    · cases g
  · exact h2 t ht
theorem PA.xs {w wx : World} {sb p m xb bb : Nat} {s : St} {G : List Nat} {W : List Tk} (h : PA w wx sb p m xb bb s G W) : wx.cell? ⟨xb, 0, none⟩ = some (.int .i64 s.d) ∧ wx.cell? ⟨xb, 1, none⟩ = some (.int .u32 ((s.i % 6 : Nat) : Nat)) ∧ wx.cell? ⟨xb, 2, none⟩ = some (.int .u64 (s.n : Nat)) ∧ wx.cell? ⟨xb, 3, none⟩ = some (.int .i64 s.m) := by
  obtain ⟨R', W', X', h1, _⟩ := h
  exact h1.xs
section
variable {w wr w' : World} {sb p m xb bb : Nat} {s : St} {G : List Nat} {R W : List Tk} {X : Option Tk}
theorem pb_wait {q6 : Nat} (h6 : q6 = s.i % 6) (h : PB w wr sb p m xb bb s G R W X) (hF : Fr [] wr w') (z u : Int) (hz : 0 ≤ z ∧ z < 10) (hu : 0 ≤ u ∧ u < 1000000) : Calls Try.prog 20 #[.pointer (some ⟨sb, 0, none⟩), .int .u32 z, .int .u64 u] w' fun e w'' => ∃ c : Int, e = .returned (.int .i64 c) ∧ (w''.cell? ⟨xb, 0, none⟩ = some (.int .i64 s.d) ∧ w''.cell? ⟨xb, 1, none⟩ = some (.int .u32 (q6 : Nat)) ∧ w''.cell? ⟨xb, 2, none⟩ = some (.int .u64 (s.n : Nat)) ∧ w''.cell? ⟨xb, 3, none⟩ = some (.int .i64 s.m)) ∧ Hid (PA w w'' sb p (m + 10) xb bb s G W) := by
  obtain ⟨z, rfl⟩ : ∃ t : Nat, z = (t : Nat) := ⟨z.toNat, by omega⟩
  obtain ⟨u, rfl⟩ : ∃ t : Nat, u = (t : Nat) := ⟨u.toNat, by omega⟩
  refine (pl_wait (h.fr0 hF).pl z u (by omega) (by omega)).mono ?_
  rintro e w'' ⟨⟨c, rfl⟩, hL⟩
  have := (h.fr0 hF).left hL (by omega) (.inl rfl)
  subst h6
  exact ⟨c, rfl, this.out.xs, this⟩
theorem pb_tick {q6 : Nat} (h6 : q6 = s.i % 6) (h : PB w wr sb p m xb bb s G R W X) (hF : Fr [] wr w') (u : Int) (hu : 0 ≤ u ∧ u ≤ m + 10) (hm : m ≤ 1000000) (hd : s.d = 6) : Calls Try.prog 19 #[.pointer (some ⟨sb, 0, none⟩), .int .u64 u] w' fun e w'' => ∃ c : Int, e = .returned (.int .i64 c) ∧ (w''.cell? ⟨xb, 0, none⟩ = some (.int .i64 s.d) ∧ w''.cell? ⟨xb, 1, none⟩ = some (.int .u32 (q6 : Nat)) ∧ w''.cell? ⟨xb, 2, none⟩ = some (.int .u64 (s.n : Nat)) ∧ w''.cell? ⟨xb, 3, none⟩ = some (.int .i64 s.m)) ∧ Hid (PA w w'' sb p (m + 10) xb bb s G W) := by
  obtain ⟨u, rfl⟩ : ∃ t : Nat, u = (t : Nat) := ⟨u.toNat, by omega⟩
  refine (pl_tick (h.fr0 hF).pl u (by omega) hm).mono ?_
  rintro e w'' ⟨⟨c, rfl⟩, hL⟩
  have := (h.fr0 hF).left hL (by omega) (.inr (by simp [hd]))
  subst h6
  exact ⟨c, rfl, this.out.xs, this⟩
theorem pb_wake (h : PB w wr sb p m xb bb s G R W X) (z most : Int) (hz : 0 ≤ z) (hd : s.d = 5) : Calls Try.prog 22 #[.pointer (some ⟨sb, 0, none⟩), .int .u32 z, .int .i64 most] wr fun e w'' => ∃ c : Int, e = .returned (.int .i64 c) ∧ (w''.cell? ⟨xb, 0, none⟩ = some (.int .i64 s.d) ∧ w''.cell? ⟨xb, 1, none⟩ = some (.int .u32 ((s.i % 6 : Nat) : Nat)) ∧ w''.cell? ⟨xb, 2, none⟩ = some (.int .u64 (s.n : Nat)) ∧ w''.cell? ⟨xb, 3, none⟩ = some (.int .i64 s.m)) ∧ Hid (PA w w'' sb p (m + 10) xb bb s G W) := by
  obtain ⟨z, rfl⟩ : ∃ t : Nat, z = (t : Nat) := ⟨z.toNat, by omega⟩
  refine (pl_wake h.pl z most).mono ?_
  rintro e w'' ⟨⟨c, rfl⟩, hL⟩
  have := h.left hL (by omega) (.inr (by simp [hd]))
  exact ⟨c, rfl, this.out.xs, this⟩
theorem pb_spawn (h : PB w wr sb p m xb bb s G R W X) (z : Nat) (hz : z < 6) : Calls Try.prog 17 #[.pointer (some ⟨sb, 0, none⟩), .int .u32 (z : Nat)] wr fun e w'' => ∃ c : Int, e = .returned (.int .i64 c) ∧ (w''.cell? ⟨xb, 0, none⟩ = some (.int .i64 s.d) ∧ w''.cell? ⟨xb, 1, none⟩ = some (.int .u32 ((s.i % 6 : Nat) : Nat)) ∧ w''.cell? ⟨xb, 2, none⟩ = some (.int .u64 (s.n : Nat)) ∧ w''.cell? ⟨xb, 3, none⟩ = some (.int .i64 s.m)) ∧ Hid (PA w w'' sb p (m + 10) xb bb s G W) := by
  refine (pl_spawn h.pl z hz).mono ?_
  rintro e w'' ⟨⟨c, rfl⟩, hL⟩
  have := h.left hL (by omega) (.inl rfl)
  exact ⟨c, rfl, this.out.xs, this⟩
theorem pb_yield (h : PB w wr sb p m xb bb s G R W X) : Calls Try.prog 21 #[.pointer (some ⟨sb, 0, none⟩)] wr fun e w'' => ∃ c : Int, e = .returned (.int .i64 c) ∧ (w''.cell? ⟨xb, 0, none⟩ = some (.int .i64 s.d) ∧ w''.cell? ⟨xb, 1, none⟩ = some (.int .u32 ((s.i % 6 : Nat) : Nat)) ∧ w''.cell? ⟨xb, 2, none⟩ = some (.int .u64 (s.n : Nat)) ∧ w''.cell? ⟨xb, 3, none⟩ = some (.int .i64 s.m)) ∧ Hid (PA w w'' sb p (m + 10) xb bb s G W) := by
  refine (pl_yield h.pl).mono ?_
  rintro e w'' ⟨⟨c, rfl⟩, hL⟩
  have := h.left hL (by omega) (.inl rfl)
  exact ⟨c, rfl, this.out.xs, this⟩
theorem pb_end (h : PB w wr sb p m xb bb s G R W X) : Calls Try.prog 24 #[.pointer (some ⟨sb, 0, none⟩)] wr fun e w'' => ∃ c : Int, e = .returned (.int .i64 c) ∧ (w''.cell? ⟨xb, 0, none⟩ = some (.int .i64 s.d) ∧ w''.cell? ⟨xb, 1, none⟩ = some (.int .u32 ((s.i % 6 : Nat) : Nat)) ∧ w''.cell? ⟨xb, 2, none⟩ = some (.int .u64 (s.n : Nat)) ∧ w''.cell? ⟨xb, 3, none⟩ = some (.int .i64 s.m)) ∧ Hid (PA w w'' sb p (m + 10) xb bb s G W) := by
  refine (pl_end h.pl).mono ?_
  rintro e w'' ⟨⟨c, rfl⟩, hL⟩
  have := h.left hL (by omega) (.inl rfl)
  exact ⟨c, rfl, this.out.xs, this⟩
theorem pb_pick (h : PB w wr sb p m xb bb s G R W X) (n : Nat) (hn : n < 18446744073709551616) (hm : m ≤ 100000) : Calls Try.prog 18 #[.pointer (some ⟨sb, 0, none⟩), .int .u64 (n : Nat)] wr fun e w'' => ∃ (a : Nat) (c : Int), e = .returned (.tuple #[.int .u32 (a : Nat), .int .i64 c]) ∧ (w''.cell? ⟨xb, 0, none⟩ = some (.int .i64 s.d) ∧ w''.cell? ⟨xb, 1, none⟩ = some (.int .u32 ((s.i % 6 : Nat) : Nat)) ∧ w''.cell? ⟨xb, 2, none⟩ = some (.int .u64 (s.n : Nat)) ∧ w''.cell? ⟨xb, 3, none⟩ = some (.int .i64 s.m)) ∧ Hid (PA w w'' sb p (m + 10) xb bb s G W) := by
  refine (pl_pick h.pl n hn hm).mono ?_
  rintro e w'' ⟨⟨a, c, rfl⟩, hL⟩
  have := h.left hL (by omega) (.inl rfl)
  exact ⟨a, c, rfl, this.out.xs, this⟩
theorem PB.idle (h : PB w wr sb p m xb bb s G R W X) : Hid (PA w wr sb p (m + 10) xb bb s G W) := h.left (hid (h.pl.stay false (Nat.le_refl _))) (by omega) (.inl rfl)
end
theorem row32 {w : World} {B : Nat} {v : Value} {ks : List Nat} (h : Own32 w B v ks) : ∃ pr cap, v = .slice pr ks.length cap ∧ ∀ i (hi : i < ks.length), ∃ g, pr = some ⟨g, 0, none⟩ ∧ w.cell? ⟨g, i, none⟩ = some (.int .u32 (ks[i] : Nat)) := by
  rcases h.2 with ⟨h1, h2⟩ | ⟨g, cap, cur, h1, _⟩
  · refine ⟨none, 0, by rw [h1, h2], fun i hi => by omega⟩
  · subst h1
    exact ⟨some ⟨g, 0, none⟩, cap, rfl, fun i hi => ⟨g, rfl, h.cell i hi⟩⟩
theorem schedPlace_walk (a : Nat) (ha : a ≤ 255) (v : Value) (len : Nat) (F : Nat → St) (w : World) (hS : Steps w v len F) :
    Calls Try.prog 5 #[.int .u8 (a : Nat), v] w fun e w' => e = .returned (.bool true) ∧ Below w.heap.size w w' := by
  obtain ⟨pv, cv, hv⟩ : ∃ p c, v = .slice p len c := by
    rcases hS.2 with ⟨p, c, h1, h2⟩ | ⟨b, o, c, h1, _⟩
    · exact ⟨p, c, by rw [h1, h2]⟩
    · exact ⟨_, c, h1⟩
  subst hv
  by_cases hl : 300 < len
  · have hl' : (300 : Int) < (len : Int) := by omega
    clear hS
    go_enter Try.func5, Try.ntmps5
    go_wp2_with (go_at_call 7; refine (works_any _).mono ?_; rintro e w6 ⟨rfl, hK6⟩)
    go_ret
    exact ⟨rfl, hK6.below (Nat.le_refl _)⟩
  · have hl' : ¬ (300 : Int) < (len : Int) := by omega
    obtain ⟨p, hp⟩ : ∃ p, p = a + 1 := ⟨_, rfl⟩
    have e1 : (a : Int) + 1 = (p : Int) := by omega
    have hp1 : 1 ≤ p ∧ p ≤ 256 := by omega
    have HT := hid (p := _) (show ∀ i, i < len → ∃ g o, pv = some ⟨g, o, none⟩ ∧ StepAt w g (o + i * 4) (F i) from fun i hi => by
      rcases hS.2 with ⟨p, c, h1, h2⟩ | ⟨g, o, c, h1, h2⟩
      · omega
      · simp at h1; exact ⟨g, o, h1.1, h2 i hi⟩)
    clear hS hp
    go_enter Try.func5, Try.ntmps5
    go_wp2_with (go_at_call 8; refine (new_ok p _ hp1.1 (by omega)).mono ?_; rintro e w0 ⟨sb, rfl, hS0, hF0⟩)
    have K0 := hid (p := _) (show ∃ R W X, PL w0 w.heap.size sb p 0 R W X ∧ Below w.heap.size w w0 from ⟨[], [], none, ⟨⟨0, Nat.le_refl _, hS0 _ (Nat.le_refl _)⟩, by simp [all], by simp⟩, hF0.kq0.below (Nat.le_refl _)⟩)
    clear hS0 hF0
    go_loopg [7] len (fun gk q wr => ∃ j : Nat, j ≤ len ∧ gk = len - j ∧ q = .int .i64 j ∧ Hid (∃ R W X, PL wr w.heap.size sb p (10 * j) R W X ∧ Below w.heap.size w wr))
    case atStart => exact ⟨0, Nat.zero_le _, rfl, rfl, K0⟩
    case round =>
      obtain ⟨j, hj, hgk, rfl, K⟩ := hrel
      by_cases hlt : j < len
      · have hlt' : (j : Int) < (len : Int) := by omega
        obtain ⟨g, o, rfl, hst⟩ := HT.out j hlt
        obtain ⟨R, W, X, hPL, hBel⟩ := K.out
        obtain ⟨r0, r1, r2, r3⟩ := hst.cells hBel
        have hsi := hst.hi
        have hsn := hst.hn
        clear hst K
        generalize F j = s at *
        obtain ⟨D, I, N, M⟩ := s
        simp only at r0 r1 r2 r3 hsn hsi
        have tm1 : (I : Int).tmod 6 = (I : Int) % 6 := Int.tmod_eq_emod_of_nonneg (by omega)
        go_wp2_with fail
        have HB := hid (p := _) (hPL.made hBel D I N M (stt R W X))
        generalize (wr.alloc (.cells #[.int .i64 D, .int .u32 ((I : Int) % 6), .int .u64 (N : Nat), .int .i64 M] 37)).alloc (.cells #[.int .u8 0, .int .u8 0, .int .u8 0, .int .u8 0, .int .u8 0, .int .u8 0] 56) = w1 at *
        have HP := hid (p := _) hPL
        clear hPL hBel r0 r1 r2 r3 tm1
        obtain ⟨xb, hxb⟩ : ∃ xb, xb = wr.heap.size := ⟨_, rfl⟩
        rw [← hxb] at HB ⊢
        clear hxb
        go_loopg [10] 6 (fun gm q wl => ∃ k : Nat, k ≤ 6 ∧ gm = 6 - k ∧ q = .int .u32 k ∧ Hid (PB w wl sb p (10 * j) xb (xb + 1) ⟨D, I, N, M⟩ (gkf (stt R W X) k) R W X))
        case atStart => exact ⟨0, by omega, rfl, rfl, HB⟩
        case round =>
          obtain ⟨k, hk, hgm, rfl, HK⟩ := hrel
          by_cases hlt6 : k < 6
          · have hlt6' : (k : Int) < 6 := by omega
            have H23 := hid (p := _) (HK.out.pl.state k)
            have c9 := HK.out.br.cell k (by rw [gkf_length]; exact hlt6)
            have f9 := HK.out.br.froz k
            have HN := hid (p := _) (HK.out.set k (stt R W X k) _ rfl)
            rw [← gkf_succ _ _ hlt6] at HN
            generalize (gkf (stt R W X) k).getD k 0 = st0 at *
            generalize stt R W X k = st at *
            go_wp2_with (go_at_call 23; refine H23.out.mono ?_; rintro e w8 ⟨rfl, hw⟩; subst hw)
            go_roundg (6 - (k + 1))
            case measure => omega
            case rel => exact ⟨k + 1, by omega, rfl, by go_num, HN⟩
          · obtain rfl : k = 6 := by omega
            clear HB
            obtain ⟨x0, x1, x2, x3⟩ := HK.out.xs
            simp only at x0 x1 x2 x3
            obtain ⟨I6, hI6e⟩ : ∃ x, x = I % 6 := ⟨_, rfl⟩
            have hI6 : I6 < 6 := by omega
            rw [← hI6e] at x1
            have HI6 := hid (p := _) hI6e
            clear hI6e
            have tm1 : (I6 : Int).tmod 3 = (I6 : Int) % 3 := Int.tmod_eq_emod_of_nonneg (by omega)
            have tm2 : (N : Int).tmod 4 = (N : Int) % 4 := Int.tmod_eq_emod_of_nonneg (by omega)
            have tm3 : (N : Int).tmod 5 = (N : Int) % 5 := Int.tmod_eq_emod_of_nonneg (by omega)
            go_upto_block 4 with fail
            go_cut [] from 57 to 172 (fun wx => Hid (PA w wx sb p (10 * j + 10) xb (xb + 1) ⟨D, I, N, M⟩ (gkf (stt R W X) 6) W))
            case first =>
              by_cases hd0 : D = 0
              · subst hd0
                have HC := hid (p := _) (pb_spawn HK.out I6 hI6)
                clear HK
                go_wp2_with (go_at_call 17; refine HC.out.mono ?_; rintro e w5 ⟨c, rfl, _, KA⟩)
                all_goals
                  go_meet
                  exact KA
              · by_cases hd1 : D = 1
                · subst hd1
                  have HC := hid (p := _) (pb_pick HK.out N hsn (by omega))
                  clear HK
                  go_wp2_with (go_at_call 18; refine HC.out.mono ?_; rintro e w5 ⟨a1, c, rfl, _, KA⟩)
                  all_goals
                    go_meet
                    exact KA
                · by_cases hd2 : D = 2
                  · subst hd2
                    have HC := hid (p := _) (pb_yield HK.out)
                    clear HK
                    go_wp2_with (go_at_call 21; refine HC.out.mono ?_; rintro e w5 ⟨c, rfl, _, KA⟩)
                    all_goals
                      go_meet
                      exact KA
                  · by_cases hd3 : D = 3
                    · subst hd3
                      obtain ⟨now, hnw, hSS⟩ := HK.out.pl.ss
                      have H13 := hid (p := _) (fun V' (hF : Fr [] wr V') => now_any (hSS.fr0 hF))
                      have HC := hid (p := _) (fun V' (hF : Fr [] wr V') (z u : Int) (hz : 0 ≤ z ∧ z < 10) (hu : 0 ≤ u ∧ u < 1000000) => pb_wait HI6.out HK.out hF z u hz hu)
                      have hnw' : (now : Int) ≤ 10 * (j : Int) := by omega
                      have hj300 : (j : Int) ≤ 300 := by omega
                      have uu : IntKind.u64.wrap ((now : Int) + (N : Int) % 4) = (now : Int) + (N : Int) % 4 := by rw [IntKind.wrap_u64]; omega
                      clear HK hSS
                      go_wp2_with fail
                      go_region_held (fun V' => V'.cell? ⟨xb, 0, none⟩ = some (.int .i64 3) ∧ V'.cell? ⟨xb, 1, none⟩ = some (.int .u32 (I6 : Nat)) ∧ V'.cell? ⟨xb, 2, none⟩ = some (.int .u64 (N : Nat)) ∧ V'.cell? ⟨xb, 3, none⟩ = some (.int .i64 M)) (go_keep)
                        (first | (go_at_call 13; refine (H13.out _ ((Fr.refl [] _).drew)).mono ?_; rintro e w7 ⟨rfl, hw7⟩; subst hw7) | (go_at_call 20; refine (HC.out _ ((Fr.refl [] _).drew) _ _ ⟨by omega, by omega⟩ ⟨by omega, by omega⟩).mono ?_; rintro e w7 ⟨c, rfl, ⟨y0, y1, y2, y3⟩, KA⟩))
                      all_goals
                        go_wp2_with fail
                        go_meet
                        exact KA
                    · by_cases hd4 : D = 4
                      · subst hd4
                        have HC := hid (p := _) (pb_end HK.out)
                        clear HK
                        go_wp2_with (go_at_call 24; refine HC.out.mono ?_; rintro e w5 ⟨c, rfl, _, KA⟩)
                        all_goals
                          go_meet
                          exact KA
                      · by_cases hd5 : D = 5
                        · subst hd5
                          have HC := hid (p := _) (pb_wake HK.out ((I6 : Int) % 3) M (by omega) rfl)
                          clear HK
                          go_wp2_with (go_at_call 22; refine HC.out.mono ?_; rintro e w5 ⟨c, rfl, _, KA⟩)
                          all_goals
                            go_meet
                            exact KA
                        · by_cases hd6 : D = 6
                          · subst hd6
                            obtain ⟨now, hnw, hSS⟩ := HK.out.pl.ss
                            have H13 := hid (p := _) (fun V' (hF : Fr [] wr V') => now_any (hSS.fr0 hF))
                            have HC := hid (p := _) (fun V' (hF : Fr [] wr V') (u : Int) (hu : 0 ≤ u ∧ u ≤ ((10 * j : Nat) : Int) + 10) => pb_tick HI6.out HK.out hF u hu (by omega) rfl)
                            have hnw' : (now : Int) ≤ 10 * (j : Int) := by omega
                            have hj300 : (j : Int) ≤ 300 := by omega
                            have uu : IntKind.u64.wrap ((now : Int) + (N : Int) % 5) = (now : Int) + (N : Int) % 5 := by rw [IntKind.wrap_u64]; omega
                            clear HK hSS
                            go_wp2_with fail
                            go_region_held (fun V' => V'.cell? ⟨xb, 0, none⟩ = some (.int .i64 6) ∧ V'.cell? ⟨xb, 1, none⟩ = some (.int .u32 (I6 : Nat)) ∧ V'.cell? ⟨xb, 2, none⟩ = some (.int .u64 (N : Nat)) ∧ V'.cell? ⟨xb, 3, none⟩ = some (.int .i64 M)) (go_keep)
                              (first | (go_at_call 13; refine (H13.out _ ((Fr.refl [] _).drew)).mono ?_; rintro e w7 ⟨rfl, hw7⟩; subst hw7) | (go_at_call 19; refine (HC.out _ ((Fr.refl [] _).drew) _ ⟨by omega, by omega⟩).mono ?_; rintro e w7 ⟨c, rfl, ⟨y0, y1, y2, y3⟩, KA⟩))
                            all_goals
                              go_wp2_with fail
                              go_meet
                              exact KA
                          · have KA := HK.out.idle
                            go_wp2_with fail
                            go_meet
                            exact KA
            case rest =>
              obtain ⟨R', W', X', hPB, hGo⟩ := hcut.out
              obtain ⟨now, hnw, hSS⟩ := hPB.pl.ss
              have H12 := hid (p := _) (ready12_any hSS)
              have HPB := hid (p := _) hPB
              have HGo := hid (p := _) hGo
              have HPB0 := hid (p := _) HK.out
              clear hPB hGo hSS hcut HK x0 x1 x2 x3
              go_wp2_with (go_at_call 12; refine H12.out.mono ?_; rintro e w5 ⟨v, rfl, hOw, hF5⟩)
              have HPB5 := hid (p := _) (HPB.out.fr0 hF5)
              obtain ⟨x0, x1, x2, x3⟩ := HPB5.out.xs
              simp only at x0 x1 x2 x3
              have HBC := hid (p := _) (fun k (hk : k < 6) => (show w5.cell? ⟨xb + 1, k, none⟩ = some (.int .u8 (stt R W X k : Nat)) from by
                have := HPB5.out.br.cell k (by rw [gkf_length]; exact hk)
                rw [gkf_get _ _ hk] at this; exact this))
              obtain ⟨ks, hks⟩ : ∃ ks, ks = R'.map Tk.id := ⟨_, rfl⟩
              rw [← hks] at hOw
              obtain ⟨pr, cap, hv, hcl⟩ : ∃ pr cap, v = .slice pr ks.length cap ∧ ∀ i (hi : i < ks.length), ∃ g, pr = some ⟨g, 0, none⟩ ∧ w5.cell? ⟨g, i, none⟩ = some (.int .u32 (ks[i] : Nat)) := row32 hOw
              subst hv
              have HCL := hid (p := _) hcl
              have HKS := hid (p := _) hks
              have hkl : ks.length ≤ 6 := by
                have := HPB.out.pl.len
                rw [hks, List.length_map]; unfold all at this; simp at this; omega
              obtain ⟨n, hn⟩ : ∃ n, n = ks.length := ⟨_, rfl⟩
              rw [← hn] at hkl ⊢
              have HNL := hid (p := _) hn
              clear hcl hks hOw hn H12 hF5
              go_loopg [12, 13] 6 (fun gm q12 q13 wl => ∃ k : Nat, k ≤ 6 ∧ gm = 6 - k ∧ q12 = .int .i64 (rns X' k : Nat) ∧ q13 = .int .u32 k ∧ wl = w5)
              case atStart => exact ⟨0, by omega, rfl, by rw [rns_zero]; rfl, rfl, rfl⟩
              case round =>
                obtain ⟨k, hk6, hgm6, rfl, rfl, rfl⟩ := hrel
                by_cases hlt7 : k < 6
                · have hlt7' : (k : Int) < 6 := by omega
                  have H23 := hid (p := _) (HPB5.out.pl.state k)
                  have c9 := HBC.out k hlt7
                  have hlk := HPB5.out.pl.look k
                  have hrs := HPB5.out.pl.rns_succ k
                  have hgo := HPB0.out.pl.goes HPB5.out.pl HGo.out k
                  obtain ⟨st, hst⟩ : ∃ st, st = stt R' W' X' k := ⟨_, rfl⟩
                  obtain ⟨bf, hbf⟩ : ∃ bf, bf = stt R W X k := ⟨_, rfl⟩
                  have hrl := rns_le X' k
                  rw [← hst] at H23 hlk hrs hgo
                  rw [← hbf] at c9 hgo
                  rw [← HKS.out] at hlk
                  have HL := hid (p := _) (show (st = 1 ∧ ks.count k = 1) ∨ (st = 3 ∧ ks.count k = 0) ∨ (st = 2 ∧ ks.count k = 0) ∨ (st = 0 ∧ ks.count k = 0) from by
                    rcases hlk with h | h | h | h
                    · exact .inl ⟨h.1, h.2.1⟩
                    · exact .inr (.inl ⟨h.1, h.2.1⟩)
                    · exact .inr (.inr (.inl ⟨h.1, h.2.1⟩))
                    · exact .inr (.inr (.inr ⟨h.1, h.2.1⟩)))
                  have HRS := hid (p := _) hrs
                  have HG := hid (p := _) (show bf = 3 → st = 3 ∨ ((D = 5 ∨ D = 6) ∧ st = 1) from fun h => by simpa using hgo h)
                  obtain ⟨rr, hrr⟩ : ∃ rr, rr = rns X' k := ⟨_, rfl⟩
                  rw [← hrr] at hrl HRS ⊢
                  clear hlk hrs hgo hst hbf hrr
                  go_wp2_with (go_at_call 23; refine H23.out.mono ?_; rintro e w8 ⟨rfl, hw⟩; subst hw)
                  go_loopg [15, 16] n (fun gi q15 q16 wl => ∃ i : Nat, i ≤ n ∧ gi = n - i ∧ q15 = .int .i64 ((ks.take i).count k : Nat) ∧ q16 = .int .i64 i ∧ wl = w8)
                  case atStart => exact ⟨0, by omega, rfl, rfl, rfl, rfl⟩
                  case round =>
                    obtain ⟨i, hi, hgi, rfl, rfl, rfl⟩ := hrel
                    by_cases hlt8 : i < n
                    · have hlt8' : (i : Int) < (n : Int) := by omega
                      have hik : i < ks.length := by rw [← HNL.out]; exact hlt8
                      obtain ⟨g9, hpr, hc9⟩ := HCL.out i hik
                      subst hpr
                      have hct : (ks.take (i + 1)).count k = (ks.take i).count k + if ks[i] = k then 1 else 0 := by
                        rw [List.take_succ_eq_append_getElem hik, List.count_append, List.count_singleton]
                        simp
                      have hcb : (ks.take i).count k ≤ i := Nat.le_trans List.count_le_length (by simp; omega)
                      obtain ⟨ct, hct2⟩ : ∃ ct, ct = (ks.take i).count k := ⟨_, rfl⟩
                      rw [← hct2] at hct hcb ⊢
                      obtain ⟨y, hy⟩ : ∃ y, y = ks[i] := ⟨_, rfl⟩
                      rw [← hy] at hct hc9
                      have HCT := hid (p := _) hct
                      clear hct2 hy hct
                      by_cases hyk : y = k
                      · subst hyk
                        go_wp2_with fail
                        all_goals
                          go_roundg (n - (i + 1))
                          case measure => omega
                          case rel => exact ⟨i + 1, by omega, rfl, by rw [HCT.out]; simp, by go_num, rfl⟩
                      · have n1 : ¬ (y : Int) = (k : Int) := by omega
                        have n2 : ((y : Int) == (k : Int)) = false := by simpa using n1
                        go_wp2_with fail
                        all_goals
                          go_roundg (n - (i + 1))
                          case measure => omega
                          case rel => exact ⟨i + 1, by omega, rfl, by rw [HCT.out, if_neg hyk]; go_num, by go_num, rfl⟩
                    · obtain rfl : i = n := by omega
                      have htk : ks.take i = ks := by rw [HNL.out]; exact List.take_length
                      rw [htk]
                      obtain ⟨ct, hct2⟩ : ∃ ct, ct = ks.count k := ⟨_, rfl⟩
                      have hl2 := HL.out
                      rw [← hct2] at hl2 ⊢
                      clear hct2 htk
                      by_cases hb3 : bf = 3
                      · subst hb3
                        rcases HG.out rfl with rfl | ⟨hD, rfl⟩
                        · obtain rfl : ct = 0 := by omega
                          have HR := HRS.out.2 (by omega)
                          go_wp2_with fail
                          all_goals
                            go_roundg (6 - (k + 1))
                            case measure => omega
                            case rel => exact ⟨k + 1, by omega, rfl, by first | (rw [HR]; done) | (rw [HR]; go_num), by go_num, rfl⟩
                        · obtain rfl : ct = 1 := by omega
                          have HR := HRS.out.2 (by omega)
                          rcases hD with rfl | rfl
                          · go_wp2_with fail
                            all_goals
                              go_roundg (6 - (k + 1))
                              case measure => omega
                              case rel => exact ⟨k + 1, by omega, rfl, by first | (rw [HR]; done) | (rw [HR]; go_num), by go_num, rfl⟩
                          · go_wp2_with fail
                            all_goals
                              go_roundg (6 - (k + 1))
                              case measure => omega
                              case rel => exact ⟨k + 1, by omega, rfl, by first | (rw [HR]; done) | (rw [HR]; go_num), by go_num, rfl⟩
                      · have z1 : ¬ (bf : Int) = 3 := by omega
                        have z2 : ((bf : Int) == 3) = false := by simpa using z1
                        rcases hl2 with ⟨rfl, rfl⟩ | ⟨rfl, rfl⟩ | ⟨rfl, rfl⟩ | ⟨rfl, rfl⟩
                        · have HR := HRS.out.2 (by omega)
                          go_wp2_with fail
                          all_goals
                            go_roundg (6 - (k + 1))
                            case measure => omega
                            case rel => exact ⟨k + 1, by omega, rfl, by first | (rw [HR]; done) | (rw [HR]; go_num), by go_num, rfl⟩
                        · have HR := HRS.out.2 (by omega)
                          go_wp2_with fail
                          all_goals
                            go_roundg (6 - (k + 1))
                            case measure => omega
                            case rel => exact ⟨k + 1, by omega, rfl, by first | (rw [HR]; done) | (rw [HR]; go_num), by go_num, rfl⟩
                        · have HR := HRS.out.1 rfl
                          go_wp2_with fail
                          all_goals
                            go_roundg (6 - (k + 1))
                            case measure => omega
                            case rel => exact ⟨k + 1, by omega, rfl, by first | (rw [HR]; done) | (rw [HR]; go_num), by go_num, rfl⟩
                        · have HR := HRS.out.2 (by omega)
                          go_wp2_with fail
                          all_goals
                            go_roundg (6 - (k + 1))
                            case measure => omega
                            case rel => exact ⟨k + 1, by omega, rfl, by first | (rw [HR]; done) | (rw [HR]; go_num), by go_num, rfl⟩
                · obtain rfl : k = 6 := by omega
                  have hr := rns_le X' 6
                  have HE := hid (p := _) (show ∃ R W X, PL wr w.heap.size sb p (10 * (j + 1)) R W X ∧ Below w.heap.size w wr from ⟨R', W', X', HPB5.out.pl.mono (by omega), HPB5.out.bel⟩)
                  generalize rns X' 6 = rr at *
                  have hr1 : ¬ (1 : Int) < (rr : Int) := by omega
                  go_wp2_with fail
                  go_roundg (len - (j + 1))
                  case measure => omega
                  case rel => exact ⟨j + 1, by omega, rfl, by go_num, HE⟩
      · obtain rfl : j = len := by omega
        obtain ⟨R, W, X, hPL, hBel⟩ := K.out
        have HBel := hid (p := _) hBel
        clear hPL hBel K
        go_wp2_with (go_at_call 7; refine (works_any _).mono ?_; rintro e w6 ⟨rfl, hK6⟩)
        go_ret
        exact ⟨rfl, HBel.out.trans ((hK6.mono HBel.out.size).below HBel.out.size)⟩
end Go.Proofs.Ytenphgpmdigdcaa
