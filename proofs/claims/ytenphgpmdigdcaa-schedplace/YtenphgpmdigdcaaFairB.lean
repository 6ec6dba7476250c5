/-
  What stands in memory while the statement SchedFair plays its script, and what each call leaves of it. No statement is proved here.
-/
import Derived.Test.YtenphgpmdigdcaaFairA
namespace Go.Proofs.Ytenphgpmdigdcaa
open Go.RowKit Go.BigFrame Go.MapKept
set_option linter.unusedVariables false
set_option linter.unusedSimpArgs false
set_option maxRecDepth 1000000
set_option maxHeartbeats 4000000

def nats (S : List Nat) : Array Value := (S.map fun k => Value.int .i64 (k : Nat)).toArray
def SinceAt (w : World) (gs : Nat) (S : List Nat) : Prop := w.heap[gs]? = some (.cells (nats S) 3)
theorem SinceAt.cell {w : World} {gs : Nat} {S : List Nat} (h : SinceAt w gs S) (i : Nat) (hi : i < S.length) : w.cell? ⟨gs, i, none⟩ = some (.int .i64 (S.getD i 0 : Nat)) :=
  cell_of_heap h (by simp [nats, hi])
theorem SinceAt.froz {w : World} {gs : Nat} {S : List Nat} (h : SinceAt w gs S) (i : Nat) : w.frozen? ⟨gs, i, none⟩ = false := frozen_of_heap h
theorem SinceAt.set {w : World} {gs : Nat} {S : List Nat} (h : SinceAt w gs S) (i v : Nat) (z : Int) (hz : z = (v : Nat)) : SinceAt (w.setCell ⟨gs, i, none⟩ (.int .i64 z)) gs (S.set i v) := by
  subst hz
  unfold SinceAt at h ⊢
  simp [World.setCell, Array.getElem?_modify, h, nats, List.map_set]
/-- What stands between two steps. -/
structure LW (w wr : World) (sb gs p now : Nat) (R W : List Tk) (X : Option Tk) (S : List Nat) : Prop where
  ss : SS wr w.heap.size sb p now R W X
  si : SinceAt wr gs S
  low : w.heap.size ≤ gs
  bel : Below w.heap.size w wr
section
variable {w wr w' : World} {sb gs p now now' : Nat} {R W R' W' : List Tk} {X X' : Option Tk} {S : List Nat}
theorem LW.kq (h : LW w wr sb gs p now R W X S) (hs : SS w' w.heap.size sb p now' R' W' X') (hK : Kq w.heap.size wr w') : LW w w' sb gs p now' R' W' X' S :=
  ⟨hs, hK.heap h.si (by decide), h.low, h.bel.trans (hK.below h.bel.size)⟩
theorem LW.fr0 (h : LW w wr sb gs p now R W X S) (hF : Fr [] wr w') : LW w w' sb gs p now R W X S := h.kq (h.ss.fr0 hF) hF.kq0
theorem LW.set (h : LW w wr sb gs p now R W X S) (i v : Nat) (z : Int) (hz : z = (v : Nat)) : LW w (wr.setCell ⟨gs, i, none⟩ (.int .i64 z)) sb gs p now R W X (S.set i v) :=
  ⟨h.ss.frO ((Fr.refl [gs] _).setCell (by simp) _) (fun t ht => by simp at ht; subst ht; exact .inr ⟨_, _, _, h.si, by decide⟩), h.si.set i v z hz, h.low, h.bel.setCell h.low _⟩
theorem LW.nod (h : LW w wr sb gs p now R W none S) : ((R ++ W).map Tk.id).Nodup := by
  obtain ⟨mb, vr, vw, ts, h⟩ := h.ss
  simpa [all] using h.nod
theorem LW.num (h : LW w wr sb gs p now R W X S) : 1 ≤ p ∧ p ≤ 256 ∧ now < 4611686018427387904 := by
  obtain ⟨mb, vr, vw, ts, h⟩ := h.ss
  exact ⟨h.num.1, h.num.2.1, h.num.2.2.1⟩
theorem LW.st (h : LW w wr sb gs p now R W none S) (k : Nat) : ((fnd (all R W none []) k).elim 0 Tk.st = 1 ∧ (∃ t ∈ R, t.id = k) ∧ ∀ t ∈ W, t.id ≠ k) ∨ ((fnd (all R W none []) k).elim 0 Tk.st ≠ 1 ∧ ∀ t ∈ R, t.id ≠ k) := by
  obtain ⟨mb, vr, vw, ts, h⟩ := h.ss
  cases hf : fnd (all R W none []) k with
  | none => exact .inr ⟨by simp, fun t ht => fnd_none hf t (mem_all.2 (.inl ht))⟩
  | some t =>
    obtain ⟨h1, h2⟩ := fnd_some hf
    rcases mem_all.1 h1 with h3 | h3 | h3 | h3
    · refine .inl ⟨h.stR t h3, ⟨t, h3, h2⟩, fun u hu e => ?_⟩
      have hn := h.nod
      simp only [all, List.map_append, Option.toList_none, List.map_nil, List.append_nil] at hn
      exact (List.nodup_append.1 hn).2.2 t.id (List.mem_map.2 ⟨t, h3, rfl⟩) u.id (List.mem_map.2 ⟨u, hu, rfl⟩) (by rw [e, h2])
    · refine .inr ⟨by simp [h.stW t h3], fun u hu e => ?_⟩
      have hn := h.nod
      simp only [all, List.map_append, Option.toList_none, List.map_nil, List.append_nil] at hn
      exact (List.nodup_append.1 hn).2.2 u.id (List.mem_map.2 ⟨u, hu, rfl⟩) t.id (List.mem_map.2 ⟨t, h3, rfl⟩) (by rw [e, h2])
    · cases h3
    · cases h3
theorem MI.set0 {n : Nat} (h : MI p n R W S) (k : Nat) : MI p n R W (S.set k 0) := by
  have key : ∀ j, (S.set k 0).getD j 0 ≤ S.getD j 0 := fun j => by rw [set_get]; split <;> omega
  exact ⟨h.idr, h.len, h.bnd, fun t ht => Nat.le_trans (key _) (h.paS t ht), fun t ht => Nat.le_trans (key _) (h.paW t ht), by rw [List.length_set]; exact h.sl⟩
theorem lw_pick {n : Nat} (h : LW w wr sb gs p now R W none S) (hI : FI p n R W S) (hn : n ≤ 20) (hp : p ≤ 20) (hR : R ≠ []) (nn : Nat) (hnn : nn < 18446744073709551616) :
    Calls Try.prog 18 #[.pointer (some ⟨sb, 0, none⟩), .int .u64 (nn : Nat)] wr fun e w' => ∃ (k : Nat) (hk : k < R.length), e = .returned (.tuple #[.int .u32 (R[k].id : Nat), .int .i64 0]) ∧ Turn p R nn k ∧ LW w w' sb gs p now ((R.eraseIdx k).map Tk.bump) W (some { R[k] with st := 2 }) S := by
  refine (pick_ok h.ss nn hnn hR (fun t ht => by
    obtain ⟨i, hi, rfl⟩ := List.mem_iff_getElem.1 ht
    have := hI.1.bnd i hi; omega)).mono ?_
  rintro e w' ⟨k, hk, hT, rfl, h1, h2⟩
  exact ⟨k, hk, rfl, hT, h.kq h1 h2⟩
theorem lw_tick {n : Nat} (h : LW w wr sb gs p now R W X S) (hI : MI p n R W S) (hn : n ≤ 20) (t : Nat) (h1 : now ≤ t) (h2 : t < 1000000) :
    Calls Try.prog 19 #[.pointer (some ⟨sb, 0, none⟩), .int .u64 (t : Nat)] wr fun e w' => e = .returned (.int .i64 0) ∧ ∃ R' W', LW w w' sb gs p t R' W' X S ∧ MI p n R' W' S := by
  have hP := (sel_perm (prT t) W).1
  refine (tick_ok h.ss t h1 (by omega) (by have := hP.length_eq; rw [List.length_append] at this; have := hI.len; omega)).mono ?_
  rintro e w' ⟨rfl, ⟨A, hA, hS⟩, hK⟩
  exact ⟨rfl, _, _, h.kq hS hK, hI.woken ((List.Perm.append_left _ hA).trans hP) 50⟩
theorem lw_wake {n : Nat} (h : LW w wr sb gs p now R W X S) (hI : MI p n R W S) (q : Nat) (most : Int) :
    Calls Try.prog 22 #[.pointer (some ⟨sb, 0, none⟩), .int .u32 (q : Nat), .int .i64 most] wr fun e w' => ∃ c : Int, e = .returned (.int .i64 c) ∧ ∃ R' W', LW w w' sb gs p now R' W' X S ∧ MI p n R' W' S := by
  refine (wake_ok h.ss q most).mono ?_
  rintro e w' ⟨rfl, hS, hK⟩
  exact ⟨_, rfl, _, _, h.kq hS hK, hI.woken (sel_perm _ W).1 0⟩
end
end Go.Proofs.Ytenphgpmdigdcaa
