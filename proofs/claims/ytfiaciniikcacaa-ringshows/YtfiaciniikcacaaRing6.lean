/-
  What a map of chains answers, is put into, loses: plain laws over this program's map type; and slices of descriptors. No statement is proved here.
-/
import Derived.Test.YtfiaciniikcacaaRing3
import Derived.MapKept
import Derived.Maps.OwnSet
import Derived.Deep.RegionHeld
namespace Go.Proofs.Ytfiaciniikcacaa
open Go.RowKit Go.BigFrame Go.MapKept
set_option linter.unusedVariables false
set_option linter.unusedSimpArgs false
set_option maxRecDepth 1000000
set_option maxHeartbeats 4000000

/-- A chain that waits: its head, its two slices, the buffers and the descriptors that they hold. -/
structure Ch where
  h : Nat
  bv : Value
  dv : Value
  xs : List Bf
  ds : List Nat
def Ch.kv (c : Ch) : Value × Value := (.int .u16 (c.h : Nat), .agg #[c.bv, c.dv])
/-- The map's block holds these chains, in this order. -/
def MapC (w : World) (bC : Nat) (cs : List Ch) : Prop := ∃ es clock, w.heap[bC]? = some (.map es clock) ∧ es.toList.map (fun e => (e.key, e.val)) = cs.map Ch.kv
theorem MapC.fr {S : List Nat} {w w' : World} {bC : Nat} {cs : List Ch} (h : MapC w bC cs) (hF : Fr S w w') (hb : bC ∉ S) : MapC w' bC cs := by
  obtain ⟨es, cl, h1, h2⟩ := h
  exact ⟨es, cl, hF.heap h1 hb, h2⟩
theorem MapC.lt {w : World} {bC : Nat} {cs : List Ch} (h : MapC w bC cs) : bC < w.heap.size := by
  obtain ⟨es, cl, h1, h2⟩ := h
  exact lt_of_heap h1
theorem find_none (h : Nat) : ∀ (l : List MapEntry) (cs : List Ch) (i : Nat), l.map (fun e => (e.key, e.val)) = cs.map Ch.kv → (∀ c ∈ cs, c.h ≠ h) → Instr.findNow (.int .u16) (.int .u16 (h : Nat)) l i = some none
  | [], _, _, _, _ => rfl
  | e :: es, [], _, hm, _ => by simp at hm
  | e :: es, c :: cs, i, hm, hn => by
    simp only [List.map_cons, List.cons.injEq, Ch.kv, Prod.mk.injEq] at hm
    have hne : ((h : Int) == (c.h : Int)) = false := by
      have := hn c (by simp)
      simp; omega
    simp only [Instr.findNow, hm.1.1, Instr.sameNow, if_true, hne]
    exact find_none h es cs (i + 1) hm.2 (fun c' hc' => hn c' (by simp [hc']))
theorem find_some (c : Ch) (qs : List Ch) : ∀ (l : List MapEntry) (ps : List Ch) (i : Nat), l.map (fun e => (e.key, e.val)) = (ps ++ c :: qs).map Ch.kv → (∀ a ∈ ps, a.h ≠ c.h) → Instr.findNow (.int .u16) (.int .u16 (c.h : Nat)) l i = some (some (i + ps.length, .agg #[c.bv, c.dv]))
  | [], ps, _, hm, _ => by simp at hm
  | e :: es, [], i, hm, _ => by
    simp only [List.nil_append, List.map_cons, List.cons.injEq, Ch.kv, Prod.mk.injEq] at hm
    have he : ((c.h : Int) == (c.h : Int)) = true := by simp
    simp only [Instr.findNow, hm.1.1, Instr.sameNow, if_true, he, hm.1.2, List.length_nil, Nat.add_zero]
  | e :: es, a :: ps, i, hm, hn => by
    simp only [List.cons_append, List.map_cons, List.cons.injEq, Ch.kv, Prod.mk.injEq] at hm
    have hne : ((c.h : Int) == (a.h : Int)) = false := by
      have := hn a (by simp)
      simp; omega
    simp only [Instr.findNow, hm.1.1, Instr.sameNow, if_true, hne]
    rw [find_some c qs es ps (i + 1) hm.2 (fun a' ha' => hn a' (by simp [ha']))]
    simp; omega
theorem map_erase {α β : Type} (f : α → β) : ∀ (l : List α) (i : Nat), (l.eraseIdx i).map f = (l.map f).eraseIdx i
  | [], _ => by simp
  | x :: l, 0 => by simp
  | x :: l, i + 1 => by simp [map_erase f l i]
theorem isKey16 (h : Nat) : IsKey (.int .u16) (.int .u16 (h : Nat)) := by simp [IsKey]
theorem zero91 (w : World) : (zeroValue 91).run Try.prog w = .ok (.agg #[.slice none 0 0, .slice none 0 0]) w := by kernel_rfl
theorem look_no {w : World} {bC : Nat} {cs : List Ch} (hM : MapC w bC cs) (h : Nat) (hn : ∀ c ∈ cs, c.h ≠ h) :
    (Instr.lookup 78 (.map (some bC)) (.int .u16 (h : Nat)) true).run Try.prog w = .ok (.tuple #[.agg #[.slice none 0 0, .slice none 0 0], .bool false]) w := by
  obtain ⟨es, cl, h1, h2⟩ := hM
  have hf := run_findKey (w := w) Try.underlying37 (find_none h es.toList cs 0 h2 hn)
  simp [Instr.lookup, run_underlying Try.underlying78, MapKept.run_getObj_map h1, run_checkKey Try.underlying37 (isKey16 h), hf, zero91, Result.andThen]
theorem look_yes {w : World} {bC : Nat} {ps qs : List Ch} {c : Ch} (hM : MapC w bC (ps ++ c :: qs)) (hn : ∀ a ∈ ps, a.h ≠ c.h) (ok : Bool) :
    (Instr.lookup 78 (.map (some bC)) (.int .u16 (c.h : Nat)) ok).run Try.prog w = .ok (if ok then .tuple #[.agg #[c.bv, c.dv], .bool true] else .agg #[c.bv, c.dv]) w := by
  obtain ⟨es, cl, h1, h2⟩ := hM
  have hf := run_findKey (w := w) Try.underlying37 (find_some c qs es.toList ps 0 h2 hn)
  simp [Instr.lookup, run_underlying Try.underlying78, MapKept.run_getObj_map h1, run_checkKey Try.underlying37 (isKey16 c.h), hf, Result.andThen]
theorem Fr.setBlk {S : List Nat} {a w : World} (h : Fr S a w) {b : Nat} (hp : b ∈ S ∨ a.heap.size ≤ b) (o : Obj) : Fr S a { w with heap := w.heap.setIfInBounds b o } :=
  h.trans (T := [b]) ⟨rfl, rfl, rfl, by simp, fun k _ hk => by
    have : b ≠ k := fun e => hk (by simp [e])
    simp [this]⟩ (fun t ht => by simp at ht; subst ht; exact hp)
theorem put_map {w : World} {bC : Nat} {cs : List Ch} (hM : MapC w bC cs) (c : Ch) (hn : ∀ a ∈ cs, a.h ≠ c.h) :
    ∃ w', (Instr.mapUpdate 78 (.map (some bC)) (.int .u16 (c.h : Nat)) (.agg #[c.bv, c.dv])).run Try.prog w = .ok () w' ∧ MapC w' bC (cs ++ [c]) ∧ Fr [bC] w w' := by
  obtain ⟨es, cl, h1, h2⟩ := hM
  have hf := run_findKey (w := w) Try.underlying37 (find_none c.h es.toList cs 0 h2 hn)
  refine ⟨{ w with heap := w.heap.setIfInBounds bC (.map (es.push { key := .int .u16 (c.h : Nat), val := .agg #[c.bv, c.dv], born := cl }) (cl + 1)) }, ?_, ⟨_, _, (heap_set h1).1, ?_⟩, (Fr.refl _ _).setBlk (by simp) _⟩
  · simp [Instr.mapUpdate, run_underlying Try.underlying78, MapKept.run_getObj_map h1, run_checkKey Try.underlying37 (isKey16 c.h), hf, run_setObj_map _ h1, Result.andThen]
  · simp [h2, Ch.kv]
theorem del_map {w : World} {bC : Nat} {ps qs : List Ch} {c : Ch} (hM : MapC w bC (ps ++ c :: qs)) (hn : ∀ a ∈ ps, a.h ≠ c.h) (ty : TypeId) :
    ∃ w', (Builtin.delete_ #[78, 37] ty #[.map (some bC), .int .u16 (c.h : Nat)]).run Try.prog w = .ok (.tuple #[]) w' ∧ MapC w' bC (ps ++ qs) ∧ Fr [bC] w w' := by
  obtain ⟨es, cl, h1, h2⟩ := hM
  have hf := run_findKey (w := w) Try.underlying37 (find_some c qs es.toList ps 0 h2 hn)
  have hlen : es.size = ps.length + 1 + qs.length := by
    have := congrArg List.length h2
    simp at this; omega
  refine ⟨{ w with heap := w.heap.setIfInBounds bC (.map (es.eraseIdxIfInBounds (0 + ps.length)) cl) }, ?_, ⟨_, _, (heap_set h1).1, ?_⟩, (Fr.refl _ _).setBlk (by simp) _⟩
  · simp [Builtin.delete_, run_underlying Try.underlying78, MapKept.run_getObj_map h1, run_checkKey Try.underlying37 (isKey16 c.h), hf, run_setObj_map _ h1, Result.andThen]
  · have hlt : 0 + ps.length < es.size := by omega
    rw [Array.eraseIdxIfInBounds, dif_pos hlt, Array.toList_eraseIdx, map_erase, h2]
    simp [List.eraseIdx_append_of_length_le]
theorem len_map {w : World} {bC : Nat} {cs : List Ch} (hM : MapC w bC cs) (ty : TypeId) : (Builtin.len_ #[78] ty #[.map (some bC)]).run Try.prog w = .ok (.int .i64 (cs.length : Nat)) w := by
  obtain ⟨es, cl, h1, h2⟩ := hM
  have hlen : es.size = cs.length := by
    have := congrArg List.length h2
    simpa using this
  have := run_len_map (P := Try.prog) (w := w) 78 ty bC es cl (by kernel_rfl) h1
  rw [this, hlen]
  rfl

/-- Descriptors that a slice holds. -/
abbrev Descs (w : World) (v : Value) (ds : List Nat) : Prop := w.ownsRow 0 37 1 v ds.length (ds.map fun d => Value.int .u16 (d : Nat))
structure DescsAt (w : World) (g : Nat) (ds : List Nat) : Prop where
  blk : ∃ cur, w.heap[g]? = some (.cells cur 37 (0, 0)) ∧ ∀ i (h : i < ds.length), cur[i]? = some (.int .u16 (ds[i] : Nat))
theorem DescsAt.fr {S : List Nat} {w w' : World} {g : Nat} {ds : List Nat} (h : DescsAt w g ds) (hF : Fr S w w') (hb : g ∉ S) : DescsAt w' g ds := by
  obtain ⟨cur, h1, h2⟩ := h.blk
  exact ⟨cur, hF.heap h1 hb, h2⟩
theorem DescsAt.cell {w : World} {g : Nat} {ds : List Nat} (h : DescsAt w g ds) (i : Nat) (hi : i < ds.length) : w.cell? ⟨g, i, none⟩ = some (.int .u16 (ds[i] : Nat)) := by
  obtain ⟨cur, h1, h2⟩ := h.blk
  exact cell_of_heap h1 (h2 i hi)
theorem DescsAt.ne {w : World} {g b : Nat} {ds : List Nat} {c : Array Value} {t : TypeId} (h : DescsAt w g ds) (hb : w.heap[b]? = some (.cells c t)) (ht : t ≠ 37) : g ≠ b := by
  obtain ⟨cur, h1, h2⟩ := h.blk
  intro e; subst e
  rw [h1] at hb
  simp at hb
  exact ht hb.2.symm
theorem Descs.at {w : World} {v : Value} {ds : List Nat} {B : Nat} (h : w.ownsRow B 37 1 v ds.length (ds.map fun d => Value.int .u16 (d : Nat))) (hd : 1 ≤ ds.length) : ∃ g cap, v = .slice (some ⟨g, 0, none⟩) ds.length cap ∧ ds.length ≤ cap ∧ cap ≤ maxLen ∧ DescsAt w g ds ∧ B ≤ g := by
  rcases h.2 with ⟨h1, h2⟩ | ⟨g, cap, cur, h1, h2, h3, h4, h5, h6, h7⟩
  · omega
  · refine ⟨g, cap, h1, h4, h5, ⟨cur, h3, fun i hi => ?_⟩, h2⟩
    have : (cur.toList.take (ds.length * 1))[i]? = some (.int .u16 (ds[i] : Nat)) := by
      rw [h7]; simp [hi]
    rw [List.getElem?_take] at this
    split at this
    · simpa using this
    · cases this
end Go.Proofs.Ytfiaciniikcacaa
