/-
  Plain facts on rows of pointers, on the map of tasks, on tasks and a scheduler in memory. No statement is proved here.
-/
import Derived.Test.YtenphgpmdigdcaaBase
import Derived.MapKept
import Derived.Maps.OwnSet
import Derived.Deep.RegionHeld
import Derived.Deep.LoopGhost
import Derived.Deep.DeepAppendRoom
import Derived.Laws.OwnMore
import Derived.Laws.AppendOwnNone
namespace Go.Proofs.Ytenphgpmdigdcaa
open Go.RowKit Go.BigFrame Go.MapKept
set_option linter.unusedVariables false
set_option linter.unusedSimpArgs false
set_option maxRecDepth 1000000
set_option maxHeartbeats 4000000

theorem hid {p : Prop} (h : p) : Hid p := h
theorem infoOf {P : Program} {t : TypeId} {z : Option Value} {s b : Nat} (h : (P.info? t).map (fun i => (i.zero, i.size, i.bytes)) = some (z, s, b)) : ∃ i, P.info? t = some i ∧ i.zero = z ∧ i.size = s ∧ i.bytes = b := by
  cases hi : P.info? t with
  | none => rw [hi] at h; simp at h
  | some i => rw [hi] at h; simp at h; exact ⟨i, rfl, h.1, h.2.1, h.2.2⟩
theorem info61 : ∃ i, Try.prog.info? 61 = some i ∧ i.zero = some (.pointer none) ∧ i.size = 1 ∧ i.bytes = 8 := infoOf (by kernel_rfl)
theorem info35 : ∃ i, Try.prog.info? 35 = some i ∧ i.zero = some (.int .u32 0) ∧ i.size = 1 ∧ i.bytes = 4 := infoOf (by kernel_rfl)
theorem info3 : ∃ i, Try.prog.info? 3 = some i ∧ i.zero = some (.int .i64 0) ∧ i.size = 1 ∧ i.bytes = 8 := infoOf (by kernel_rfl)
theorem blk_ne {w : World} {a b : Nat} {c c' : Array Value} {t t' : TypeId} {f f' : Nat × Nat} (h1 : w.heap[a]? = some (.cells c t f)) (h2 : w.heap[b]? = some (.cells c' t' f')) (h : t ≠ t') : a ≠ b := by
  intro e; subst e
  rw [h1] at h2
  simp at h2
  exact h h2.2.1
theorem map_ne {w : World} {a b : Nat} {c : Array Value} {t : TypeId} {f : Nat × Nat} {es : Array MapEntry} {cl : Nat} (h1 : w.heap[a]? = some (.cells c t f)) (h2 : w.heap[b]? = some (.map es cl)) : a ≠ b := by
  intro e; subst e
  rw [h1] at h2
  simp at h2
theorem ownsRow.form {w : World} {B t s : Nat} {v : Value} {n : Nat} {xs : List Value} (h : w.ownsRow B t s v n xs) : ∃ p c, v = .slice p n c := by
  rcases h.2 with ⟨h5, h6⟩ | ⟨g, cap, cur, h5, _⟩
  · exact ⟨_, _, by rw [h5, h6]⟩
  · exact ⟨_, _, h5⟩
theorem Fr.setBlk {S : List Nat} {a w : World} (h : Fr S a w) {b : Nat} (hp : b ∈ S ∨ a.heap.size ≤ b) (o : Obj) : Fr S a { w with heap := w.heap.setIfInBounds b o } :=
  h.trans (T := [b]) ⟨rfl, rfl, rfl, by simp, fun k _ hk => by
    have : b ≠ k := fun e => hk (by simp [e])
    simp [this]⟩ (fun t ht => by simp at ht; subst ht; exact hp)

/-- A task: its block, and what its cells hold. -/
structure Tk where
  b : Nat
  id : Nat
  st : Nat
  why : Int
  pa : Nat
  qu : Nat
  un : Nat
def Tk.cells (t : Tk) : Array Value := #[.int .u32 (t.id : Nat), .int .u8 (t.st : Nat), .int .i64 t.why, .int .i64 (t.pa : Nat), .int .u32 (t.qu : Nat), .int .u64 (t.un : Nat)]
def TkAt (w : World) (t : Tk) : Prop := w.heap[t.b]? = some (.cells t.cells 67)
def pv (b : Nat) : Value := .pointer (some ⟨b, 0, none⟩)
def pvs (bs : List Nat) : List Value := bs.map pv
theorem pvs_append (a b : List Nat) : pvs (a ++ b) = pvs a ++ pvs b := by simp [pvs]
theorem pvs_length (a : List Nat) : (pvs a).length = a.length := by simp [pvs]
theorem pvs_one (a : List Nat) : ∀ u ∈ pvs a, u.oneCell' = true := fun u hu => by
  simp [pvs] at hu
  obtain ⟨d, _, rfl⟩ := hu
  rfl

/-- The map's block holds these pairs of a number and a block, in this order. -/
def kv (c : Nat × Nat) : Value × Value := (.int .u32 (c.1 : Nat), pv c.2)
def MapT (w : World) (mb : Nat) (cs : List (Nat × Nat)) : Prop := ∃ es clock, w.heap[mb]? = some (.map es clock) ∧ es.toList.map (fun e => (e.key, e.val)) = cs.map kv
theorem MapT.fr {S : List Nat} {w w' : World} {mb : Nat} {cs : List (Nat × Nat)} (h : MapT w mb cs) (hF : Fr S w w') (hb : mb ∉ S) : MapT w' mb cs := by
  obtain ⟨es, cl, h1, h2⟩ := h
  exact ⟨es, cl, hF.heap h1 hb, h2⟩
theorem MapT.lt {w : World} {mb : Nat} {cs : List (Nat × Nat)} (h : MapT w mb cs) : mb < w.heap.size := by
  obtain ⟨es, cl, h1, h2⟩ := h
  exact lt_of_heap h1
theorem MapT.ne {w : World} {mb b : Nat} {cs : List (Nat × Nat)} (h : MapT w mb cs) {c : Array Value} {t : TypeId} {f : Nat × Nat} (h1 : w.heap[b]? = some (.cells c t f)) : b ≠ mb := by
  obtain ⟨es, cl, h2, _⟩ := h
  exact map_ne h1 h2
theorem find_none (h : Nat) : ∀ (l : List MapEntry) (cs : List (Nat × Nat)) (i : Nat), l.map (fun e => (e.key, e.val)) = cs.map kv → (∀ c ∈ cs, c.1 ≠ h) → Instr.findNow (.int .u32) (.int .u32 (h : Nat)) l i = some none
  | [], _, _, _, _ => rfl
  | e :: es, [], _, hm, _ => by simp at hm
  | e :: es, c :: cs, i, hm, hn => by
    simp only [List.map_cons, List.cons.injEq, kv, Prod.mk.injEq] at hm
    have hne : ((h : Int) == (c.1 : Int)) = false := by
      have := hn c (by simp)
      simp; omega
    simp only [Instr.findNow, hm.1.1, Instr.sameNow, if_true, hne]
    exact find_none h es cs (i + 1) hm.2 (fun c' hc' => hn c' (by simp [hc']))
theorem find_some (c : Nat × Nat) (qs : List (Nat × Nat)) : ∀ (l : List MapEntry) (ps : List (Nat × Nat)) (i : Nat), l.map (fun e => (e.key, e.val)) = (ps ++ c :: qs).map kv → (∀ a ∈ ps, a.1 ≠ c.1) → Instr.findNow (.int .u32) (.int .u32 (c.1 : Nat)) l i = some (some (i + ps.length, pv c.2))
  | [], ps, _, hm, _ => by simp at hm
  | e :: es, [], i, hm, _ => by
    simp only [List.nil_append, List.map_cons, List.cons.injEq, kv, Prod.mk.injEq] at hm
    have he : ((c.1 : Int) == (c.1 : Int)) = true := by simp
    simp only [Instr.findNow, hm.1.1, Instr.sameNow, if_true, he, hm.1.2, List.length_nil, Nat.add_zero]
  | e :: es, a :: ps, i, hm, hn => by
    simp only [List.cons_append, List.map_cons, List.cons.injEq, kv, Prod.mk.injEq] at hm
    have hne : ((c.1 : Int) == (a.1 : Int)) = false := by
      have := hn a (by simp)
      simp; omega
    simp only [Instr.findNow, hm.1.1, Instr.sameNow, if_true, hne]
    rw [find_some c qs es ps (i + 1) hm.2 (fun a' ha' => hn a' (by simp [ha']))]
    simp; omega
theorem map_erase {α β : Type} (f : α → β) : ∀ (l : List α) (i : Nat), (l.eraseIdx i).map f = (l.map f).eraseIdx i
  | [], _ => by simp
  | x :: l, 0 => by simp
  | x :: l, i + 1 => by simp [map_erase f l i]
theorem isKey32 (h : Nat) : IsKey (.int .u32) (.int .u32 (h : Nat)) := by simp [IsKey]
theorem zero61 (w : World) : (zeroValue 61).run Try.prog w = .ok (.pointer none) w := by kernel_rfl
theorem look_no {w : World} {mb : Nat} {cs : List (Nat × Nat)} (hM : MapT w mb cs) (h : Nat) (hn : ∀ c ∈ cs, c.1 ≠ h) :
    (Instr.lookup 59 (.map (some mb)) (.int .u32 (h : Nat)) false).run Try.prog w = .ok (.pointer none) w := by
  obtain ⟨es, cl, h1, h2⟩ := hM
  have hf := run_findKey (w := w) Try.underlying35 (find_none h es.toList cs 0 h2 hn)
  simp [Instr.lookup, run_underlying Try.underlying59, MapKept.run_getObj_map h1, run_checkKey Try.underlying35 (isKey32 h), hf, zero61, Result.andThen]
theorem look_yes {w : World} {mb : Nat} {ps qs : List (Nat × Nat)} {c : Nat × Nat} (hM : MapT w mb (ps ++ c :: qs)) (hn : ∀ a ∈ ps, a.1 ≠ c.1) :
    (Instr.lookup 59 (.map (some mb)) (.int .u32 (c.1 : Nat)) false).run Try.prog w = .ok (.pointer (some ⟨c.2, 0, none⟩)) w := by
  obtain ⟨es, cl, h1, h2⟩ := hM
  have hf := run_findKey (w := w) Try.underlying35 (find_some c qs es.toList ps 0 h2 hn)
  simp [Instr.lookup, run_underlying Try.underlying59, MapKept.run_getObj_map h1, run_checkKey Try.underlying35 (isKey32 c.1), hf, Result.andThen, pv]
theorem put_map {w : World} {mb : Nat} {cs : List (Nat × Nat)} (hM : MapT w mb cs) (c : Nat × Nat) (hn : ∀ a ∈ cs, a.1 ≠ c.1) :
    ∃ w', (Instr.mapUpdate 59 (.map (some mb)) (.int .u32 (c.1 : Nat)) (.pointer (some ⟨c.2, 0, none⟩))).run Try.prog w = .ok () w' ∧ MapT w' mb (cs ++ [c]) ∧ Fr [mb] w w' := by
  obtain ⟨es, cl, h1, h2⟩ := hM
  have hf := run_findKey (w := w) Try.underlying35 (find_none c.1 es.toList cs 0 h2 hn)
  refine ⟨{ w with heap := w.heap.setIfInBounds mb (.map (es.push { key := .int .u32 (c.1 : Nat), val := pv c.2, born := cl }) (cl + 1)) }, ?_, ⟨_, _, (heap_set h1).1, ?_⟩, (Fr.refl _ _).setBlk (by simp) _⟩
  · simp [Instr.mapUpdate, run_underlying Try.underlying59, MapKept.run_getObj_map h1, run_checkKey Try.underlying35 (isKey32 c.1), hf, run_setObj_map _ h1, Result.andThen, pv]
  · simp [h2, kv]
theorem del_map {w : World} {mb : Nat} {ps qs : List (Nat × Nat)} {c : Nat × Nat} (hM : MapT w mb (ps ++ c :: qs)) (hn : ∀ a ∈ ps, a.1 ≠ c.1) (ty : TypeId) :
    ∃ w', (Builtin.delete_ #[59, 35] ty #[.map (some mb), .int .u32 (c.1 : Nat)]).run Try.prog w = .ok (.tuple #[]) w' ∧ MapT w' mb (ps ++ qs) ∧ Fr [mb] w w' := by
  obtain ⟨es, cl, h1, h2⟩ := hM
  have hf := run_findKey (w := w) Try.underlying35 (find_some c qs es.toList ps 0 h2 hn)
  have hlen : es.size = ps.length + 1 + qs.length := by
    have := congrArg List.length h2
    simp at this; omega
  refine ⟨{ w with heap := w.heap.setIfInBounds mb (.map (es.eraseIdxIfInBounds (0 + ps.length)) cl) }, ?_, ⟨_, _, (heap_set h1).1, ?_⟩, (Fr.refl _ _).setBlk (by simp) _⟩
  · simp [Builtin.delete_, run_underlying Try.underlying59, MapKept.run_getObj_map h1, run_checkKey Try.underlying35 (isKey32 c.1), hf, run_setObj_map _ h1, Result.andThen]
  · have hlt : 0 + ps.length < es.size := by omega
    rw [Array.eraseIdxIfInBounds, dif_pos hlt, Array.toList_eraseIdx, map_erase, h2]
    simp [List.eraseIdx_append_of_length_le]
theorem len_map {w : World} {mb : Nat} {cs : List (Nat × Nat)} (hM : MapT w mb cs) (ty : TypeId) : (Builtin.len_ #[59] ty #[.map (some mb)]).run Try.prog w = .ok (.int .i64 (cs.length : Nat)) w := by
  obtain ⟨es, cl, h1, h2⟩ := hM
  have hlen : es.size = cs.length := by
    have := congrArg List.length h2
    simpa using this
  have := run_len_map (P := Try.prog) (w := w) 59 ty mb es cl (by kernel_rfl) h1
  rw [this, hlen]
  rfl

/-- A row of pointers of a slice of one's own. -/
abbrev Own (w : World) (B : Nat) (v : Value) (bs : List Nat) : Prop := w.ownsRow B 61 1 v bs.length (pvs bs)
theorem Own.nil (w : World) (B : Nat) : Own w B (.slice none 0 0) [] := World.ownsRow_nil _ _ _ _
theorem Own.fr {S : List Nat} {w w' : World} {B : Nat} {v : Value} {bs : List Nat} (h : Own w B v bs) (hF : Fr S w w') (hS : ∀ g, v.ownBlock = some g → g ∉ S) : Own w' B v bs := by
  refine ⟨h.1, ?_⟩
  rcases h.2 with h0 | ⟨g, cap, cur, h1, h2, h3, h4⟩
  · exact .inl h0
  · exact .inr ⟨g, cap, cur, h1, h2, hF.heap h3 (hS g (by rw [h1]; rfl)), h4⟩
theorem Own.blk {w : World} {B : Nat} {v : Value} {bs : List Nat} (h : Own w B v bs) : ∀ g, v.ownBlock = some g → B ≤ g ∧ ∃ c, w.heap[g]? = some (.cells c 61) := by
  intro g hg
  rcases h.2 with ⟨e, _⟩ | ⟨g', cap, cur, h1, h2, h3, h4⟩
  · subst e; cases hg
  · subst h1; cases hg; exact ⟨h2, _, h3⟩
theorem Own.mono {w : World} {B B' : Nat} {v : Value} {bs : List Nat} (h : Own w B v bs) (hB : ∀ g, v.ownBlock = some g → B' ≤ g) : Own w B' v bs := by
  refine ⟨h.1, ?_⟩
  rcases h.2 with h0 | ⟨g, cap, cur, h1, h2, h3, h4⟩
  · exact .inl h0
  · exact .inr ⟨g, cap, cur, h1, hB g (by rw [h1]; rfl), h3, h4⟩
/-- Where a row that is not empty lies. -/
theorem Own.at {w : World} {v : Value} {bs : List Nat} {B : Nat} (h : Own w B v bs) (hd : 1 ≤ bs.length) : ∃ g cap cur, v = .slice (some ⟨g, 0, none⟩) bs.length cap ∧ bs.length ≤ cap ∧ cap ≤ maxLen ∧ w.heap[g]? = some (.cells cur 61) ∧ cur.size = cap ∧ cur.toList.take bs.length = pvs bs ∧ B ≤ g := by
  rcases h.2 with ⟨h1, h2⟩ | ⟨g, cap, cur, h1, h2, h3, h4, h5, h6, h7⟩
  · omega
  · exact ⟨g, cap, cur, h1, h4, h5, h3, by simpa using h6, by simpa using h7, h2⟩
theorem Own.cell {w : World} {bs : List Nat} {B g n cap : Nat} (h : Own w B (.slice (some ⟨g, 0, none⟩) n cap) bs) (i : Nat) (hi : i < bs.length) : w.cell? ⟨g, i, none⟩ = some (.pointer (some ⟨bs[i], 0, none⟩)) := by
  obtain ⟨g', cap', cur, h1, h2, h3, h4, h5, h6, h7⟩ := h.at (by omega)
  cases h1
  refine cell_of_heap h4 ?_
  have : (cur.toList.take bs.length)[i]? = some (pv bs[i]) := by rw [h6]; simp [pvs, hi]
  rw [List.getElem?_take, if_pos hi] at this
  simpa [pv] using this
theorem run_app (w : World) (ty : TypeId) (B : Nat) (v : Value) (hs : List Nat) (hO : Own w B v hs) (a : Addr) (m c : Nat) (ds : List Nat) (hm : ds.length = m) (hc : ∀ j u, (pvs ds)[j]? = some u → w.cell? (a.add j) = some u) (hl : hs.length + m ≤ 100000) (hB : B ≤ w.heap.size) :
    ∃ v' w', (Builtin.append_ #[60, 60] ty #[v, .slice (some a) m c]).run Try.prog w = .ok v' w' ∧ Own w' B v' (hs ++ ds) ∧ Fr v.ownBlock.toList w w' ∧ (∀ g', v'.ownBlock = some g' → v.ownBlock = some g' ∨ w.heap.size ≤ g') := by
  subst hm
  obtain ⟨i, hi, hz, hsz, hb⟩ := info61
  have h1 := pvs_one ds
  unfold Own
  rw [pvs_append, List.length_append]
  have hl1 : (pvs ds).length = ds.length * 1 := by simp [pvs]
  obtain ⟨v', w', q1, q2, q3, q4⟩ := run_append_own (P := Try.prog) w B 60 ty 61 i (.pointer none) 1 8 Try.underlying60 hi hz hsz hb rfl (by omega) v hs.length (pvs hs) hO a ds.length c (pvs ds) hl1 hc h1 (by simp [maxLen]; omega) (by omega) hB
  refine ⟨v', w', q1, q2, Fr.ofGrown q3, fun g' hg' => ?_⟩
  rcases hO.2 with ⟨rfl, h0⟩ | ⟨g, cap, cur, rfl, hbg, hg, hnc, hcm, hcs, htake⟩
  · have hx : hs = [] := List.length_eq_zero_iff.1 h0
    subst hx
    obtain ⟨v2, w2, p1, p2, _⟩ := run_append_own (P := Try.prog) w w.heap.size 60 ty 61 i (.pointer none) 1 8 Try.underlying60 hi hz hsz hb rfl (by omega) (.slice none 0 0) 0 [] (World.ownsRow_nil _ _ _ _) a ds.length c (pvs ds) hl1 hc h1 (by simp [maxLen]; omega) (by omega) (Nat.le_refl _)
    rw [p1] at q1
    cases q1
    rcases p2.2 with ⟨rfl, _⟩ | ⟨g, cap, cur, rfl, hbg, _⟩
    · cases hg'
    · cases hg'; exact .inr hbg
  · rcases Nat.lt_or_ge cap (hs.length + ds.length) with hroom | hroom
    · have holds : ∀ j u, (pvs hs)[j]? = some u → w.cell? ((⟨g, 0, none⟩ : Addr).add j) = some u := hO.cells (g := g) rfl
      have hr := run_append_grow (P := Try.prog) w 60 ty 61 i (.pointer none) Try.underlying60 hi hz ⟨g, 0, none⟩ hs.length cap (pvs hs) (by rw [hsz]; exact hO.1) holds a ds.length c (pvs ds) (by rw [hsz]; exact hl1) hc (by omega) (by omega) (growslice_fits (by omega) (by rw [hb]; omega))
      rw [hr] at q1
      cases q1
      cases hg'
      exact .inr (Nat.le_refl _)
    · obtain ⟨w2, p1, _⟩ := run_append_own_spare (P := Try.prog) w B 60 ty 61 i 1 Try.underlying60 hi hsz g hs.length cap (pvs hs) hO a ds.length c (pvs ds) hl1 hc h1 hroom
      rw [p1] at q1
      cases q1
      exact .inl hg'
/-- append of nothing. -/
theorem run_app0 (w : World) (ty : TypeId) (B : Nat) (v : Value) (hs : List Nat) (hO : Own w B v hs) (p : Option Addr) (c : Nat) (hn : p = none ∨ hs.length ≤ 100000) :
    (Builtin.append_ #[60, 60] ty #[v, .slice none 0 0]).run Try.prog w = .ok v w := by
  obtain ⟨i, hi, hz, hsz, hb⟩ := info61
  rcases hO.2 with ⟨rfl, h0⟩ | ⟨g, cap, cur, rfl, hbg, hg, hnc, hcm, hcs, htake⟩
  · simp [Builtin.append_, run_underlying Try.underlying60, sizeOf, typeInfo, hi, Builtin.lenOf, Builtin.firstCells, loadCells, loadCellsFrom]
  · simp [Builtin.append_, run_underlying Try.underlying60, sizeOf, typeInfo, hi, Builtin.lenOf, Builtin.firstCells, storeCells]
    intro hh; omega
theorem wpList_app {w w' : World} {ops : Array Oper} {rest : List Oper} {o : Oper} {a : Act} {Q : Exit → Act → World → Prop} (hgd : o.guard = none) (s x : Operand) (t : TypeId)
    (ho : o.op = .call { callee := .builtin .append, args := #[s, x], argTypes := #[t, t] }) {vs vx v' : Value} (hs : a.eval s = vs) (hx : a.eval x = vx)
    (hq : (Builtin.append_ #[t, t] o.type #[vs, vx]).run Try.prog w = .ok v' w') (h : wpList Try.prog ops Q rest (a.put o.dst v') w') : wpList Try.prog ops Q (o :: rest) a w := by
  refine wpList_plain hgd fun K hK => ?_
  unfold Oper.wp
  simp [execOp, ho, resolve, invoke, builtin, hs, hx, hq, Result.andThen]
  exact hK _ _ h
end Go.Proofs.Ytenphgpmdigdcaa
