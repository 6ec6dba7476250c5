/-
  A reckoner of conditions: what operations change. No statement is proved here.
-/
import Derived.Test.YtkjfecdpakhggaaVcI
import Derived.Lib.AppendZerosOnto
namespace Go.Proofs.Ytkjfecdpakhggaa
open Go.RowKit
set_option linter.unusedVariables false
set_option linter.unusedSimpArgs false

-- the walk's own words, told plainly
theorem setK_eq {α : Type} : ∀ (l : List α) (d : Nat) (x : α) (K : List α → Prop), setK l d x K = K (l.set d x)
  | [], d, x, K => by simp [setK]
  | y :: l, 0, x, K => rfl
  | y :: l, d + 1, x, K => by simp [setK, setK_eq l d x]
theorem snocK_eq {α : Type} : ∀ (l : List α) (x : α) (K : List α → Prop), snocK l x K = K (l ++ [x])
  | [], x, K => rfl
  | y :: l, x, K => by simp [snocK, snocK_eq l x]
theorem mapK_eq {α β : Type} (f : α → β) : ∀ (l : List α) (K : List β → Prop), mapK f l K = K (l.map f)
  | [], K => rfl
  | x :: l, K => by simp [mapK, mapK_eq f l]
theorem force1K_eq (x : SV) (K : SV → Prop) : force1K x K = K x := by cases x <;> rfl
theorem aggK_eq : ∀ (l : List SV) (K : List SV → Prop), aggK l K = K l
  | [], K => rfl
  | x :: l, K => by rw [aggK, force1K_eq, aggK_eq l]
theorem forceK_eq (x : SV) (K : SV → Prop) : forceK x K = K x := by cases x <;> first | rfl | exact aggK_eq _ _
theorem evsK_eq (fr : List SV) : ∀ (l : List Operand) (K : List SV → Prop), evsK fr l K = K (l.map (ev fr))
  | [], K => rfl
  | o :: l, K => by simp [evsK, forceK_eq, evsK_eq fr l]
theorem vsome_iff {b : Bool} {K : Prop} : vsome b K ↔ b = true ∧ K := by cases b <;> simp [vsome]
section
variable {nG : Mm} {β : Nat → Nat} {M : Mm} {w w' : World}
theorem Rel.add (h : Rel nG β M w') {b : Nat} (hb : ∀ (j : Nat) (e : Ent), M[j]? = some e → e.c.here = true → ¬ own (β j) e.c b) {x : Cont} (hx : x.wf M.length = true) (hh : Holds w' b true (x.cells β) x.shp) (hn : x.isRes = false := by rfl) : Rel nG (upd1 β M.length b) (M ++ [⟨true, x⟩]) w' := by
  have ha := upd1_agree β M.length b
  have get : ∀ (k : Nat) (e : Ent), (M ++ [⟨true, x⟩])[k]? = some e → (k < M.length ∧ M[k]? = some e) ∨ (k = M.length ∧ e = ⟨true, x⟩) := fun k e he => by
    rcases Nat.lt_or_ge k M.length with q | q
    · rw [List.getElem?_append_left q] at he; exact .inl ⟨q, he⟩
    · rw [List.getElem?_append_right q] at he
      have : k - M.length = 0 := by
        rcases Nat.eq_zero_or_pos (k - M.length) with q2 | q2
        · exact q2
        · rw [List.getElem?_eq_none (by simp; omega)] at he; cases he
      rw [this] at he
      exact .inr ⟨by omega, (Option.some.inj he).symm⟩
  have eb : upd1 β M.length b M.length = b := by unfold upd1; rw [if_pos rfl]
  refine ⟨fun k e he hc => ?_, fun i j p q hp hq hij hr hpc hqc => ?_, fun g hg => ?_, by simp; exact Nat.le_succ_of_le h.gl, fun k hk => by rw [List.getElem?_append_left (Nat.lt_of_lt_of_le hk h.gl)]; exact h.pre k hk, h.ro, fun k e he => ?_⟩
  · rcases get k e he with ⟨q, hM⟩ | ⟨rfl, rfl⟩
    · rw [ha k q, at_agree ha _ (h.wf k e hM)]; exact h.all k e hM hc
    · rw [eb, at_agree ha _ hx]; exact (At_of hn).2 hh
  · rcases get i p hp with ⟨qi, hi⟩ | ⟨ei, rfl⟩
    · rcases get j q hq with ⟨qj, hj⟩ | ⟨ej, rfl⟩
      · rw [ha i qi, ha j qj]; exact h.dis i j p q hi hj hij hr hpc hqc
      · rw [ha i qi, ej, eb]; intro c hc1 hc2; rw [(own_of hn).1 hc2] at hc1; exact hb i p hi hpc hc1
    · rcases get j q hq with ⟨qj, hj⟩ | ⟨ej, rfl⟩
      · rw [ha j qj, ei, eb]; intro c hc2 hc1; rw [(own_of hn).1 hc2] at hc1; exact hb j q hj hqc hc1
      · omega
  · rw [ha g (Nat.lt_of_lt_of_le hg h.gl)]; exact h.glob g hg
  · rcases get k e he with ⟨q, hM⟩ | ⟨rfl, rfl⟩
    · exact cwf_mono (by simp) _ (h.wf k e hM)
    · exact cwf_mono (by simp) _ hx
theorem Ext.add {b : Nat} {x : Cont} (hb : rwset β M b ∨ w.heap.size ≤ b) (hF : Fp (rwset β M) w w') (hn : x.isRes = false := by rfl) : Ext β M w (upd1 β M.length b) (M ++ [⟨true, x⟩]) w' := by
  have ha := upd1_agree β M.length b
  refine ⟨ha, by simp, fun c hc => ?_, hF, fun k e he => ⟨e.c, by rw [List.getElem?_append_left (lt_of_get he)]; exact he, fun _ => rfl⟩, fun k e hk he => ?_⟩
  · obtain ⟨k, e, he, hr, ho⟩ := hc
    rcases Nat.lt_or_ge k M.length with q | q
    · rw [ha k q] at ho; rw [List.getElem?_append_left q] at he; exact .inl ⟨k, e, he, hr, ho⟩
    · have hk : k = M.length := by have := lt_of_get he; simp at this; omega
      subst hk
      have eb : upd1 β M.length b M.length = b := by unfold upd1; rw [if_pos rfl]
      rw [List.getElem?_append_right (Nat.le_refl _), Nat.sub_self] at he
      obtain rfl := Option.some.inj he
      rw [eb] at ho
      rw [(own_of hn).1 ho]; exact hb
  · have hk2 : k = M.length := by have := lt_of_get he; simp at this; omega
    subst hk2
    simp at he
    rw [← he]
/-- A block of ours goes on at another place of the list. -/
theorem Rel.move (h : Rel nG β M w) {k : Nat} {c x : Cont} (hk : M[k]? = some ⟨true, c⟩) (hc : c.here = true) (hF : Fp (fun i => i = β k) w w') (hx : x.wf M.length = true) (hh : Holds w' (β k) true (x.cells β) x.shp) (hn : c.isRes = false := by rfl) (hn' : x.isRes = false := by rfl) :
    Rel nG (upd1 β M.length (β k)) (M.set k ⟨true, .gone⟩ ++ [⟨true, x⟩]) w' ∧ Ext β M w (upd1 β M.length (β k)) (M.set k ⟨true, .gone⟩ ++ [⟨true, x⟩]) w' := by
  obtain ⟨h1, h2⟩ := h.set (c' := .gone) hk hc hF rfl (fun h => by cases h) hn
  have hl : (M.set k ⟨true, .gone⟩).length = M.length := by simp
  have h3 := h1.add (b := β k) (x := x) (fun j e he hce => by
    by_cases q : k = j
    · subst q; rw [List.getElem?_set_self (lt_of_get hk)] at he; obtain rfl := Option.some.inj he; cases hce
    · rw [List.getElem?_set_ne q] at he; exact h.dis k j _ _ hk he q rfl hc hce _ (own_self hn)) (by rw [hl]; exact hx) hh hn'
  have h4 : Ext β (M.set k ⟨true, .gone⟩) w' (upd1 β (M.set k ⟨true, .gone⟩).length (β k)) (M.set k ⟨true, .gone⟩ ++ [⟨true, x⟩]) w' := Ext.add (.inl ⟨k, ⟨true, .gone⟩, List.getElem?_set_self (lt_of_get hk), rfl, rfl⟩) (Fp.refl _ w') hn'
  rw [hl] at h3 h4
  exact ⟨h3, h2.trans h4⟩
end
/-- Cells that are written one behind another. -/
theorem shape_setCell (w : World) (a : Addr) (v : Value) (b : Nat) : (w.setCell a v).shape? b = w.shape? b := by
  unfold World.shape? World.setCell
  simp only [Array.getElem?_modify]
  by_cases e : a.block = b
  · rw [if_pos e]
    cases h : w.heap[b]? with
    | none => rfl
    | some o => cases o <;> first | rfl | (simp only [Option.map_some]; split <;> simp)
  · rw [if_neg e]
theorem shape_setCells (b : Nat) : ∀ (vs : List Value) (o : Nat) (w : World) (k : Nat), (w.setCells b o vs).shape? k = w.shape? k
  | [], o, w, k => rfl
  | v :: r, o, w, k => (shape_setCells b r (o + 1) _ k).trans (shape_setCell _ _ _ _)
theorem sane_setCell {w : World} {b o : Nat} {v : Value} (h : Sane w b) : Sane (w.setCell ⟨b, o, none⟩ v) b := fun c e lo hi hh => by
  unfold World.setCell at hh
  simp only [Array.getElem?_modify, if_true] at hh
  cases hb : w.heap[b]? with
  | none => rw [hb] at hh; cases hh
  | some ob =>
    rw [hb] at hh
    cases ob with
    | cells c0 e0 f0 =>
      obtain ⟨lo0, hi0⟩ := f0
      simp only [Option.map_some, Option.some.injEq, Obj.cells.injEq, Prod.mk.injEq] at hh
      obtain ⟨-, rfl, rfl, rfl⟩ := hh
      exact h c0 e0 lo0 hi0 hb
    | _ => simp at hh
theorem sane_setCells (b : Nat) : ∀ (vs : List Value) (o : Nat) (w : World), Sane w b → Sane (w.setCells b o vs) b
  | [], o, w, h => h
  | v :: r, o, w, h => sane_setCells b r (o + 1) _ (sane_setCell h)
theorem Holds.setCells {w : World} {b off : Nat} {cs vs : List Value} {sh : Option (Nat × Nat)} (h : Holds w b true cs sh) (hl : off + vs.length ≤ cs.length) : Holds (w.setCells b off vs) b true (cs.take off ++ vs ++ cs.drop (off + vs.length)) sh := by
  have hsome : ∀ j, j < vs.length → (w.cell? ⟨b, off + j, none⟩).isSome = true := fun j hj => by
    rw [h.cell (off + j) _ (List.getElem?_eq_getElem (by omega))]; rfl
  have hlen : (cs.take off).length = off := by simp; omega
  refine ⟨Nat.lt_of_lt_of_le h.lt (Fp.setCells b vs off w).size, fun j v hv => ?_, fun _ j hj => ?_, fun s hs => (shape_setCells _ _ _ _ _).trans (h.shp s hs), fun hr => sane_setCells b vs off w (h.iv hr), fun hr hs j => by rw [World.frozen?_setCells]; exact h.fz hr hs j⟩
  · rcases Nat.lt_or_ge j off with q | q
    · rw [World.cell?_setCells_out b vs off w _ (fun _ _ => .inl q)]
      rw [List.append_assoc, List.getElem?_append_left (by omega), List.getElem?_take_of_lt q] at hv
      exact h.cell j v hv
    · rcases Nat.lt_or_ge j (off + vs.length) with q2 | q2
      · rw [List.append_assoc, List.getElem?_append_right (by omega), hlen, List.getElem?_append_left (by omega)] at hv
        obtain ⟨i, rfl⟩ := Nat.exists_eq_add_of_le q
        rw [World.cell?_setCells_in b vs off w hsome i (by omega)]
        rw [Nat.add_sub_cancel_left, List.getElem?_eq_getElem (by omega)] at hv
        exact hv
      · rw [World.cell?_setCells_out b vs off w _ (fun _ _ => .inr q2)]
        rw [List.getElem?_append_right (by simp; omega), List.getElem?_drop] at hv
        refine h.cell j v ?_
        rw [← hv]; congr 1; simp; omega
  · rw [World.frozen?_setCells]
    refine h.free rfl j ?_
    simp at hj
    omega
theorem set_cells {α : Type} (f : α → Value) (l : List α) (off : Nat) (x : α) (h : off < l.length) : (l.set off x).map f = (l.map f).take off ++ [f x] ++ (l.map f).drop (off + 1) := by
  rw [List.map_set, List.set_eq_take_append_cons_drop, if_pos (by simpa using h)]
  simp
section
variable {P : Program} {w : World} (β : Nat → Nat)
theorem store_run {t b off : Nat} {v : Value} {cs : List Value} {sh : Option (Nat × Nat)} (hs : (P.info? t).map (·.size) = some v.cells.size) (h : Holds w b true cs sh) (hl : off + v.cells.size ≤ cs.length) (h1 : ∀ u ∈ v.cells.toList, u.oneCell' = true) :
    (Instr.storeAt t (.pointer (some ⟨b, off, none⟩)) v).run P w = .ok () (w.setCells b off v.cells.toList) := by
  have hst := run_storeCells_cells (P := P) b off v.cells.toList 0 w (fun j hj => by rw [Nat.add_zero, h.cell (off + j) _ (List.getElem?_eq_getElem (by simp at hj; omega))]; rfl) (fun j hj => by rw [Nat.add_zero]; exact h.free rfl (off + j) (by simp at hj; omega)) h1
  cases hi : P.info? t with
  | none => simp [hi] at hs
  | some i =>
    have hs' : i.size = v.cells.size := by simpa [hi] using hs
    simp [Instr.storeAt, Instr.sureAddr, storeVar, sizeOf, typeInfo, hi, hs']
    exact hst
theorem oneCell_ok {x : SV} (h : oneCell x = true ∨ nilV x = true) : (val β x).oneCell' = true := by
  rcases h with h | h
  · cases x <;> first | rfl | exact ns_one β _ _ _ _ _ | cases h
  · unfold nilV at h
    split at h <;> first | rfl | cases h
theorem qstore_ok {t off k : Nat} {c c' : Cont} {x : SV} (hp : 0 < sizeT P t) (hc : Holds w (β k) true (c.cells β) c.shp) (hq : qstore P t off c x = some (true, c')) :
    ∃ vs : List Value, (Instr.storeAt t (.pointer (some ⟨β k, off, none⟩)) (val β x)).run P w = .ok () (w.setCells (β k) off vs) ∧ Holds (w.setCells (β k) off vs) (β k) true (c'.cells β) c'.shp := by
  have sz : ∀ n, n = sizeT P t → (P.info? t).map (·.size) = some n := fun n hn => by subst hn; exact size_of (by simp) hp
  have whole : ∀ (vs cs : List Value), val β x = .agg vs.toArray → c.cells β = cs → c'.cells β = vs → off = 0 → vs.length = cs.length → vs.length = sizeT P t → (∀ u ∈ vs, u.oneCell' = true) → c'.shp = c.shp → ∃ vs : List Value, (Instr.storeAt t (.pointer (some ⟨β k, off, none⟩)) (val β x)).run P w = .ok () (w.setCells (β k) off vs) ∧ Holds (w.setCells (β k) off vs) (β k) true (c'.cells β) c'.shp := by
    intro vs cs hv hcs hcs' h0 h1 h2 hone hsh
    subst h0
    rw [hcs] at hc
    have e : (val β x).cells.toList = vs := by rw [hv]; simp [Value.cells]
    have es : (val β x).cells.size = vs.length := by rw [← Array.length_toList, e]
    refine ⟨vs, ?_, ?_⟩
    · rw [← e]; exact store_run (by rw [es]; exact sz _ h2) hc (by rw [es]; omega) (by rw [e]; exact hone)
    · have := hc.setCells (off := 0) (vs := vs) (by omega)
      rw [hcs', hsh]
      rw [List.take_zero, List.nil_append, List.drop_eq_nil_of_le (by omega), List.append_nil] at this
      exact this
  have one : ∀ (u : Value) (cs : List Value), val β x = u → u.oneCell' = true → c.cells β = cs → c'.cells β = cs.take off ++ [u] ++ cs.drop (off + 1) → off < cs.length → sizeT P t = 1 → c'.shp = c.shp → ∃ vs : List Value, (Instr.storeAt t (.pointer (some ⟨β k, off, none⟩)) (val β x)).run P w = .ok () (w.setCells (β k) off vs) ∧ Holds (w.setCells (β k) off vs) (β k) true (c'.cells β) c'.shp := by
    intro u cs hv hu hcs hcs' hoff hs hsh
    rw [hcs] at hc
    have e : u.cells = #[u] := one_cells hu
    refine ⟨[u], ?_, ?_⟩
    · have := store_run (P := P) (t := t) (v := u) (off := off) (by rw [e]; exact sz 1 hs.symm) hc (by rw [e]; simp; omega) (by rw [e]; simpa using hu)
      rw [e] at this
      rw [hv]; exact this
    · rw [hcs', hsh]
      exact hc.setCells (vs := [u]) (by simp; omega)
  unfold qstore at hq
  split at hq
  · rename_i l m
    simp only [Option.some.injEq, Prod.mk.injEq, Bool.and_eq_true] at hq
    obtain ⟨⟨⟨⟨-, h0⟩, h1⟩, h2⟩, rfl⟩ := hq
    exact whole (m.map c64) (l.map c64) rfl rfl rfl (Nat.eq_of_beq_eq_true h0) (by simpa using Nat.eq_of_beq_eq_true h1) (by simpa using Nat.eq_of_beq_eq_true h2) (fun u hu => by obtain ⟨a, -, rfl⟩ := List.mem_map.1 hu; rfl) rfl
  · rename_i l m
    simp only [Option.some.injEq, Prod.mk.injEq, Bool.and_eq_true] at hq
    obtain ⟨⟨⟨⟨-, h0⟩, h1⟩, h2⟩, rfl⟩ := hq
    exact whole (m.map c32) (l.map c32) rfl rfl rfl (Nat.eq_of_beq_eq_true h0) (by simpa using Nat.eq_of_beq_eq_true h1) (by simpa using Nat.eq_of_beq_eq_true h2) (fun u hu => by obtain ⟨a, -, rfl⟩ := List.mem_map.1 hu; rfl) rfl
  · rename_i l m
    simp only [Option.some.injEq, Prod.mk.injEq, Bool.and_eq_true] at hq
    obtain ⟨⟨⟨⟨-, h0⟩, h1⟩, h2⟩, rfl⟩ := hq
    exact whole (m.map c8) (l.map c8) rfl rfl rfl (Nat.eq_of_beq_eq_true h0) (by simpa using Nat.eq_of_beq_eq_true h1) (by simpa using Nat.eq_of_beq_eq_true h2) (fun u hu => by obtain ⟨a, -, rfl⟩ := List.mem_map.1 hu; rfl) rfl
  · rename_i l a
    simp only [Option.some.injEq, Prod.mk.injEq, Bool.and_eq_true] at hq
    obtain ⟨⟨h0, h1⟩, rfl⟩ := hq
    exact one (c64 a) (l.map c64) rfl rfl rfl (set_cells c64 l off a (blt_lt h1)) (by simpa using blt_lt h1) (Nat.eq_of_beq_eq_true h0) rfl
  · rename_i l a
    simp only [Option.some.injEq, Prod.mk.injEq, Bool.and_eq_true] at hq
    obtain ⟨⟨h0, h1⟩, rfl⟩ := hq
    exact one (c32 a) (l.map c32) rfl rfl rfl (set_cells c32 l off a (blt_lt h1)) (by simpa using blt_lt h1) (Nat.eq_of_beq_eq_true h0) rfl
  · rename_i l a
    simp only [Option.some.injEq, Prod.mk.injEq, Bool.and_eq_true] at hq
    obtain ⟨⟨h0, h1⟩, rfl⟩ := hq
    exact one (c8 a) (l.map c8) rfl rfl rfl (set_cells c8 l off a (blt_lt h1)) (by simpa using blt_lt h1) (Nat.eq_of_beq_eq_true h0) rfl
  · rename_i l a
    simp only [Option.some.injEq, Prod.mk.injEq, Bool.and_eq_true] at hq
    obtain ⟨⟨h0, h1⟩, rfl⟩ := hq
    exact one (.int .i64 a) (l.map (.int .i64 ·)) rfl rfl rfl (set_cells (.int .i64 ·) l off a (blt_lt h1)) (by simpa using blt_lt h1) (Nat.eq_of_beq_eq_true h0) rfl
  · rename_i l m
    simp only [Option.some.injEq, Prod.mk.injEq, Bool.and_eq_true] at hq
    obtain ⟨⟨⟨⟨⟨-, h2⟩, h0⟩, h1⟩, h3⟩, rfl⟩ := hq
    refine whole (vals β m) (vals β l) rfl rfl rfl (Nat.eq_of_beq_eq_true h0) ?_ ?_ (fun u hu => ?_) rfl
    · simpa [vals_map] using Nat.eq_of_beq_eq_true h1
    · simpa [vals_map] using Nat.eq_of_beq_eq_true h2
    · rw [vals_map] at hu
      obtain ⟨y, hy, rfl⟩ := List.mem_map.1 hu
      exact oneCell_ok β (by simpa using List.all_eq_true.1 h3 y hy)
  · rename_i l m
    simp only [Option.some.injEq, Prod.mk.injEq, Bool.and_eq_true] at hq
    obtain ⟨⟨⟨-, h2⟩, h1⟩, rfl⟩ := hq
    have h1 := Nat.le_of_ble_eq_true h1
    have h2 := Nat.eq_of_beq_eq_true h2
    refine ⟨m.map c32, ?_, ?_⟩
    · have := store_run (P := P) (t := t) (v := .agg (m.map c32).toArray) (off := off) (by simpa [Value.cells] using sz _ h2) hc (by simpa [Value.cells, Cont.cells, vals_map] using h1) (fun u hu => by simp [Value.cells] at hu; obtain ⟨a, -, rfl⟩ := hu; rfl)
      show (Instr.storeAt t (.pointer (some ⟨β k, off, none⟩)) (.agg (m.map c32).toArray)).run P w = _
      simpa [Value.cells] using this
    · have := hc.setCells (off := off) (vs := m.map c32) (by simpa [Cont.cells, vals_map] using h1)
      have e : (Cont.row (l.take off ++ m.map SV.w32 ++ l.drop (off + m.length))).cells β = ((Cont.row l).cells β).take off ++ m.map c32 ++ ((Cont.row l).cells β).drop (off + m.length) := by
        simp [Cont.cells, vals_map, Function.comp_def, val]
      rw [List.length_map] at this
      rw [e]
      exact this
  · rename_i l _ _
    cases hb : (oneCell x || nilV x)
    · rw [hb] at hq; cases hq
    · rw [hb] at hq
      simp only [cond_true, Option.some.injEq, Prod.mk.injEq, Bool.and_eq_true] at hq
      obtain ⟨⟨h0, h1⟩, rfl⟩ := hq
      refine one (val β x) (vals β l) rfl (oneCell_ok β (by simpa using hb)) rfl ?_ (by simpa [vals_map] using blt_lt h1) (Nat.eq_of_beq_eq_true h0) rfl
      show vals β (l.set off x) = _
      rw [vals_map, vals_map]
      exact set_cells (val β) l off x (blt_lt h1)
  · rename_i u l
    cases hb : (oneCell x || nilV x)
    · rw [hb] at hq; cases hq
    · rw [hb] at hq
      simp only [cond_true, Option.some.injEq, Prod.mk.injEq, Bool.and_eq_true] at hq
      obtain ⟨⟨h0, h1⟩, rfl⟩ := hq
      refine one (val β x) (vals β l) rfl (oneCell_ok β (by simpa using hb)) rfl ?_ (by simpa [vals_map] using blt_lt h1) (Nat.eq_of_beq_eq_true h0) (by simp [Cont.shp])
      show vals β (l.set off x) = _
      rw [vals_map, vals_map]
      exact set_cells (val β) l off x (blt_lt h1)
  · cases hq
theorem isBytes_ok {t : Nat} (h : isBytes P t = true) : ∃ e i, P.underlying t = some (.slice e) ∧ P.info? e = some i ∧ i.size = 1 ∧ i.zero = some (.int .u8 0) ∧ i.bytes = 1 := by
  unfold isBytes at h
  split at h
  · rename_i e hu
    simp only [Bool.and_eq_true] at h
    obtain ⟨i, hi, hi1⟩ := size_one h.1.2
    obtain ⟨i', hi', hz, hb⟩ := zIs_ok h.2
    obtain rfl : i = i' := Option.some.inj (hi.symm.trans hi')
    exact ⟨e, i, hu, hi, hi1, hz, hb⟩
  · cases h
theorem isWords_ok {t : Nat} (h : isWords P t = true) : ∃ e i, P.underlying t = some (.slice e) ∧ P.info? e = some i ∧ i.size = 1 ∧ i.zero = some (.int .u64 0) ∧ i.bytes = 8 := by
  unfold isWords at h
  split at h
  · rename_i e hu
    simp only [Bool.and_eq_true] at h
    obtain ⟨i, hi, hi1⟩ := size_one h.1.2
    obtain ⟨i', hi', hz, hb⟩ := zIs_ok h.2
    obtain rfl : i = i' := Option.some.inj (hi.symm.trans hi')
    exact ⟨e, i, hu, hi, hi1, hz, hb⟩
  · cases h
theorem srcOk_s {tx : Nat} {l : List (BitVec 8)} (h : srcOk P tx (.s l) = true) : P.underlying tx = some .string := by
  unfold srcOk at h
  cases hu : P.underlying tx with
  | none => rw [hu] at h; cases h
  | some d => rw [hu] at h; cases d <;> first | rfl | cases h
theorem srcOk_sl {tx k off len cap : Nat} (h : srcOk P tx (.sl k off len cap) = true) : ∃ e, P.underlying tx = some (.slice e) := by
  unfold srcOk at h
  cases hu : P.underlying tx with
  | none => rw [hu] at h; cases h
  | some d => rw [hu] at h; cases d <;> first | exact ⟨_, rfl⟩ | cases h
theorem srcOk_i {tx : Nat} {z : Int} (h : srcOk P tx (.i z) = true) : ∃ k, P.underlying tx = some (.int k) := by
  unfold srcOk at h
  cases hu : P.underlying tx with
  | none => rw [hu] at h; cases h
  | some d => rw [hu] at h; cases d <;> first | exact ⟨_, rfl⟩ | cases h
/-- What is added, as the model reads it. -/
theorem added_ok {nG : Mm} {M : Mm} (hR : Rel nG β M w) {tys : List Nat} {tx : Nat} {x : SV} {m : List (BitVec 8)} (hs : srcOk P tx x = true) (ha : addedBytes P tys M x = some (true, m)) :
    (∃ n, Src P 1 tx (val β x) n (m.map c8) w ∧ n = m.length) ∨ (∃ (z : Int) (k : IntKind), x = .i z ∧ 0 < z ∧ z ≤ 1099511627776 ∧ m = List.replicate z.toNat 0 ∧ P.underlying tx = some (.int k)) := by
  cases x <;> simp only [addedBytes, reduceCtorEq] at ha
  case i z =>
    right
    obtain ⟨k, hu⟩ := srcOk_i hs
    split at ha
    · rename_i t
      cases hb : isInt P .i64 t
      · rw [hb] at ha; cases ha
      · rw [hb] at ha
        simp only [cond_true, Option.some.injEq, Prod.mk.injEq, Bool.and_eq_true, ile_eq, ilt_eq, decide_eq_true_eq] at ha
        exact ⟨z, k, rfl, ha.1.1, ha.1.2, ha.2.symm, hu⟩
    · cases ha
  case s l =>
    left
    simp only [Option.some.injEq, Prod.mk.injEq, true_and] at ha
    subst ha
    have h := Src.ofString w (srcOk_s hs) (txt l)
    have e : byteCells (txt l) = l.map c8 := by
      unfold byteCells
      simp only [txt, List.map_map]
      apply List.map_congr_left
      intro y _
      simp [c8]
    rw [e] at h
    exact ⟨_, h, txt_size l⟩
  case sl k off len cap =>
    left
    obtain ⟨e', he⟩ := srcOk_sl hs
    split at ha
    · rename_i r l hk
      simp only [Option.some.injEq, Prod.mk.injEq, decide_eq_true_eq] at ha
      obtain ⟨hb, rfl⟩ := ha
      have hh := hR.all k _ hk rfl
      have hl : ((l.drop off).take len).length = len := by simp; omega
      refine ⟨len, Src.ofSlice w he ⟨β k, off, none⟩ len cap _ (by simp; omega) (fun j v hv => ?_) (fun u hu => by obtain ⟨a, -, rfl⟩ := List.mem_map.1 hu; rfl), hl.symm⟩
      rw [Addr.add_mid]
      have := sub_range (w := w) (off := off) (n := len) hh
      refine this j v ?_
      rw [← hv]
      simp [Cont.cells]
    · cases ha
theorem room_zeros (t tn ty e : Nat) (i : TypeInfo) (kq kn : IntKind) (ht : P.underlying t = some (.slice e)) (htn : P.underlying tn = some (.int kn)) (hi : P.info? e = some i) (h1 : i.size = 1) (hb : i.bytes = 1) (hz : i.zero = some (.int .u8 0)) (b off sLen sCap : Nat) (k : Nat) (h0 : 0 < k) (hk : k ≤ 1099511627776)
    (hroom : sLen + k ≤ sCap) (hc : ∀ j, j < k → (w.cell? ⟨b, off + sLen + j, none⟩).isSome = true) (hf : ∀ j, j < k → w.frozen? ⟨b, off + sLen + j, none⟩ = false) :
    (Builtin.append_ #[t, tn] ty #[.slice (some ⟨b, off, none⟩) sLen sCap, .int kq k]).run P w = .ok (.slice (some ⟨b, off, none⟩) (sLen + k) sCap) (w.setCells b (off + sLen) (List.replicate k (.int .u8 0))) := by
  have hst := run_storeCells_cells (P := P) b (off + sLen) (List.replicate k (Value.int .u8 0)) 0 w (by simpa using hc) (by simpa using hf) (fun v hv => by rw [(List.mem_replicate.1 hv).2]; rfl)
  simp only [Nat.add_zero] at hst
  have hw : IntKind.i64.wrap (k : Int) = k := by rw [IntKind.wrap_i64]; omega
  have hneg : ¬ ((k : Int) < 0) := by omega
  have hk0 : ¬ (k = 0) := by omega
  have h48i : ¬ (281474976710656 < (k : Int)) := by omega
  have ez : (Builtin.zeroCells #[Value.int .u8 0] k).toList = List.replicate k (.int .u8 0) := by
    simp [Builtin.zeroCells]
    apply List.ext_getElem
    · simp
    · intro n h1 h2; simp [Nat.mod_one]
  simp [Builtin.append_, run_underlying ht, run_underlying htn, sizeOf, typeInfo, zeroValue, hi, hz, h1, hb, asInt, asIntOf, hw, hneg, hk0, h48i, hroom, Value.cells, ez, Addr.add_mid, hst]
theorem zeros_list (n : Nat) : (Builtin.zeroCells (Value.int .u8 0).cells n).toList = (List.replicate n (0 : BitVec 8)).map c8 := by
  simp [Builtin.zeroCells, Value.cells]
  apply List.ext_getElem
  · simp
  · intro k h1 h2; simp [Nat.mod_one, c8]
theorem zeros_listW (n : Nat) : (Builtin.zeroCells (Value.int .u64 0).cells n).toList = (List.replicate n (0 : BitVec 64)).map c64 := by
  simp [Builtin.zeroCells, Value.cells]
  apply List.ext_getElem
  · simp
  · intro k h1 h2; simp [Nat.mod_one, c64]
theorem srcW {nG : Mm} {M : Mm} (hR : Rel nG β M w) {tx k off len cap : Nat} {r : Bool} {l : List (BitVec 64)} (hs : srcOk P tx (.sl k off len cap) = true) (hk : M[k]? = some ⟨r, .a64 l⟩) (hb : off + len ≤ l.length) :
    Src P 1 tx (val β (.sl k off len cap)) len (((l.drop off).take len).map c64) w := by
  obtain ⟨e', he⟩ := srcOk_sl hs
  have hh := hR.all k _ hk rfl
  have hl : ((l.drop off).take len).length = len := by simp; omega
  refine Src.ofSlice w he ⟨β k, off, none⟩ len cap _ (by simp; omega) (fun j v hv => ?_) (fun u hu => by obtain ⟨a, -, rfl⟩ := List.mem_map.1 hu; rfl)
  rw [Addr.add_mid]
  have := sub_range (w := w) (off := off) (n := len) hh
  refine this j v ?_
  rw [← hv]
  simp [Cont.cells]
end
end Go.Proofs.Ytkjfecdpakhggaa
