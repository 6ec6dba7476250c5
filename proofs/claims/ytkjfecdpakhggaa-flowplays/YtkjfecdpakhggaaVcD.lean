/-
  A reckoner of conditions: when a world is as the blocks' list tells, and what changes keep that. No statement is proved here.
-/
import Derived.Test.YtkjfecdpakhggaaVcC
import Derived.Deep.MidRow
import Derived.Deep.AppendSrc
import Derived.Deep.LoopGhost
import Derived.Laws.BytesString
import Derived.Laws.MakeOwn
namespace Go.Proofs.Ytkjfecdpakhggaa
open Go.RowKit
set_option linter.unusedVariables false
set_option linter.unusedSimpArgs false

/-- What is frozen of a block is a row of cells. -/
def Sane (w : World) (b : Nat) : Prop := ∀ (c : Array Value) (e lo hi : Nat), w.heap[b]? = some (.cells c e (lo, hi)) → lo ≤ hi
/-- The cells cs stand at the head of block b; where they are ours, they may be written. -/
structure Holds (w : World) (b : Nat) (rw : Bool) (cs : List Value) (sh : Option (Nat × Nat) := none) : Prop where
  lt : b < w.heap.size
  cell : ∀ (j : Nat) (v : Value), cs[j]? = some v → w.cell? ⟨b, j, none⟩ = some v
  free : rw = true → ∀ j, j < cs.length → w.frozen? ⟨b, j, none⟩ = false
  shp : ∀ s, sh = some s → w.shape? b = some s
  iv : rw = true → Sane w b
  fz : rw = true → sh.isSome = true → ∀ j, w.frozen? ⟨b, j, none⟩ = false
theorem shape_of_block {w w' : World} {b : Nat} (e : w'.heap[b]? = w.heap[b]?) : w'.shape? b = w.shape? b := by unfold World.shape?; rw [e]
/-- Nothing is changed but in the blocks S. -/
structure Fp (S : Nat → Prop) (w w' : World) : Prop where
  os : w'.os = w.os
  tape : w'.tape = w.tape
  output : w'.output = w.output
  size : w.heap.size ≤ w'.heap.size
  block : ∀ k, k < w.heap.size → ¬ S k → w'.heap[k]? = w.heap[k]?
/-- What a block of a resource is in the world. -/
def RO.In (w : World) (b : Nat) : RO → Prop
  | .cells cs sh => Holds w b true cs sh
  | .map es clk => w.heap[b]? = some (.map es clk)
  | .iter m since seen stepped => w.heap[b]? = some (.mapIter (some m) since seen.toArray stepped)
theorem RO.lt {w : World} {b : Nat} {o : RO} (h : o.In w b) : b < w.heap.size := by
  cases o with
  | cells cs sh => exact Holds.lt h
  | map es clk =>
    rcases Nat.lt_or_ge b w.heap.size with q | q
    · exact q
    · have h' : w.heap[b]? = some (.map es clk) := h
      rw [Array.getElem?_eq_none q] at h'; cases h'
  | iter m since seen stepped =>
    rcases Nat.lt_or_ge b w.heap.size with q | q
    · exact q
    · have h' : w.heap[b]? = some (.mapIter (some m) since seen.toArray stepped) := h
      rw [Array.getElem?_eq_none q] at h'; cases h'
/-- A resource: its blocks, each another one. -/
structure RIn (l : List (Nat × RO)) (w : World) : Prop where
  all : ∀ p ∈ l, p.2.In w p.1
  dis : (l.map (·.1)).Nodup
/-- Which blocks belong to what is told at a place. -/
def own (b : Nat) (c : Cont) (i : Nat) : Prop := match c with
  | .res s => i ∈ s.objs.map (·.1)
  | _ => i = b
/-- The world is so at a place. -/
def At (β : Nat → Nat) (w : World) (b : Nat) (rw : Bool) (c : Cont) : Prop := match c with
  | .res s => b = s.mb ∧ RIn s.objs w
  | c => Holds w b rw (c.cells β) c.shp
theorem own_of {b : Nat} {c : Cont} (h : c.isRes = false) {i : Nat} : own b c i ↔ i = b := by cases c <;> first | exact Iff.rfl | cases h
theorem own_self {b : Nat} {c : Cont} (h : c.isRes = false) : own b c b := (own_of h).2 rfl
theorem At_of {β : Nat → Nat} {w : World} {b : Nat} {rw : Bool} {c : Cont} (h : c.isRes = false) : At β w b rw c ↔ Holds w b rw (c.cells β) c.shp := by cases c <;> first | exact Iff.rfl | cases h
abbrev Fp0 (w w' : World) : Prop := Fp (fun _ => False) w w'
theorem Fp.refl (S : Nat → Prop) (w : World) : Fp S w w := ⟨rfl, rfl, rfl, Nat.le_refl _, fun _ _ _ => rfl⟩
theorem Fp.mono {S T : Nat → Prop} {w w' : World} (h : Fp S w w') (hS : ∀ k, k < w.heap.size → S k → T k) : Fp T w w' :=
  ⟨h.os, h.tape, h.output, h.size, fun k hk hT => h.block k hk fun hs => hT (hS k hk hs)⟩
theorem Fp.trans {S T : Nat → Prop} {a b c : World} (h : Fp S a b) (k : Fp T b c) (hT : ∀ t, T t → S t ∨ a.heap.size ≤ t) : Fp S a c :=
  ⟨k.os.trans h.os, k.tape.trans h.tape, k.output.trans h.output, Nat.le_trans h.size k.size,
   fun i hi hS => (k.block i (Nat.lt_of_lt_of_le hi h.size) (fun ht => by rcases hT i ht with h1 | h1; exact hS h1; omega)).trans (h.block i hi hS)⟩
theorem Fp.trans0 {S : Nat → Prop} {a b c : World} (h : Fp S a b) (k : Fp0 b c) : Fp S a c := h.trans k (fun t ht => ht.elim)
theorem Fp.alloc (w : World) (o : Obj) : Fp0 w (w.alloc o) := ⟨rfl, rfl, rfl, by simp, fun k hk _ => Below.heap_alloc _ _ _ hk⟩
theorem Fp.drew (w : World) : Fp0 w w.drew := ⟨rfl, rfl, rfl, Nat.le_refl _, fun _ _ _ => rfl⟩
theorem Fp.setCells (b : Nat) : ∀ (vs : List Value) (o : Nat) (w : World), Fp (fun k => k = b) w (w.setCells b o vs)
  | [], o, w => Fp.refl _ w
  | v :: r, o, w => (show Fp (fun k => k = b) w (w.setCell ⟨b, o, none⟩ v) from ⟨rfl, rfl, rfl, by simp, fun k _ hk => heap_setCell_other _ _ _ _ hk⟩).trans (Fp.setCells b r (o + 1) _) fun t ht => .inl ht
theorem Holds.same {w w' : World} {b : Nat} {rw : Bool} {cs : List Value} {sh : Option (Nat × Nat)} (h : Holds w b rw cs sh) (e : w'.heap[b]? = w.heap[b]?) (hs : w.heap.size ≤ w'.heap.size) : Holds w' b rw cs sh :=
  ⟨Nat.lt_of_lt_of_le h.lt hs, fun j v hv => (World.cell?_of_block e).trans (h.cell j v hv), fun hr j hj => (World.frozen?_of_block e).trans (h.free hr j hj), fun s hs => (shape_of_block e).trans (h.shp s hs), fun hr c t lo hi hh => h.iv hr c t lo hi (by rw [← e]; exact hh), fun hr hs j => (World.frozen?_of_block e).trans (h.fz hr hs j)⟩
theorem Holds.range {w : World} {b : Nat} {rw : Bool} {cs : List Value} {sh : Option (Nat × Nat)} (h : Holds w b rw cs sh) : w.rangeAt b 0 cs := fun j v hv => by rw [Nat.zero_add]; exact h.cell j v hv
theorem At.lt {β : Nat → Nat} {w : World} {b : Nat} {rw : Bool} {c : Cont} (h : At β w b rw c) {i : Nat} (ho : own b c i) : i < w.heap.size := by
  cases c with
  | res s =>
    obtain ⟨p, hp, rfl⟩ := List.mem_map.1 ho
    exact RO.lt ((show b = s.mb ∧ RIn s.objs w from h).2.all p hp)
  | _ =>
    have e : i = b := ho
    subst e
    exact Holds.lt h
theorem RO.same {w w' : World} {b : Nat} {o : RO} (h : o.In w b) (e : w'.heap[b]? = w.heap[b]?) (hs : w.heap.size ≤ w'.heap.size) : o.In w' b := by
  cases o with
  | cells cs sh => exact Holds.same h e hs
  | map es clk => exact e.trans h
  | iter m since seen stepped => exact e.trans h
theorem At.same {β : Nat → Nat} {w w' : World} {b : Nat} {rw : Bool} {c : Cont} (h : At β w b rw c) (e : ∀ i, own b c i → w'.heap[i]? = w.heap[i]?) (hs : w.heap.size ≤ w'.heap.size) : At β w' b rw c := by
  cases c with
  | res s =>
    have h' : b = s.mb ∧ RIn s.objs w := h
    exact ⟨h'.1, fun p hp => RO.same (h'.2.all p hp) (e p.1 (List.mem_map.2 ⟨p, hp, rfl⟩)) hs, h'.2.dis⟩
  | _ => exact Holds.same h (e b rfl) hs

-- what hangs on the places alone that lie in the list
theorem wfs_all {n : Nat} {l : List SV} : SV.wf.wfs n l = true ↔ ∀ x ∈ l, x.wf n = true := by
  induction l with
  | nil => simp [SV.wf.wfs]
  | cons x l ih => simp [SV.wf.wfs, ih]
theorem blt_lt {a b : Nat} (h : Nat.blt a b = true) : a < b := by simpa [Nat.blt_eq] using h
mutual
theorem val_agree {n : Nat} {β β' : Nat → Nat} (hb : ∀ k, k < n → β' k = β k) : ∀ (x : SV), x.wf n = true → val β' x = val β x
  | .any, h | .v _, h | .i _, h | .b _, h | .w64 _, h | .w32 _, h | .w16 _, h | .w8 _, h | .s _, h | .a64 _, h | .a32 _, h | .a8 _, h => by simp [val]
  | .ptr k off, h => by simp only [val]; rw [hb k (blt_lt h)]
  | .sl k off len cap, h => by simp only [val]; rw [hb k (blt_lt h)]
  | .pe k _ _ _ _, h => by simp only [val]; rw [hb k (blt_lt h)]
  | .rs k _ _ _ _ _, h => by simp only [val]; rw [hb k (blt_lt h)]
  | .ns b k _ _ _, h => by simp only [val]; rw [hb k (blt_lt h)]
  | .mp k, h => by simp only [val]; rw [hb k (blt_lt h)]
  | .fm f l, h => by simp only [val]; rw [vals_agree hb l h]
  | .agg l, h => by simp only [val]; rw [vals_agree hb l h]
  | .tup l, h => by simp only [val]; rw [vals_agree hb l h]
  | .fn f l, h => by simp only [val]; rw [vals_agree hb l h]
theorem vals_agree {n : Nat} {β β' : Nat → Nat} (hb : ∀ k, k < n → β' k = β k) : ∀ (l : List SV), SV.wf.wfs n l = true → vals β' l = vals β l
  | [], _ => rfl
  | x :: l, h => by
    simp only [SV.wf.wfs, Bool.and_eq_true] at h
    simp only [vals]
    rw [val_agree hb x h.1, vals_agree hb l h.2]
end
theorem at_agree {n : Nat} {β β' : Nat → Nat} (hb : ∀ k, k < n → β' k = β k) {w : World} {b : Nat} {rw : Bool} (c : Cont) (h : c.wf n = true) : At β' w b rw c = At β w b rw c := by
  cases c <;> first | rfl | (simp only [At, Cont.cells]; rw [vals_agree hb _ h])
theorem cells_agree {n : Nat} {β β' : Nat → Nat} (hb : ∀ k, k < n → β' k = β k) (c : Cont) (h : c.wf n = true) : c.cells β' = c.cells β := by
  cases c <;> first | rfl | exact vals_agree hb _ h
mutual
theorem wf_mono {n m : Nat} (hm : n ≤ m) : ∀ (x : SV), x.wf n = true → x.wf m = true
  | .any, h => h
  | .v _, h | .i _, h | .b _, h | .w64 _, h | .w32 _, h | .w16 _, h | .w8 _, h | .s _, h | .a64 _, h | .a32 _, h | .a8 _, h => rfl
  | .ptr k off, h | .sl k off _ _, h | .pe k _ _ _ _, h | .rs k _ _ _ _ _, h | .ns _ k _ _ _, h | .mp k, h => by have := blt_lt h; simp [SV.wf, Nat.blt_eq]; omega
  | .agg l, h | .tup l, h | .fn _ l, h | .fm _ l, h => wfs_mono hm l h
theorem wfs_mono {n m : Nat} (hm : n ≤ m) : ∀ (l : List SV), SV.wf.wfs n l = true → SV.wf.wfs m l = true
  | [], _ => rfl
  | x :: l, h => by
    simp only [SV.wf.wfs, Bool.and_eq_true] at h ⊢
    exact ⟨wf_mono hm x h.1, wfs_mono hm l h.2⟩
end
theorem cwf_mono {n m : Nat} (hm : n ≤ m) (c : Cont) (h : c.wf n = true) : c.wf m = true := by
  cases c <;> first | rfl | exact wfs_mono hm _ h

theorem lt_of_get {α : Type} {l : List α} {k : Nat} {x : α} (h : l[k]? = some x) : k < l.length := (List.getElem?_eq_some_iff.1 h).1
/-- The blocks that may be written. -/
def rwset (β : Nat → Nat) (M : Mm) (b : Nat) : Prop := ∃ (k : Nat) (e : Ent), M[k]? = some e ∧ e.rw = true ∧ own (β k) e.c b
/-- The world is as the list tells. -/
structure Rel (nG : Mm) (β : Nat → Nat) (M : Mm) (w : World) : Prop where
  all : ∀ (k : Nat) (e : Ent), M[k]? = some e → e.c.here = true → At β w (β k) e.rw e.c
  dis : ∀ (i j : Nat) (x y : Ent), M[i]? = some x → M[j]? = some y → i ≠ j → x.rw = true → x.c.here = true → y.c.here = true → ∀ b, own (β i) x.c b → ¬ own (β j) y.c b
  glob : ∀ g, g < nG.length → β g = g
  gl : nG.length ≤ M.length
  pre : ∀ k, k < nG.length → M[k]? = nG[k]?
  ro : ∀ (k : Nat) (e : Ent), nG[k]? = some e → e.rw = false ∧ e.c.wf nG.length = true
  wf : ∀ (k : Nat) (e : Ent), M[k]? = some e → e.c.wf M.length = true
structure Ext (β : Nat → Nat) (M : Mm) (w : World) (β' : Nat → Nat) (M' : Mm) (w' : World) : Prop where
  agree : ∀ k, k < M.length → β' k = β k
  len : M.length ≤ M'.length
  rws : ∀ b, rwset β' M' b → rwset β M b ∨ w.heap.size ≤ b
  fp : Fp (rwset β M) w w'
  keep : ∀ (k : Nat) (e : Ent), M[k]? = some e → ∃ c, M'[k]? = some ⟨e.rw, c⟩ ∧ (e.rw = false → c = e.c)
  new : ∀ (k : Nat) (e : Ent), M.length ≤ k → M'[k]? = some e → e.rw = true
theorem Ext.refl (β : Nat → Nat) (M : Mm) (w : World) : Ext β M w β M w := ⟨fun _ _ => rfl, Nat.le_refl _, fun b h => .inl h, Fp.refl _ w, fun k e he => ⟨e.c, he, fun _ => rfl⟩, fun k e hk he => absurd (lt_of_get he) (by omega)⟩
theorem Ext.trans {β β1 β2 : Nat → Nat} {M M1 M2 : Mm} {w w1 w2 : World} (h : Ext β M w β1 M1 w1) (k : Ext β1 M1 w1 β2 M2 w2) : Ext β M w β2 M2 w2 := by
  refine ⟨fun i hi => (k.agree i (Nat.lt_of_lt_of_le hi h.len)).trans (h.agree i hi), Nat.le_trans h.len k.len, fun b hb => ?_, h.fp.trans k.fp fun t ht => ?_, fun i e he => ?_, fun i e hi he => ?_⟩
  · rcases k.rws b hb with h1 | h1
    · exact h.rws b h1
    · exact .inr (Nat.le_trans h.fp.size h1)
  · exact h.rws t ht
  · obtain ⟨c, h1, h2⟩ := h.keep i e he
    obtain ⟨d, h3, h4⟩ := k.keep i _ h1
    exact ⟨d, h3, fun hr => (h4 hr).trans (h2 hr)⟩
  · rcases Nat.lt_or_ge i M1.length with q | q
    · have h1 := List.getElem?_eq_getElem q
      obtain ⟨d, h3, -⟩ := k.keep i _ h1
      rw [h3] at he
      obtain rfl := Option.some.inj he
      exact (h.new i _ hi h1 : M1[i].rw = true)
    · exact k.new i e q he
section
variable {nG : Mm} {β β' : Nat → Nat} {M : Mm} {w w' : World}
/-- Nothing old has changed. -/
theorem Rel.step (h : Rel nG β M w) (hF : Fp0 w w') : Rel nG β M w' :=
  ⟨fun k e he hc => (h.all k e he hc).same (fun i hi => hF.block _ ((h.all k e he hc).lt hi) id) hF.size, h.dis, h.glob, h.gl, h.pre, h.ro, h.wf⟩
theorem Ext.step (h : Fp0 w w') : Ext β M w β M w' := ⟨fun _ _ => rfl, Nat.le_refl _, fun b hb => .inl hb, h.mono fun _ _ h => h.elim, fun k e he => ⟨e.c, he, fun _ => rfl⟩, fun k e hk he => absurd (lt_of_get he) (by omega)⟩
def upd1 (β : Nat → Nat) (n b : Nat) : Nat → Nat := fun k => if k = n then b else β k
theorem upd1_agree (β : Nat → Nat) (n b : Nat) : ∀ k, k < n → upd1 β n b k = β k := fun k hk => by unfold upd1; rw [if_neg (by omega)]
/-- A new block, or one that was ours and is no more told of at another place. -/
theorem Rel.moreR (h : Rel nG β M w) (hF : Fp (fun _ => False) w w') {b : Nat} {x : Cont} (hb : ∀ i, own b x i → w.heap.size ≤ i) (hx : x.wf M.length = true) (hh : At β w' b true x) :
    Rel nG (upd1 β M.length b) (M ++ [⟨true, x⟩]) w' ∧ Ext β M w (upd1 β M.length b) (M ++ [⟨true, x⟩]) w' := by
  have ha := upd1_agree β M.length b
  have h1 := h.step hF
  have get : ∀ (k : Nat) (e : Ent), (M ++ [⟨true, x⟩])[k]? = some e → (k < M.length ∧ M[k]? = some e) ∨ (k = M.length ∧ e = ⟨true, x⟩) := fun k e he => by
    rcases Nat.lt_or_ge k M.length with q | q
    · rw [List.getElem?_append_left q] at he; exact .inl ⟨q, he⟩
    · rw [List.getElem?_append_right q] at he
      have : k - M.length = 0 := by
        rcases Nat.eq_zero_or_pos (k - M.length) with q2 | q2
        · exact q2
        · rw [List.getElem?_eq_none (by simp; omega)] at he; cases he
      rw [this] at he
      exact .inr ⟨by omega, (Option.some.inj he).symm⟩
  have eb : upd1 β M.length b M.length = b := by unfold upd1; rw [if_pos rfl]
  refine ⟨⟨fun k e he hc => ?_, fun i j p q hp hq hij hr hpc hqc => ?_, fun g hg => ?_, by simp; exact Nat.le_succ_of_le h.gl, fun k hk => by rw [List.getElem?_append_left (Nat.lt_of_lt_of_le hk h.gl)]; exact h.pre k hk, h.ro, fun k e he => ?_⟩, ⟨ha, by simp, fun c hc => ?_, hF.mono fun _ _ h => h.elim, fun k e he => ⟨e.c, by rw [List.getElem?_append_left (lt_of_get he)]; exact he, fun _ => rfl⟩, fun k e hk he => ?_⟩⟩
  · rcases get k e he with ⟨q, hM⟩ | ⟨rfl, rfl⟩
    · rw [ha k q, at_agree ha _ (h.wf k e hM)]; exact h1.all k e hM hc
    · rw [eb, at_agree ha _ hx]; exact hh
  · rcases get i p hp with ⟨qi, hi⟩ | ⟨ei, rfl⟩
    · rcases get j q hq with ⟨qj, hj⟩ | ⟨ej, rfl⟩
      · rw [ha i qi, ha j qj]; exact h.dis i j p q hi hj hij hr hpc hqc
      · rw [ha i qi, ej, eb]; intro c ho hn; have := (h.all i p hi hpc).lt ho; have := hb c hn; omega
    · rcases get j q hq with ⟨qj, hj⟩ | ⟨ej, rfl⟩
      · rw [ha j qj, ei, eb]; intro c hn ho; have := (h.all j q hj hqc).lt ho; have := hb c hn; omega
      · omega
  · rw [ha g (Nat.lt_of_lt_of_le hg h.gl)]; exact h.glob g hg
  · rcases get k e he with ⟨q, hM⟩ | ⟨rfl, rfl⟩
    · exact cwf_mono (by simp) _ (h.wf k e hM)
    · exact cwf_mono (by simp) _ hx
  · obtain ⟨k, e, he, hr, ho⟩ := hc
    rcases get k e he with ⟨q, hM⟩ | ⟨rfl, rfl⟩
    · rw [ha k q] at ho; exact .inl ⟨k, e, hM, hr, ho⟩
    · rw [eb] at ho; exact .inr (hb c ho)
  · rcases get k e he with ⟨q, hM⟩ | ⟨rfl, rfl⟩
    · omega
    · rfl
theorem Rel.more (h : Rel nG β M w) (hF : Fp (fun _ => False) w w') {b : Nat} (hb : w.heap.size ≤ b) {x : Cont} (hx : x.wf M.length = true) (hh : Holds w' b true (x.cells β) x.shp) (hn : x.isRes = false := by rfl) :
    Rel nG (upd1 β M.length b) (M ++ [⟨true, x⟩]) w' ∧ Ext β M w (upd1 β M.length b) (M ++ [⟨true, x⟩]) w' :=
  h.moreR hF (fun i hi => by rw [(own_of hn).1 hi]; exact hb) hx ((At_of hn).2 hh)
/-- Blocks of ours are turned. -/
theorem Rel.setR (h : Rel nG β M w) {k : Nat} {c c' : Cont} (hk : M[k]? = some ⟨true, c⟩) (hc : c.here = true) (hF : Fp (own (β k) c) w w') (hw : c'.wf M.length = true) (ho : ∀ i, own (β k) c' i → own (β k) c i ∨ w.heap.size ≤ i) (hh : c'.here = true → At β w' (β k) true c') :
    Rel nG β (M.set k ⟨true, c'⟩) w' ∧ Ext β M w β (M.set k ⟨true, c'⟩) w' := by
  have hl := lt_of_get hk
  have get : ∀ (i : Nat) (e : Ent), (M.set k ⟨true, c'⟩)[i]? = some e → (i ≠ k ∧ M[i]? = some e) ∨ (i = k ∧ e = ⟨true, c'⟩) := fun i e he => by
    by_cases q : k = i
    · subst q; rw [List.getElem?_set_self hl] at he; exact .inr ⟨rfl, (Option.some.inj he).symm⟩
    · rw [List.getElem?_set_ne q] at he; exact .inl ⟨Ne.symm q, he⟩
  refine ⟨⟨fun i e he hc' => ?_, fun i j p q hp hq hij hr hpc hqc => ?_, h.glob, by simpa using h.gl, fun i hi => ?_, h.ro, fun i e he => ?_⟩, ⟨fun _ _ => rfl, by simp, fun b hb => ?_, hF.mono fun i hi hs => ⟨k, _, hk, rfl, hs⟩, fun i e he => ?_, fun i e hi he => absurd (lt_of_get he) (by simp; omega)⟩⟩
  · rcases get i e he with ⟨q, hM⟩ | ⟨rfl, rfl⟩
    · have h1 := h.all i e hM hc'
      exact h1.same (fun b hb => hF.block _ (h1.lt hb) fun e1 => h.dis k i _ _ hk hM (Ne.symm q) rfl hc hc' b e1 hb) hF.size
    · exact hh hc'
  · rcases get i p hp with ⟨qi, hi⟩ | ⟨ei, rfl⟩
    · rcases get j q hq with ⟨qj, hj⟩ | ⟨ej, rfl⟩
      · exact h.dis i j p q hi hj hij hr hpc hqc
      · subst ej
        intro b hb hn
        rcases ho b hn with h1 | h1
        · exact h.dis i j p _ hi hk hij hr hpc hc b hb h1
        · have := (h.all i p hi hpc).lt hb; omega
    · rcases get j q hq with ⟨qj, hj⟩ | ⟨ej, rfl⟩
      · subst ei
        intro b hn hb
        rcases ho b hn with h1 | h1
        · exact h.dis i j _ q hk hj hij rfl hc hqc b h1 hb
        · have := (h.all j q hj hqc).lt hb; omega
      · omega
  · have hne : k ≠ i := fun e => by
      subst e
      have := (h.ro k _ ((h.pre k hi).symm.trans hk)).1
      cases this
    rw [List.getElem?_set_ne hne]; exact h.pre i hi
  · rcases get i e he with ⟨q, hM⟩ | ⟨rfl, rfl⟩
    · simpa using h.wf i e hM
    · simpa using hw
  · obtain ⟨i, e, he, hr, hb⟩ := hb
    rcases get i e he with ⟨q, hM⟩ | ⟨rfl, rfl⟩
    · exact .inl ⟨i, e, hM, hr, hb⟩
    · exact (ho b hb).imp (fun h1 => ⟨i, _, hk, rfl, h1⟩) id
  · by_cases q : k = i
    · subst q
      rw [hk] at he
      obtain rfl := Option.some.inj he
      exact ⟨c', List.getElem?_set_self hl, fun h => nomatch h⟩
    · exact ⟨e.c, by rw [List.getElem?_set_ne q]; exact he, fun _ => rfl⟩
/-- A block of ours is turned. -/
theorem Rel.set (h : Rel nG β M w) {k : Nat} {c c' : Cont} (hk : M[k]? = some ⟨true, c⟩) (hc : c.here = true) (hF : Fp (fun i => i = β k) w w') (hw : c'.wf M.length = true) (hh : c'.here = true → Holds w' (β k) true (c'.cells β) c'.shp) (hn : c.isRes = false := by rfl) (hn' : c'.isRes = false := by rfl) :
    Rel nG β (M.set k ⟨true, c'⟩) w' ∧ Ext β M w β (M.set k ⟨true, c'⟩) w' :=
  h.setR hk hc (hF.mono fun i _ hi => (own_of hn).2 hi) hw (fun i hi => .inl ((own_of hn).2 ((own_of hn').1 hi))) (fun q => (At_of hn').2 (hh q))
end
/-- The frame is as the row tells. -/
structure RelF (β : Nat → Nat) (n : Nat) (fr : List SV) (a : Act) : Prop where
  size : a.tmps.size = fr.length
  at' : ∀ (k : Nat) (x : SV), fr[k]? = some x → x = .any ∨ (x.wf n = true ∧ a.tmps.getD k undef = val β x)
  defers : a.defers = []
theorem RelF.mono {β β' : Nat → Nat} {n n' : Nat} {fr : List SV} {a : Act} (h : RelF β n fr a) (hn : n ≤ n') (hb : ∀ k, k < n → β' k = β k) : RelF β' n' fr a :=
  ⟨h.size, fun k x hx => (h.at' k x hx).imp id fun ⟨h1, h2⟩ => ⟨wf_mono hn x h1, by rw [val_agree hb x h1]; exact h2⟩, h.defers⟩
theorem RelF.put {β : Nat → Nat} {n : Nat} {fr : List SV} {a : Act} (h : RelF β n fr a) (d : Nat) {x : SV} {v : Value} (hx : x = .any ∨ (x.wf n = true ∧ v = val β x)) : RelF β n (fr.set d x) (a.put (some d) v) := by
  refine ⟨by simp [Act.put, h.size], fun k y hy => ?_, h.defers⟩
  have e : (a.put (some d) v).tmps = a.tmps.setIfInBounds d v := rfl
  rw [e, Array.getD_eq_getD_getElem?]
  by_cases q : d = k
  · subst q
    have hl : d < fr.length := by simpa using lt_of_get hy
    rw [List.getElem?_set_self hl] at hy
    obtain rfl := Option.some.inj hy
    rw [Array.getElem?_setIfInBounds_self_of_lt (by rw [h.size]; exact hl)]
    exact hx
  · rw [List.getElem?_set_ne q] at hy
    rw [Array.getElem?_setIfInBounds_ne q, ← Array.getD_eq_getD_getElem?]
    exact h.at' k y hy
end Go.Proofs.Ytkjfecdpakhggaa
