/-
  Plain facts on worlds: what a call leaves as it was outside a list of blocks ('Fr'), and the type facts that the walks over this program use. No statement is proved here.
-/
import Derived.Test.YtkjfecdpakhggaaRows
import Derived.WalkKit
import Derived.WalkSpells
import Derived.WalkLawsBesides
import Derived.Handy
import Derived.BigQuiet
import Derived.Deep.QuietTactic
import Derived.Deep.RegionWith
import Derived.Deep.RegionLaw
namespace Go.Proofs.Ytkjfecdpakhggaa
open Go.RowKit
set_option linter.unusedVariables false
set_option linter.unusedSimpArgs false

/-- Outside the blocks S all blocks that were there are as they were; the streams too; no block has gone. -/
structure Fr (S : List Nat) (w w' : World) : Prop where
  os : w'.os = w.os
  tape : w'.tape = w.tape
  output : w'.output = w.output
  size : w.heap.size ≤ w'.heap.size
  block : ∀ k, k < w.heap.size → k ∉ S → w'.heap[k]? = w.heap[k]?

theorem Fr.refl (S : List Nat) (w : World) : Fr S w w := ⟨rfl, rfl, rfl, Nat.le_refl _, fun _ _ _ => rfl⟩

theorem Fr.trans {S T : List Nat} {a b c : World} (h : Fr S a b) (k : Fr T b c) (hT : ∀ t, t ∈ T → t ∈ S ∨ a.heap.size ≤ t) : Fr S a c :=
  ⟨k.os.trans h.os, k.tape.trans h.tape, k.output.trans h.output, Nat.le_trans h.size k.size,
   fun i hi hS => (k.block i (Nat.lt_of_lt_of_le hi h.size) (fun ht => by rcases hT i ht with h1 | h1; exact hS h1; omega)).trans (h.block i hi hS)⟩

theorem Fr.trans0 {S : List Nat} {a b c : World} (h : Fr S a b) (k : Fr [] b c) : Fr S a c := h.trans k (fun t ht => by cases ht)

theorem Fr.mono {S T : List Nat} {a b : World} (h : Fr S a b) (hT : ∀ t, t ∈ S → t ∈ T) : Fr T a b :=
  ⟨h.os, h.tape, h.output, h.size, fun i hi hS => h.block i hi (fun ht => hS (hT i ht))⟩

theorem Fr.drew {S : List Nat} {a w : World} (h : Fr S a w) : Fr S a w.drew := ⟨h.os, h.tape, h.output, h.size, h.block⟩
theorem Fr.drewN {S : List Nat} {a w : World} (h : Fr S a w) (n : Nat) : Fr S a (w.drewN n) := ⟨h.os, h.tape, h.output, h.size, h.block⟩

theorem Fr.alloc {S : List Nat} {a w : World} (h : Fr S a w) (o : Obj) : Fr S a (w.alloc o) :=
  h.trans (T := []) ⟨rfl, rfl, rfl, by simp, fun k hk _ => Below.heap_alloc _ _ _ hk⟩ (fun t ht => by cases ht)

theorem Fr.setCell {S : List Nat} {a w : World} (h : Fr S a w) {p : Addr} (hp : p.block ∈ S ∨ a.heap.size ≤ p.block) (u : Value) : Fr S a (w.setCell p u) :=
  h.trans (T := [p.block]) ⟨rfl, rfl, rfl, by simp [World.setCell], fun k _ hk => Below.heap_setCell _ _ _ _ (by simpa using hk)⟩ (fun t ht => by simp at ht; subst ht; exact hp)

theorem Fr.setRow {S : List Nat} {a w : World} (h : Fr S a w) {g : Nat} (hp : g ∈ S ∨ a.heap.size ≤ g) (c : Array Value) : Fr S a (w.setRow g c) :=
  h.trans (T := [g]) ⟨rfl, rfl, rfl, by simp, fun k _ hk => setRow_other w g k c (by simpa using hk)⟩ (fun t ht => by simp at ht; subst ht; exact hp)

theorem Fr.ofGrown {w w' : World} {row : Option Nat} (h : w.grownBy w' row) : Fr row.toList w w' :=
  ⟨h.os, h.tape, h.output, h.size, fun k hk hS => h.block k hk (fun e => hS (by rw [← e]; simp))⟩

theorem Fr.heap {S : List Nat} {w w' : World} (h : Fr S w w') {k : Nat} {o : Obj} (hk : w.heap[k]? = some o) (hS : k ∉ S) : w'.heap[k]? = some o := by
  have hlt : k < w.heap.size := by
    rcases Nat.lt_or_ge k w.heap.size with h1 | h1
    · exact h1
    · rw [Array.getElem?_eq_none h1] at hk; cases hk
  rw [h.block k hlt hS]; exact hk

theorem Fr.cell {S : List Nat} {w w' : World} (h : Fr S w w') {p : Addr} {v : Value} (hc : w.cell? p = some v) (hS : p.block ∉ S) : w'.cell? p = some v :=
  (World.cell?_of_block (h.block p.block (World.block_lt_of_cell? w p hc) hS)).trans hc

theorem Fr.below {S : List Nat} {w w' : World} (h : Fr S w w') (B : Nat) (hB : B ≤ w.heap.size) (hS : ∀ k, k ∈ S → B ≤ k) : Below B w w' :=
  ⟨h.os, h.tape, h.output, h.size, fun k hk => h.block k (by omega) (fun hm => by have := hS k hm; omega)⟩

theorem cell_of_heap {w : World} {b o : Nat} {c : Array Value} {t : TypeId} {v : Value} {fr : Nat × Nat} (h : w.heap[b]? = some (.cells c t fr)) (hv : c[o]? = some v) : w.cell? ⟨b, o, none⟩ = some v := by
  simp [World.cell?, h, hv]
theorem frozen_of_heap {w : World} {b o : Nat} {c : Array Value} {t : TypeId} (h : w.heap[b]? = some (.cells c t)) : w.frozen? ⟨b, o, none⟩ = false := by
  simp [World.frozen?, h]
theorem lt_of_heap {w : World} {k : Nat} {o : Obj} (hk : w.heap[k]? = some o) : k < w.heap.size := by
  rcases Nat.lt_or_ge k w.heap.size with h1 | h1
  · exact h1
  · rw [Array.getElem?_eq_none h1] at hk; cases hk

/-- The world w with the blocks of another world behind its own, and that one's count of draws. -/
def ext (w : World) (x : World) : World := { w with heap := w.heap ++ x.heap, drawn := x.drawn }
@[go_sem] theorem ext_cell (w : World) (x : World) (b o : Nat) (h : b < w.heap.size) : (ext w x).cell? ⟨b, o, none⟩ = w.cell? ⟨b, o, none⟩ :=
  World.cell?_of_block (w := w) (by show (w.heap ++ x.heap)[b]? = _; rw [Array.getElem?_append_left h])
@[go_sem] theorem ext_frozen (w : World) (x : World) (b o : Nat) (h : b < w.heap.size) : (ext w x).frozen? ⟨b, o, none⟩ = w.frozen? ⟨b, o, none⟩ :=
  World.frozen?_of_block (w := w) (by show (w.heap ++ x.heap)[b]? = _; rw [Array.getElem?_append_left h])
theorem ext_fr (w : World) (x : World) : Fr [] w (ext w x) :=
  ⟨rfl, rfl, rfl, by simp [ext], fun k hk _ => by show (w.heap ++ x.heap)[k]? = _; rw [Array.getElem?_append_left hk]⟩
theorem Fr.toExt {w W : World} (h : Fr [] w W) : ∃ x, W = ext w x := by
  refine ⟨{ W with heap := W.heap.extract w.heap.size W.heap.size }, ?_⟩
  obtain ⟨hp, tp, dr, so, out⟩ := W
  obtain ⟨h1, h2, h3, h4, h5⟩ := h
  simp only at h1 h2 h3 h4 h5
  subst h1; subst h2; subst h3
  simp only [ext, World.mk.injEq, and_true]
  apply Array.ext_getElem?
  intro i
  rcases Nat.lt_or_ge i w.heap.size with hi | hi
  · rw [Array.getElem?_append_left hi]; exact h5 i hi (by simp)
  · rw [Array.getElem?_append_right hi, Array.getElem?_extract]
    split
    · congr 1; omega
    · rw [Array.getElem?_eq_none (by omega)]
theorem Calls.ext_of {P : Program} {f : FuncId} {args : Array Value} {w : World} {x : World} {v : Value}
    (h : Calls P f args (ext w x) fun e w' => e = .returned v ∧ Fr [] (ext w x) w') : Calls P f args (ext w x) fun e w'' => e = .returned v ∧ ∃ x, w'' = ext w x :=
  h.mono fun _ _ ⟨he, hF⟩ => ⟨he, ((ext_fr w x).trans0 hF).toExt⟩
/-- A region that draws its order, whose operations and callees read and add blocks alone: the order of the text serves every order. -/
theorem wp_region_ext {P : Program} {id : Nat} {Q : Exit → Act → World → Prop} {a : Act} {w : World} {l : List Oper} (hm : P.follows .mixedOrders = true) (hB : Region.lexB .any l.toArray = true)
    (h : wpQuiet P l.toArray (fun w' => ∃ x, w' = ext w x) (fun a' => ∀ w', (∃ x, w' = ext w x) → Q .normal a' w') l a) : (Code.region id l.toArray true).wp P Q a w :=
  wp_region_quiet (C := fun w' => ∃ x, w' = ext w x) hm hB ⟨{ w with heap := #[], drawn := w.drawn + 1 }, by simp [ext]⟩ (by simpa using h)

end Go.Proofs.Ytkjfecdpakhggaa
namespace Go.Proofs.Ytkjfecdpakhggaa
open Go.RowKit Go.BigFrame
set_option linter.unusedVariables false
set_option linter.unusedSimpArgs false

/-- A stand-in for the last operation, which does nothing. -/
def idle (o : Oper) : Oper := { o with dst := none, op := .move (.const undef) }
def lowB (ops : List Oper) : Bool := (List.range ops.length).all fun i => match ops[i]? with
  | some o => o.after.all fun e => !Region.binds .any e || decide (e.on < i)
  | none => true
/-- The last waits for i. -/
def covB (o : Oper) (i : Nat) : Bool := o.after.any fun e => Region.binds .any e && e.on == i
/-- The last waits for all others: by itself, or by one that it waits for. -/
def coverB (l : List Oper) (o : Oper) : Bool := (List.range l.length).all fun i => covB o i || (List.range l.length).any fun k => covB o k && (match l[k]? with
  | some x => covB x i
  | none => false)
/-- What was listed had all listed that it waits for. -/
def Shut (l : List Oper) (listed : Array Bool) : Prop := ∀ k x, l[k]? = some x → listed.getD k false = true → ∀ e ∈ x.after, Region.binds .any e = true → listed.getD e.on false = true
theorem covB_of {x : Oper} {i : Nat} (h : covB x i = true) {listed : Array Bool} (hd : ∀ e ∈ x.after, Region.binds .any e = true → listed.getD e.on false = true) : listed.getD i false = true := by
  obtain ⟨e, he, h2⟩ := Array.any_eq_true'.1 h
  simp only [Bool.and_eq_true, beq_iff_eq] at h2
  have h3 := hd e he h2.1
  rw [h2.2] at h3
  exact h3

theorem ready_idle (l : List Oper) (o : Oper) (listed : Array Bool) : Region.ready .any (l ++ [idle o]).toArray listed = Region.ready .any (l ++ [o]).toArray listed := by
  unfold Region.ready
  have hs : (l ++ [idle o]).toArray.size = (l ++ [o]).toArray.size := by simp
  rw [hs]
  apply List.filter_congr
  intro i hi
  have e : ((l ++ [idle o]).toArray[i]?).map (·.after) = ((l ++ [o]).toArray[i]?).map (·.after) := by
    simp only [List.getElem?_toArray, List.getElem?_append]
    split
    · rfl
    · generalize i - l.length = k
      cases k <;> simp [idle]
  have e2 : ∀ x : Option Oper, (x.map fun o => o.after.all fun e => !Region.binds .any e || listed.getD e.on false) = ((x.map (·.after)).map fun s => s.all fun e => !Region.binds .any e || listed.getD e.on false) := fun x => by cases x <;> rfl
  rw [e2, e2, e]

theorem all_listed {l : List Oper} {o : Oper} {listed : Array Bool} (hlow : lowB (l ++ [o]) = true) (hr : Region.ready .any (l ++ [o]).toArray listed = []) : ∀ i, i < (l ++ [o]).length → listed.getD i true = true ∨ listed.size ≤ i := by
  intro i
  induction i using Nat.strongRecOn with
  | _ i ih =>
    intro hi
    apply Classical.byContradiction
    intro hno
    have h0 : listed.getD i true = false := by
      cases h : listed.getD i true
      · rfl
      · exact absurd (.inl h) hno
    have hsz : i < listed.size := by
      apply Classical.byContradiction
      intro h
      exact hno (.inr (by omega))
    have hm : i ∈ Region.ready .any (l ++ [o]).toArray listed := by
      rw [mem_ready]
      refine ⟨h0, (l ++ [o])[i], by simp only [List.getElem?_toArray]; exact List.getElem?_eq_getElem hi, fun e he hb => ?_⟩
      have h1 := List.all_eq_true.1 hlow i (by simpa using hi)
      rw [List.getElem?_eq_getElem hi] at h1
      have h2 := (Array.all_eq_true_iff_forall_mem.1 h1) e he
      rw [hb] at h2
      have hlt : e.on < i := by simpa using h2
      rcases ih e.on hlt (by omega) with h3 | h3
      · have : e.on < listed.size := by omega
        simp [this] at h3 ⊢
        exact h3
      · omega
    rw [hr] at hm
    cases hm

theorem wp_last_step {P : Program} {Q : Exit → Act → World → Prop} {C : World → Prop} {l : List Oper} {o : Oper} (hg : (l ++ [o]).all (fun x => x.guard.isNone) = true) (hlow : lowB (l ++ [o]) = true) (hc : coverB l o = true) :
    ∀ (fuel : Nat) (listed : Array Bool) (a : Act) (w : World), listed.size = l.length + 1 → listed.getD l.length true = false → Shut l listed → C w →
      wpAnyQ P .any (l ++ [idle o]).toArray C (fun a' => ∀ w', C w' → o.wp P a' w' (fun a'' w'' => Q .normal a'' w'') Q) fuel listed a → wpAny P .any (l ++ [o]).toArray Q fuel listed a w := by
  have hnever : ∀ listed : Array Bool, listed.size = l.length + 1 → listed.getD l.length true = false → Region.ready .any (l ++ [o]).toArray listed ≠ [] := by
    intro listed hs h0 hr
    rcases all_listed hlow hr l.length (by simp) with h | h
    · rw [h0] at h; cases h
    · omega
  intro fuel
  induction fuel with
  | zero =>
    intro listed a w hs h0 hS hC h
    exact absurd ((ready_idle l o listed).symm.trans h.1) (hnever listed hs h0)
  | succ fuel ih =>
    intro listed a w hs h0 hS hC h
    refine ⟨fun hr => absurd hr (hnever listed hs h0), fun i hi => ?_⟩
    have hq := h.2 i (by rw [ready_idle]; exact hi)
    by_cases hl : i = l.length
    · subst hl
      have hall : ∀ j, j < l.length → listed.getD j true = true := by
        intro j hj
        obtain ⟨_, o2, ho2, hdep⟩ := mem_ready.1 hi
        have ho3 : o2 = o := by
          simp only [List.getElem?_toArray] at ho2
          rw [List.getElem?_append_right (Nat.le_refl _)] at ho2
          simpa using ho2.symm
        subst ho3
        have h1 := List.all_eq_true.1 hc j (by simpa using hj)
        have h3 : listed.getD j false = true := by
          rcases Bool.or_eq_true_iff.1 h1 with h1 | h1
          · exact covB_of h1 hdep
          · obtain ⟨k, _, h4⟩ := List.any_eq_true.1 h1
            simp only [Bool.and_eq_true] at h4
            have h5 := covB_of h4.1 hdep
            cases hk : l[k]? with
            | none => rw [hk] at h4; exact absurd h4.2 (by simp)
            | some x =>
              rw [hk] at h4
              exact covB_of h4.2 (hS k x hk h5)
        have : j < listed.size := by omega
        simp [this] at h3 ⊢
        exact h3
      have hend : Region.ready .any (l ++ [o]).toArray (listed.setIfInBounds l.length true) = [] := by
        apply List.eq_nil_iff_forall_not_mem.2
        intro k hk
        obtain ⟨hk0, o2, ho2, _⟩ := mem_ready.1 hk
        have hkl : k < l.length + 1 := by
          have := (Array.getElem?_eq_some_iff.1 ho2).1
          simpa using this
        by_cases hke : l.length = k
        · subst hke
          have : l.length < listed.size := by omega
          simp [this] at hk0
        · rw [getD_set_ne true hke, hall k (by omega)] at hk0
          cases hk0
      have hidle : (l ++ [idle o]).toArray[l.length]? = some (idle o) := by
        simp only [List.getElem?_toArray]
        rw [List.getElem?_append_right (Nat.le_refl _)]; simp
      have ho : (l ++ [o]).toArray[l.length]? = some o := by
        simp only [List.getElem?_toArray]
        rw [List.getElem?_append_right (Nat.le_refl _)]; simp
      have hgo : o.guard = none := by
        have := List.all_eq_true.1 hg o (by simp)
        simpa using this
      have hwi : ∀ y, Region.wanted (idle o) y = true := fun y => by unfold Region.wanted idle; simp [hgo]
      have hwo : ∀ y, Region.wanted o y = true := fun y => by unfold Region.wanted; simp [hgo]
      unfold qOp at hq
      simp only [hidle, hwi, if_true] at hq
      obtain ⟨v, _, hK⟩ := hq
      have hK2 : ∀ w', C w' → o.wp P a w' (fun a'' w'' => Q .normal a'' w'') Q := by
        have : (a.put (idle o).dst v) = a := rfl
        rw [this] at hK
        cases fuel with
        | zero => exact hK.2
        | succ f => exact hK.1 ((ready_idle l o _).trans hend)
      have h4 : wpOp P (l ++ [o]).toArray Q l.length (fun a'' w'' => Q .normal a'' w'') a w := by
        unfold wpOp
        simp only [ho, hwo, if_true]
        exact .inl (hK2 w hC)
      exact wpOp_mono (fun a' w' h5 => wpAny_done hend h5 fuel) h4
    · have hil : i < l.length := by
        obtain ⟨_, o2, ho2, _⟩ := mem_ready.1 hi
        have := (Array.getElem?_eq_some_iff.1 ho2).1
        have : i < l.length + 1 := by simpa using this
        omega
      have e1 : (l ++ [idle o]).toArray[i]? = some l[i] := by
        simp only [List.getElem?_toArray]
        rw [List.getElem?_append_left hil]; exact List.getElem?_eq_getElem hil
      have e2 : (l ++ [o]).toArray[i]? = some l[i] := by
        simp only [List.getElem?_toArray]
        rw [List.getElem?_append_left hil]; exact List.getElem?_eq_getElem hil
      have hgi : l[i].guard = none := by
        have := List.all_eq_true.1 hg l[i] (by simp)
        simpa using this
      have hwi : ∀ y, Region.wanted l[i] y = true := fun y => by unfold Region.wanted; simp [hgi]
      unfold qOp at hq
      simp only [e1, hwi, if_true] at hq
      unfold wpOp
      simp only [e2, hwi, if_true]
      refine .inl (Oper.wp_of_quiet hC (fun a' w' hC' h5 => ih _ _ _ (by simpa using hs) ?_ ?_ hC' h5) hq)
      · rw [getD_set_ne true hl]; exact h0
      · obtain ⟨_, o2, ho2, hdep⟩ := mem_ready.1 hi
        rw [e2] at ho2
        have ho3 : l[i] = o2 := by simpa using ho2
        have hup : ∀ j, listed.getD j false = true → (listed.setIfInBounds i true).getD j false = true := by
          intro j hj
          by_cases hij : i = j
          · subst hij
            have hlt : i < listed.size := by omega
            simp [hlt]
          · rw [getD_set_ne false hij]; exact hj
        intro k x hx hk e he hb
        by_cases hik : i = k
        · subst hik
          rw [List.getElem?_eq_getElem hil] at hx
          have hx2 : o2 = x := ho3.symm.trans (by simpa using hx)
          subst hx2
          exact hup _ (hdep e he hb)
        · rw [getD_set_ne false hik] at hk
          exact hup _ (hS k x hx hk e he hb)

theorem wpQuiet_idle {P : Program} {ops : Array Oper} {C : World → Prop} {Q : Act → Prop} {o : Oper} (hg : o.guard = none) : ∀ (l : List Oper) (a : Act), wpQuiet P ops C Q l a → wpQuiet P ops C Q (l ++ [idle o]) a
  | [], a, h => by
    show if _ then _ else _
    have : Region.wanted (idle o) (yielded ops a.tmps) = true := by unfold Region.wanted idle; simp [hg]
    rw [if_pos this]
    exact quiet_move (.const undef) rfl h
  | x :: l, a, h => by
    show if _ then _ else _
    have h' : if _ then _ else _ := h
    split
    · rename_i hw
      rw [if_pos hw] at h'
      exact Oper.quiet_mono (fun a' h2 => wpQuiet_idle hg l a' h2) h'
    · rename_i hw
      rw [if_neg hw] at h'
      exact wpQuiet_idle hg l _ h'

/-- A region whose last operation waits for all others: the others by one walk in the order of the text, each quiet in the class; then the last. -/
theorem wp_region_last {P : Program} {id : Nat} {Q : Exit → Act → World → Prop} {C : World → Prop} {a : Act} {w : World} (l : List Oper) (o : Oper) (hm : P.follows .mixedOrders = true) (hB : Region.lexB .any (l ++ [idle o]).toArray = true)
    (hg : (l ++ [o]).all (fun x => x.guard.isNone) = true) (hlow : lowB (l ++ [o]) = true) (hc : coverB l o = true) (hC : C { w with drawn := w.drawn + 1 })
    (h : wpQuiet P (l ++ [idle o]).toArray C (fun a' => ∀ w', C w' → o.wp P a' w' (fun a'' w'' => Q .normal a'' w'') Q) l a) : (Code.region id (l ++ [o]).toArray true).wp P Q a w := by
  simp only [Region.lexB, Bool.and_eq_true] at hB
  have hgo : o.guard = none := by
    have := List.all_eq_true.1 hg o (by simp)
    simpa using this
  refine wp_region_any hm ?_
  have h2 := wpAnyQ_lex (C := C) (md := .any) hB.1 (l ++ [idle o]) 0 (Array.replicate (l ++ [idle o]).toArray.size false) a (by simp) (by simpa using hB.2) (wpQuiet_idle hgo l a h)
  have h3 := wp_last_step (Q := Q) hg hlow hc (l ++ [idle o]).length (Array.replicate (l ++ [idle o]).toArray.size false) a { w with drawn := w.drawn + 1 } (by simp) (by simp) (fun k x _ hk => by exfalso; simp [Array.getD_eq_getD_getElem?, Array.getElem?_replicate] at hk; split at hk <;> simp at hk) hC h2
  simpa using h3
/-- The same at the class 'w and some blocks more'. -/
theorem wp_region_last_ext {P : Program} {id : Nat} {Q : Exit → Act → World → Prop} {a : Act} {w : World} (l : List Oper) (o : Oper) (hm : P.follows .mixedOrders = true) (hB : Region.lexB .any (l ++ [idle o]).toArray = true)
    (hg : (l ++ [o]).all (fun x => x.guard.isNone) = true) (hlow : lowB (l ++ [o]) = true) (hc : coverB l o = true)
    (h : wpQuiet P (l ++ [idle o]).toArray (fun w' => ∃ x, w' = ext w x) (fun a' => ∀ w', (∃ x, w' = ext w x) → o.wp P a' w' (fun a'' w'' => Q .normal a'' w'') Q) l a) : (Code.region id (l ++ [o]).toArray true).wp P Q a w :=
  wp_region_last l o hm hB hg hlow hc ⟨{ w with heap := #[], drawn := w.drawn + 1 }, by simp [ext]⟩ h

end Go.Proofs.Ytkjfecdpakhggaa
