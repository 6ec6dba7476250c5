/-
  Plain facts on worlds: what a call leaves as it was outside a list of blocks ('Fr'), and the type facts that the walks over this program use. No statement is proved here.
-/
import Derived.Test.YtggoncamiafclabRows
import Derived.WalkKit
import Derived.WalkSpells
import Derived.WalkLawsBesides
import Derived.Handy
import Derived.BigQuiet
import Derived.Deep.QuietTactic
import Derived.Deep.RegionWith
import Derived.Deep.RegionLaw
namespace Go.Proofs.Ytggoncamiafclab
open Go.RowKit
set_option linter.unusedVariables false
set_option linter.unusedSimpArgs false

/-- Outside the blocks S all blocks that were there are as they were; the streams too; no block has gone. -/
structure Fr (S : List Nat) (w w' : World) : Prop where
  os : w'.os = w.os
  tape : w'.tape = w.tape
  output : w'.output = w.output
  size : w.heap.size ≤ w'.heap.size
  block : ∀ k, k < w.heap.size → k ∉ S → w'.heap[k]? = w.heap[k]?

theorem Fr.trans {S T : List Nat} {a b c : World} (h : Fr S a b) (k : Fr T b c) (hT : ∀ t, t ∈ T → t ∈ S ∨ a.heap.size ≤ t) : Fr S a c :=
  ⟨k.os.trans h.os, k.tape.trans h.tape, k.output.trans h.output, Nat.le_trans h.size k.size,
   fun i hi hS => (k.block i (Nat.lt_of_lt_of_le hi h.size) (fun ht => by rcases hT i ht with h1 | h1; exact hS h1; omega)).trans (h.block i hi hS)⟩

theorem Fr.trans0 {S : List Nat} {a b c : World} (h : Fr S a b) (k : Fr [] b c) : Fr S a c := h.trans k (fun t ht => by cases ht)

theorem Fr.mono {S T : List Nat} {a b : World} (h : Fr S a b) (hT : ∀ t, t ∈ S → t ∈ T) : Fr T a b :=
  ⟨h.os, h.tape, h.output, h.size, fun i hi hS => h.block i hi (fun ht => hS (hT i ht))⟩

theorem Fr.alloc {S : List Nat} {a w : World} (h : Fr S a w) (o : Obj) : Fr S a (w.alloc o) :=
  h.trans (T := []) ⟨rfl, rfl, rfl, by simp, fun k hk _ => Below.heap_alloc _ _ _ hk⟩ (fun t ht => by cases ht)

theorem Fr.heap {S : List Nat} {w w' : World} (h : Fr S w w') {k : Nat} {o : Obj} (hk : w.heap[k]? = some o) (hS : k ∉ S) : w'.heap[k]? = some o := by
  have hlt : k < w.heap.size := by
    rcases Nat.lt_or_ge k w.heap.size with h1 | h1
    · exact h1
    · rw [Array.getElem?_eq_none h1] at hk; cases hk
  rw [h.block k hlt hS]; exact hk

theorem Fr.cell {S : List Nat} {w w' : World} (h : Fr S w w') {p : Addr} {v : Value} (hc : w.cell? p = some v) (hS : p.block ∉ S) : w'.cell? p = some v :=
  (World.cell?_of_block (h.block p.block (World.block_lt_of_cell? w p hc) hS)).trans hc

/-- The world w with the blocks of another world behind its own, and that one's count of draws. -/
def ext (w : World) (x : World) : World := { w with heap := w.heap ++ x.heap, drawn := x.drawn }
@[go_sem] theorem ext_cell (w : World) (x : World) (b o : Nat) (h : b < w.heap.size) : (ext w x).cell? ⟨b, o, none⟩ = w.cell? ⟨b, o, none⟩ :=
  World.cell?_of_block (w := w) (by show (w.heap ++ x.heap)[b]? = _; rw [Array.getElem?_append_left h])
@[go_sem] theorem ext_frozen (w : World) (x : World) (b o : Nat) (h : b < w.heap.size) : (ext w x).frozen? ⟨b, o, none⟩ = w.frozen? ⟨b, o, none⟩ :=
  World.frozen?_of_block (w := w) (by show (w.heap ++ x.heap)[b]? = _; rw [Array.getElem?_append_left h])
end Go.Proofs.Ytggoncamiafclab
namespace Go.Proofs.Ytggoncamiafclab
open Go.RowKit Go.BigFrame
set_option linter.unusedVariables false
set_option linter.unusedSimpArgs false

def lowB (ops : List Oper) : Bool := (List.range ops.length).all fun i => match ops[i]? with
  | some o => o.after.all fun e => !Region.binds .any e || decide (e.on < i)
  | none => true
theorem all_listed {l : List Oper} {o : Oper} {listed : Array Bool} (hlow : lowB (l ++ [o]) = true) (hr : Region.ready .any (l ++ [o]).toArray listed = []) : ∀ i, i < (l ++ [o]).length → listed.getD i true = true ∨ listed.size ≤ i := by
  intro i
  induction i using Nat.strongRecOn with
  | _ i ih =>
    intro hi
    apply Classical.byContradiction
    intro hno
    have h0 : listed.getD i true = false := by
      cases h : listed.getD i true
      · rfl
      · exact absurd (.inl h) hno
    have hsz : i < listed.size := by
      apply Classical.byContradiction
      intro h
      exact hno (.inr (by omega))
    have hm : i ∈ Region.ready .any (l ++ [o]).toArray listed := by
      rw [mem_ready]
      refine ⟨h0, (l ++ [o])[i], by simp only [List.getElem?_toArray]; exact List.getElem?_eq_getElem hi, fun e he hb => ?_⟩
      have h1 := List.all_eq_true.1 hlow i (by simpa using hi)
      rw [List.getElem?_eq_getElem hi] at h1
      have h2 := (Array.all_eq_true_iff_forall_mem.1 h1) e he
      rw [hb] at h2
      have hlt : e.on < i := by simpa using h2
      rcases ih e.on hlt (by omega) with h3 | h3
      · have : e.on < listed.size := by omega
        simp [this] at h3 ⊢
        exact h3
      · omega
    rw [hr] at hm
    cases hm

end Go.Proofs.Ytggoncamiafclab
namespace Go.Proofs.Ytggoncamiafclab
open Go.RowKit Go.BigFrame
set_option linter.unusedVariables false
set_option linter.unusedSimpArgs false

/-- o waits for i. -/
def covT (o : Oper) (i : Nat) : Bool := o.after.any fun e => Region.binds .any e && e.on == i
/-- o waits for i, or for one that waits for it, and so on. -/
def reach (ops : List Oper) : Nat → Oper → Nat → Bool
  | 0, o, i => covT o i
  | n + 1, o, i => covT o i || (List.range ops.length).any fun k => covT o k && (match ops[k]? with
    | some x => reach ops n x i
    | none => false)
/-- Those from n on wait for all ahead of them. -/
def coverT (n : Nat) (ops : List Oper) : Bool := (List.range ops.length).all fun p => decide (p < n) || (match ops[p]? with
  | some o => (List.range p).all fun i => reach ops 8 o i
  | none => true)
def ShutT (ops : List Oper) (listed : Array Bool) : Prop := ∀ k x, ops[k]? = some x → listed.getD k false = true → ∀ e ∈ x.after, Region.binds .any e = true → listed.getD e.on false = true
theorem covT_of {x : Oper} {i : Nat} (h : covT x i = true) {listed : Array Bool} (hd : ∀ e ∈ x.after, Region.binds .any e = true → listed.getD e.on false = true) : listed.getD i false = true := by
  obtain ⟨e, he, h2⟩ := Array.any_eq_true'.1 h
  simp only [Bool.and_eq_true, beq_iff_eq] at h2
  have h3 := hd e he h2.1
  rw [h2.2] at h3
  exact h3
theorem reach_of {ops : List Oper} {listed : Array Bool} (hS : ShutT ops listed) : ∀ (n : Nat) (x : Oper) (i : Nat), reach ops n x i = true → (∀ e ∈ x.after, Region.binds .any e = true → listed.getD e.on false = true) → listed.getD i false = true
  | 0, x, i, h, hd => covT_of h hd
  | n + 1, x, i, h, hd => by
    rcases Bool.or_eq_true_iff.1 h with h1 | h1
    · exact covT_of h1 hd
    · obtain ⟨k, _, h4⟩ := List.any_eq_true.1 h1
      simp only [Bool.and_eq_true] at h4
      have h5 := covT_of h4.1 hd
      cases hk : ops[k]? with
      | none => rw [hk] at h4; exact absurd h4.2 (by simp)
      | some y =>
        rw [hk] at h4
        exact reach_of hS n y i h4.2 (hS k y hk h5)
/-- The first m are listed, and no other. -/
structure Upto (n m : Nat) (listed : Array Bool) : Prop where
  size : listed.size = n
  yes : ∀ j, j < m → listed.getD j false = true
  no : ∀ j, m ≤ j → j < n → listed.getD j true = false
theorem Upto.next {n m : Nat} {listed : Array Bool} (h : Upto n m listed) (hm : m < n) : Upto n (m + 1) (listed.setIfInBounds m true) := by
  refine ⟨by simpa using h.size, fun j hj => ?_, fun j h1 h2 => ?_⟩
  · by_cases e : m = j
    · subst e
      have : m < listed.size := by rw [h.size]; exact hm
      simp [this]
    · rw [getD_set_ne false e]; exact h.yes j (by omega)
  · rw [getD_set_ne true (by omega)]; exact h.no j (by omega) h2
theorem Upto.shut {ops : List Oper} {m : Nat} {listed : Array Bool} (h : Upto ops.length m listed) (hlow : lowB ops = true) : ShutT ops listed := by
  intro k x hx hk e he hb
  have hkl : k < ops.length := (List.getElem?_eq_some_iff.1 hx).1
  have hkm : k < m := by
    apply Classical.byContradiction
    intro hno
    have h1 := h.no k (by omega) hkl
    have : k < listed.size := by rw [h.size]; exact hkl
    simp [this] at h1 hk
    rw [h1] at hk; cases hk
  have h1 := List.all_eq_true.1 hlow k (by simpa using hkl)
  rw [hx] at h1
  have h2 := (Array.all_eq_true_iff_forall_mem.1 h1) e he
  rw [hb] at h2
  have hlt : e.on < k := by simpa using h2
  exact h.yes _ (by omega)
theorem wait_of {n : Nat} {ops : List Oper} (hc : coverT n ops = true) {i : Nat} (hi : n ≤ i) {o : Oper} (ho : ops[i]? = some o) {listed : Array Bool} (hS : ShutT ops listed) (hd : ∀ e ∈ o.after, Region.binds .any e = true → listed.getD e.on false = true) : ∀ j, j < i → listed.getD j false = true := by
  intro j hj
  have hil : i < ops.length := (List.getElem?_eq_some_iff.1 ho).1
  have h1 := List.all_eq_true.1 hc i (by simpa using hil)
  rw [ho] at h1
  rcases Bool.or_eq_true_iff.1 h1 with h2 | h2
  · exact absurd (of_decide_eq_true h2) (by omega)
  · have h3 := List.all_eq_true.1 h2 j (by simpa using hj)
    exact reach_of hS 8 o j h3 hd
theorem Upto.only {n : Nat} {ops : List Oper} {m : Nat} {listed : Array Bool} (h : Upto ops.length m listed) (hlow : lowB ops = true) (hc : coverT n ops = true) (hn : n ≤ m) {i : Nat} (hi : i ∈ Region.ready .any ops.toArray listed) : i = m ∧ m < ops.length := by
  obtain ⟨h0, o, ho, hd⟩ := mem_ready.1 hi
  simp only [List.getElem?_toArray] at ho
  have hil : i < ops.length := (List.getElem?_eq_some_iff.1 ho).1
  have hsz : i < listed.size := by rw [h.size]; exact hil
  have hmi : m ≤ i := by
    apply Classical.byContradiction
    intro hno
    have h1 := h.yes i (by omega)
    simp [hsz] at h0 h1
    rw [h0] at h1; cases h1
  rcases Nat.eq_or_lt_of_le hmi with e | e
  · exact ⟨e.symm, by omega⟩
  · exfalso
    have h1 := wait_of hc (by omega) ho (h.shut hlow) hd m e
    have h2 := h.no m (Nat.le_refl _) (by omega)
    have : m < listed.size := by rw [h.size]; omega
    simp [this] at h1 h2
    rw [h2] at h1; cases h1
theorem Upto.none {n : Nat} {ops : List Oper} {listed : Array Bool} (h : Upto ops.length ops.length listed) : Region.ready .any ops.toArray listed = [] := by
  apply List.eq_nil_iff_forall_not_mem.2
  intro k hk
  obtain ⟨hk0, o2, ho2, _⟩ := mem_ready.1 hk
  have hkl : k < ops.length := by
    have := (Array.getElem?_eq_some_iff.1 ho2).1
    simpa using this
  have h1 := h.yes k hkl
  have : k < listed.size := by rw [h.size]; exact hkl
  simp [this] at h1 hk0
  rw [hk0] at h1; cases h1
end Go.Proofs.Ytggoncamiafclab
namespace Go.Proofs.Ytggoncamiafclab
open Go.RowKit Go.BigFrame
set_option linter.unusedVariables false
set_option linter.unusedSimpArgs false

/-- What has been done, and i. -/
def upd (f : Nat → Bool) (i : Nat) : Nat → Bool := fun k => if k = i then true else f k
theorem wpAny_inv {P : Program} {Q : Exit → Act → World → Prop} {ops : Array Oper} (I : (Nat → Bool) → Act → World → Prop)
    (hs : ∀ (f : Nat → Bool) (a : Act) (w : World) (i : Nat) (o : Oper), I f a w → f i = false → ops[i]? = some o → (∀ e ∈ o.after, Region.binds .any e = true → f e.on = true) → (Region.wanted o (yielded ops a.tmps) = true ∧ o.wp P a w (fun a' w' => I (upd f i) a' w') Q) ∨ (Region.wanted o (yielded ops a.tmps) = false ∧ I (upd f i) (a.put o.dst undef) w))
    (he : ∀ (f : Nat → Bool) (a : Act) (w : World), I f a w → (∀ i, i < ops.size → f i = true) → Q .normal a w) (hall : ∀ listed : Array Bool, listed.size = ops.size → Region.ready .any ops listed = [] → ∀ i, i < ops.size → listed.getD i false = true) :
    ∀ (fuel : Nat) (listed : Array Bool) (us : List Nat) (a : Act) (w : World), listed.size = ops.size → us.length ≤ fuel → (∀ i, listed.getD i true = false → i ∈ us) → I (fun k => listed.getD k false) a w → wpAny P .any ops Q fuel listed a w := by
  intro fuel
  induction fuel with
  | zero =>
    intro listed us a w hz hu hi hI
    have hr : Region.ready .any ops listed = [] := by
      apply List.eq_nil_iff_forall_not_mem.2
      intro k hk
      have := hi k (mem_ready.1 hk).1
      have hu0 : us = [] := List.length_eq_zero_iff.1 (by omega)
      rw [hu0] at this
      cases this
    exact ⟨hr, he _ a w hI (hall listed hz hr)⟩
  | succ fuel ih =>
    intro listed us a w hz hu hi hI
    refine ⟨fun hr => he _ a w hI (hall listed hz hr), fun i hr => ?_⟩
    obtain ⟨h0, o, ho, hd⟩ := mem_ready.1 hr
    have hlt : i < ops.size := (Array.getElem?_eq_some_iff.1 ho).1
    have hlt2 : i < listed.size := by omega
    have hf : listed.getD i false = false := by
      simp [hlt2] at h0 ⊢
      exact h0
    have go : ∀ a' w', I (upd (fun k => listed.getD k false) i) a' w' → wpAny P .any ops Q fuel (listed.setIfInBounds i true) a' w' := fun a' w' hI' => by
      refine ih _ (us.erase i) a' w' (by simpa using hz) ?_ ?_ ?_
      · have := List.length_erase_of_mem (hi i h0)
        omega
      · intro j hj
        have hji : j ≠ i := by
          intro e
          subst e
          simp [hlt2] at hj
        rw [getD_set_ne true (Ne.symm hji)] at hj
        exact (List.mem_erase_of_ne hji).2 (hi j hj)
      · have e : (fun k => (listed.setIfInBounds i true).getD k false) = (fun k => if k = i then true else listed.getD k false) := by
          funext k
          by_cases hk : k = i
          · subst hk
            simp [hlt2]
          · rw [if_neg hk, getD_set_ne false (Ne.symm hk)]
        rw [e]; exact hI'
    unfold wpOp
    rcases hs _ a w i o hI hf ho hd with ⟨hwant, hw⟩ | ⟨hwant, hw⟩
    · simp only [ho, hwant, if_true]
      exact .inl (Oper.wp_mono (fun a' w' hI' => go a' w' hI') hw)
    · simp only [ho, hwant, Bool.false_eq_true, if_false]
      exact go _ _ hw
end Go.Proofs.Ytggoncamiafclab
