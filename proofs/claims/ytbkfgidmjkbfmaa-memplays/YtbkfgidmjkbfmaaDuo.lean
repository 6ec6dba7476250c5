/-
  Two memories side by side, the program's and the document's, and a pool in each: what a call of the one leaves of the other ('Duo'). No statement is proved here.
-/
import Derived.Test.YtbkfgidmjkbfmaaRef6
import Derived.Test.YtbkfgidmjkbfmaaApartA
namespace Go.Proofs.Ytbkfgidmjkbfmaa
open Go.RowKit Go.BigFrame
set_option linter.unusedVariables false
set_option linter.unusedSimpArgs false
set_option maxRecDepth 1000000
set_option maxHeartbeats 4000000

/-- Where two pools lie. -/
structure PB where
  bp : Nat
  bw : Nat
  bq : Nat
  bv : Nat
  at_ : Nat
  size : Nat
/-- The program's pool, or none. -/
def PB.real : Option PB → Value
  | none => .pointer none
  | some b => .pointer (some ⟨b.bp, 0, none⟩)
/-- The document's pool, or none. -/
def PB.ref : Option PB → Value
  | none => .pointer none
  | some b => .pointer (some ⟨b.bq, 0, none⟩)

theorem ne_types {w : World} {b c : Nat} {x y : Array Value} {t u : TypeId} {f g : Nat × Nat} (h : w.heap[b]? = some (.cells x t f)) (k : w.heap[c]? = some (.cells y u g)) (ht : t ≠ u) : b ≠ c := by
  intro e; subst e; rw [h] at k; cases k; exact ht rfl

/-- Both memories and both pools, made since w0. -/
structure Duo (w0 w : World) (bM bm bb br bB bL k : Nat) (o : Option PB) (lv : Value) (l : List (Nat × Nat)) (bs ws : List UInt8) (rl : List (Nat × Nat)) (rbs rws : List UInt8) : Prop where
  mem : MemA w bM bm bb k lv l bs
  ref : RefA w br bB bL k rl rbs
  pool : ∀ b, o = some b → PoolA w b.bp bm b.at_ b.size b.bw ws
  rpool : ∀ b, o = some b → RPoolA w b.bq br b.at_ b.size b.bv rws
  num : ∀ b, o = some b → 1 ≤ b.size ∧ b.size ≤ 1048576 ∧ b.at_ + ws.length * b.size ≤ k
  few : ws.length ≤ 256
  same : rws.length = ws.length
  ne : bb ≠ bB
  nep : ∀ b, o = some b → bb ≠ b.bw ∧ bb ≠ b.bv ∧ bB ≠ b.bw ∧ bB ≠ b.bv ∧ b.bw ≠ b.bv
  base : w0.heap.size ≤ bm ∧ w0.heap.size ≤ bb ∧ w0.heap.size ≤ bB ∧ w0.heap.size ≤ bL
  basep : ∀ b, o = some b → w0.heap.size ≤ b.bw ∧ w0.heap.size ≤ b.bv
  own : ∀ g, lv.ownBlock = some g → w0.heap.size ≤ g
  fr : Fr [] w0 w

theorem Duo.fr0 {w0 w w1 : World} {bM bm bb br bB bL k : Nat} {o : Option PB} {lv : Value} {l rl : List (Nat × Nat)} {bs ws rbs rws : List UInt8} (h : Duo w0 w bM bm bb br bB bL k o lv l bs ws rl rbs rws) (hF : Fr [] w w1) : Duo w0 w1 bM bm bb br bB bL k o lv l bs ws rl rbs rws :=
  ⟨h.mem.fr0 hF, h.ref.fr0 hF, fun b e => (h.pool b e).fr hF (by simp) (by simp), fun b e => (h.rpool b e).fr hF (by simp) (by simp), h.num, h.few, h.same, h.ne, h.nep, h.base, h.basep, h.own, h.fr.trans0 hF⟩

/-- The program's side turns. -/
theorem Duo.real {w0 w w1 : World} {bM bm bb br bB bL k : Nat} {o : Option PB} {lv lv' : Value} {l l' rl : List (Nat × Nat)} {bs bs' ws ws' rbs rws : List UInt8} (h : Duo w0 w bM bm bb br bB bL k o lv l bs ws rl rbs rws) (S : List Nat)
    (hM : MemA w1 bM bm bb k lv' l' bs') (hP : ∀ b, o = some b → PoolA w1 b.bp bm b.at_ b.size b.bw ws') (hl : ws'.length = ws.length) (hlo : ∀ g, lv'.ownBlock = some g → lo w lv ≤ g) (hF : Fr S w w1)
    (hS : ∀ t, t ∈ S → t = bm ∨ t = bb ∨ lv.ownBlock = some t ∨ ∃ b, o = some b ∧ t = b.bw) : Duo w0 w1 bM bm bb br bB bL k o lv' l' bs' ws' rl rbs rws := by
  obtain ⟨ls, g1, g2, g3⟩ := h.ref.lent
  have r1 : br ∉ S := fun hm => by
    rcases hS _ hm with e | e | e | ⟨b, hb, e⟩
    · exact ne_types h.ref.blk h.mem.mid.blk (by decide) e
    · exact ne_types h.ref.blk h.mem.bytes (by decide) e
    · exact Row.ne h.mem.mid.row h.ref.blk (by decide) _ e rfl
    · exact ne_types h.ref.blk (h.pool b hb).who (by decide) e
  have r2 : bB ∉ S := fun hm => by
    rcases hS _ hm with e | e | e | ⟨b, hb, e⟩
    · exact ne_types h.ref.bytes h.mem.mid.blk (by decide) e
    · exact h.ne e.symm
    · exact Row.ne h.mem.mid.row h.ref.bytes (by decide) _ e rfl
    · exact (h.nep b hb).2.2.1 e
  have r3 : bL ∉ S := fun hm => by
    rcases hS _ hm with e | e | e | ⟨b, hb, e⟩
    · exact ne_types g3 h.mem.mid.blk (by decide) e
    · exact ne_types g3 h.mem.bytes (by decide) e
    · exact Row.ne h.mem.mid.row g3 (by decide) _ e rfl
    · exact ne_types g3 (h.pool b hb).who (by decide) e
  refine ⟨hM, h.ref.fr hF r1 r2 r3, hP, fun b hb => (h.rpool b hb).fr hF (fun hm => ?_) (fun hm => ?_), fun b hb => by rw [hl]; exact h.num b hb, by rw [hl]; exact h.few, by rw [hl]; exact h.same, h.ne, h.nep, h.base, h.basep, ?_, h.fr.trans hF (fun t ht => .inr ?_)⟩
  · rcases hS _ hm with e | e | e | ⟨b', hb', e⟩
    · exact ne_types (h.rpool b hb).blk h.mem.mid.blk (by decide) e
    · exact ne_types (h.rpool b hb).blk h.mem.bytes (by decide) e
    · exact Row.ne h.mem.mid.row (h.rpool b hb).blk (by decide) _ e rfl
    · exact ne_types (h.rpool b hb).blk (h.pool b' hb').who (by decide) e
  · rcases hS _ hm with e | e | e | ⟨b', hb', e⟩
    · exact ne_types (h.rpool b hb).who h.mem.mid.blk (by decide) e
    · exact (h.nep b hb).2.1 e.symm
    · exact Row.ne h.mem.mid.row (h.rpool b hb).who (by decide) _ e rfl
    · rw [hb] at hb'; cases hb'; exact (h.nep b hb).2.2.2.2 e.symm
  · intro g hg
    refine Nat.le_trans ?_ (hlo g hg)
    unfold lo
    cases e : lv.ownBlock with
    | none => exact h.fr.size
    | some g' => exact h.own g' e
  · rcases hS _ ht with rfl | rfl | e | ⟨b, hb, rfl⟩
    · exact h.base.1
    · exact h.base.2.1
    · exact h.own t e
    · exact (h.basep b hb).1
/-- The document's side turns. -/
theorem Duo.turn {w0 w w1 : World} {bM bm bb br bB bL k : Nat} {o : Option PB} {lv : Value} {l rl rl' : List (Nat × Nat)} {bs ws rbs rbs' rws rws' : List UInt8} (h : Duo w0 w bM bm bb br bB bL k o lv l bs ws rl rbs rws) (S : List Nat)
    (hR : RefA w1 br bB bL k rl' rbs') (hP : ∀ b, o = some b → RPoolA w1 b.bq br b.at_ b.size b.bv rws') (hl : rws'.length = rws.length) (hF : Fr S w w1)
    (hS : ∀ t, t ∈ S → t = bB ∨ t = bL ∨ ∃ b, o = some b ∧ t = b.bv) : Duo w0 w1 bM bm bb br bB bL k o lv l bs ws rl' rbs' rws' := by
  obtain ⟨ls, g1, g2, g3⟩ := h.ref.lent
  have r1 : bM ∉ S := fun hm => by
    rcases hS _ hm with e | e | ⟨b, hb, e⟩
    · exact ne_types h.mem.top h.ref.bytes (by decide) e
    · exact ne_types h.mem.top g3 (by decide) e
    · exact ne_types h.mem.top (h.rpool b hb).who (by decide) e
  have r2 : bm ∉ S := fun hm => by
    rcases hS _ hm with e | e | ⟨b, hb, e⟩
    · exact ne_types h.mem.mid.blk h.ref.bytes (by decide) e
    · exact ne_types h.mem.mid.blk g3 (by decide) e
    · exact ne_types h.mem.mid.blk (h.rpool b hb).who (by decide) e
  have r3 : bb ∉ S := fun hm => by
    rcases hS _ hm with e | e | ⟨b, hb, e⟩
    · exact h.ne e
    · exact ne_types h.mem.bytes g3 (by decide) e
    · exact (h.nep b hb).2.1 e
  have r4 : ∀ g, lv.ownBlock = some g → g ∉ S := fun g hg hm => by
    rcases hS _ hm with e | e | ⟨b, hb, e⟩
    · exact Row.ne h.mem.mid.row h.ref.bytes (by decide) g hg e
    · exact Row.ne h.mem.mid.row g3 (by decide) g hg e
    · exact Row.ne h.mem.mid.row (h.rpool b hb).who (by decide) g hg e
  refine ⟨h.mem.fr hF r1 r2 r3 r4, hR, fun b hb => (h.pool b hb).fr hF (fun hm => ?_) (fun hm => ?_), hP, h.num, h.few, by rw [hl]; exact h.same, h.ne, h.nep, h.base, h.basep, h.own, h.fr.trans hF (fun t ht => .inr ?_)⟩
  · rcases hS _ hm with e | e | ⟨b', hb', e⟩
    · exact ne_types (h.pool b hb).blk h.ref.bytes (by decide) e
    · exact ne_types (h.pool b hb).blk g3 (by decide) e
    · exact ne_types (h.pool b hb).blk (h.rpool b' hb').who (by decide) e
  · rcases hS _ hm with e | e | ⟨b', hb', e⟩
    · exact (h.nep b hb).2.2.1 e.symm
    · exact ne_types (h.pool b hb).who g3 (by decide) e
    · rw [hb] at hb'; cases hb'; exact (h.nep b hb).2.2.2.2 e
  · rcases hS _ ht with rfl | rfl | ⟨b, hb, rfl⟩
    · exact h.base.2.2.1
    · exact h.base.2.2.2
    · exact (h.basep b hb).2
end Go.Proofs.Ytbkfgidmjkbfmaa
