/-
  A region that draws its order, by an invariant over what has been listed so far: whatever comes up next keeps it. No statement is proved here.
-/
import Derived.Test.YtmalnjdacmlcdaaDoorBase
import Derived.Test.YtmalnjdacmlcdaaDoorTail
namespace Go.Proofs.YtmalnjdacmlcdaaDoor
open Go.RowKit Go.BigFrame
set_option linter.unusedVariables false
set_option linter.unusedSimpArgs false

/-- What has been done, and i. -/
def upd (f : Nat → Bool) (i : Nat) : Nat → Bool := fun k => if k = i then true else f k
theorem wpAny_inv {P : Program} {Q : Exit → Act → World → Prop} {ops : Array Oper} (I : (Nat → Bool) → Act → World → Prop)
    (hs : ∀ (f : Nat → Bool) (a : Act) (w : World) (i : Nat) (o : Oper), I f a w → f i = false → ops[i]? = some o → (∀ e ∈ o.after, Region.binds .any e = true → f e.on = true) → o.guard = none ∧ o.wp P a w (fun a' w' => I (upd f i) a' w') Q)
    (he : ∀ (f : Nat → Bool) (a : Act) (w : World), I f a w → (∀ i, i < ops.size → f i = true) → Q .normal a w) (hall : ∀ listed : Array Bool, listed.size = ops.size → Region.ready .any ops listed = [] → ∀ i, i < ops.size → listed.getD i false = true) :
    ∀ (fuel : Nat) (listed : Array Bool) (us : List Nat) (a : Act) (w : World), listed.size = ops.size → us.length ≤ fuel → (∀ i, listed.getD i true = false → i ∈ us) → I (fun k => listed.getD k false) a w → wpAny P .any ops Q fuel listed a w := by
  intro fuel
  induction fuel with
  | zero =>
    intro listed us a w hz hu hi hI
    have hr : Region.ready .any ops listed = [] := by
      apply List.eq_nil_iff_forall_not_mem.2
      intro k hk
      have := hi k (mem_ready.1 hk).1
      have hu0 : us = [] := List.length_eq_zero_iff.1 (by omega)
      rw [hu0] at this
      cases this
    exact ⟨hr, he _ a w hI (hall listed hz hr)⟩
  | succ fuel ih =>
    intro listed us a w hz hu hi hI
    refine ⟨fun hr => he _ a w hI (hall listed hz hr), fun i hr => ?_⟩
    obtain ⟨h0, o, ho, hd⟩ := mem_ready.1 hr
    have hlt : i < ops.size := (Array.getElem?_eq_some_iff.1 ho).1
    have hlt2 : i < listed.size := by omega
    have hf : listed.getD i false = false := by
      simp [hlt2] at h0 ⊢
      exact h0
    obtain ⟨hg, hw⟩ := hs _ a w i o hI hf ho hd
    unfold wpOp
    have hwant : Region.wanted o (yielded ops a.tmps) = true := by unfold Region.wanted; simp [hg]
    simp only [ho, hwant, if_true]
    refine .inl (Oper.wp_mono (fun a' w' hI' => ?_) hw)
    refine ih _ (us.erase i) a' w' (by simpa using hz) ?_ ?_ ?_
    · have := List.length_erase_of_mem (hi i h0)
      omega
    · intro j hj
      have hji : j ≠ i := by
        intro e
        subst e
        simp [hlt2] at hj
      rw [getD_set_ne true (Ne.symm hji)] at hj
      exact (List.mem_erase_of_ne hji).2 (hi j hj)
    · have e : (fun k => (listed.setIfInBounds i true).getD k false) = (fun k => if k = i then true else listed.getD k false) := by
        funext k
        by_cases hk : k = i
        · subst hk
          simp [hlt2]
        · rw [if_neg hk, getD_set_ne false (Ne.symm hk)]
      rw [e]; exact hI'
theorem wp_region_inv {P : Program} {id : Nat} {Q : Exit → Act → World → Prop} {a : Act} {w : World} (l : List Oper) (o : Oper) (hm : P.follows .mixedOrders = true) (hlow : lowB (l ++ [o]) = true) (I : (Nat → Bool) → Act → World → Prop)
    (h0 : I (fun _ => false) a { w with drawn := w.drawn + 1 })
    (hs : ∀ (f : Nat → Bool) (a : Act) (w : World) (i : Nat) (x : Oper), I f a w → f i = false → (l ++ [o])[i]? = some x → (∀ e ∈ x.after, Region.binds .any e = true → f e.on = true) → x.guard = none ∧ x.wp P a w (fun a' w' => I (upd f i) a' w') Q)
    (he : ∀ (f : Nat → Bool) (a : Act) (w : World), I f a w → (∀ i, i < l.length + 1 → f i = true) → Q .normal a w) : (Code.region id (l ++ [o]).toArray true).wp P Q a w := by
  refine wp_region_any hm ?_
  refine wpAny_inv I (fun f a w i x hI hf hx hd => hs f a w i x hI hf (by simpa using hx) hd) (fun f a w hI hf => he f a w hI (fun i hi => hf i (by simpa using hi))) ?_ _ _ (List.range (l ++ [o]).toArray.size) a _ (by simp) (by simp) ?_ ?_
  · intro listed hz hr i hi
    have hi2 : i < (l ++ [o]).length := by simpa using hi
    rcases all_listed hlow hr i hi2 with h | h
    · have : i < listed.size := by omega
      simp [this] at h ⊢
      exact h
    · omega
  · intro i hi
    rcases Nat.lt_or_ge i (l ++ [o]).toArray.size with h | h
    · simpa using h
    · have : ¬ i < (Array.replicate (l ++ [o]).toArray.size false).size := by simp at h ⊢; omega
      rw [Array.getD_eq_getD_getElem?, Array.getElem?_eq_none (Nat.le_of_not_lt this)] at hi
      cases hi
  · have e : (fun k => (Array.replicate (l ++ [o]).toArray.size false).getD k false) = fun _ => false := by
      funext k
      simp [Array.getD_eq_getD_getElem?, Array.getElem?_replicate]
      split <;> simp
    rw [e]; exact h0
end Go.Proofs.YtmalnjdacmlcdaaDoor
namespace Go.Proofs.YtmalnjdacmlcdaaDoor
open Go.RowKit
set_option linter.unusedVariables false
set_option linter.unusedSimpArgs false

/-- A value: its shape is known, its numbers may be letters; blocks are told by their places in a list. -/
inductive SV where
  | any
  | v (x : Value)
  | i (z : Int)
  | b (t : Bool)
  | w64 (x : BitVec 64)
  | w32 (x : BitVec 32)
  | w16 (x : BitVec 16)
  | w8 (x : BitVec 8)
  | s (l : List (BitVec 8))
  | ptr (k off : Nat)
  | sl (k off len cap : Nat)
  | a64 (l : List (BitVec 64))
  | a32 (l : List (BitVec 32))
  | a8 (l : List (BitVec 8))
  | agg (l : List SV)
  | tup (l : List SV)
  | fn (f : Nat) (l : List SV)
def c64 (x : BitVec 64) : Value := .int .u64 ((x.toNat : Nat) : Int)
def c32 (x : BitVec 32) : Value := .int .u32 ((x.toNat : Nat) : Int)
def c16 (x : BitVec 16) : Value := .int .u16 ((x.toNat : Nat) : Int)
def c8 (x : BitVec 8) : Value := .int .u8 ((x.toNat : Nat) : Int)
/-- The bytes of a text, and a text of bytes. -/
def bts (s : ByteArray) : List (BitVec 8) := s.data.toList.map (·.toBitVec)
def txt (l : List (BitVec 8)) : ByteArray := ⟨(l.map UInt8.ofBitVec).toArray⟩
theorem txt_bts (s : ByteArray) : txt (bts s) = s := by
  obtain ⟨d⟩ := s
  simp [txt, bts, Function.comp_def]
theorem bts_txt (l : List (BitVec 8)) : bts (txt l) = l := by simp [txt, bts, Function.comp_def]
mutual
def val (β : Nat → Nat) : SV → Value
  | .any => undef
  | .v x => x
  | .i z => .int .i64 z
  | .b t => .bool t
  | .w64 x => c64 x
  | .w32 x => c32 x
  | .w16 x => c16 x
  | .w8 x => c8 x
  | .s l => .string (txt l)
  | .ptr k off => .pointer (some ⟨β k, off, none⟩)
  | .sl k off len cap => .slice (some ⟨β k, off, none⟩) len cap
  | .a64 l => .agg (l.map c64).toArray
  | .a32 l => .agg (l.map c32).toArray
  | .a8 l => .agg (l.map c8).toArray
  | .agg l => .agg (vals β l).toArray
  | .tup l => .tuple (vals β l).toArray
  | .fn f l => .func (.func f) #[] (vals β l).toArray
def vals (β : Nat → Nat) : List SV → List Value
  | [] => []
  | x :: l => val β x :: vals β l
end
theorem vals_map (β : Nat → Nat) (l : List SV) : vals β l = l.map (val β) := by
  induction l with
  | nil => rfl
  | cons x l ih => simp [vals, ih]
/-- All that it points to lies ahead of n, and nothing of it is unknown. -/
def SV.wf (n : Nat) : SV → Bool
  | .any => false
  | .ptr k _ => Nat.blt k n
  | .sl k _ _ _ => Nat.blt k n
  | .agg l => wfs n l
  | .tup l => wfs n l
  | .fn _ l => wfs n l
  | _ => true
where wfs (n : Nat) : List SV → Bool
  | [] => true
  | x :: l => SV.wf n x && wfs n l
inductive Cont where
  | gone
  | row (l : List SV)
  | a64 (l : List (BitVec 64))
  | a32 (l : List (BitVec 32))
  | a8 (l : List (BitVec 8))
  | ints (l : List Int)
  | strs (pre : List Value) (l : List (List (BitVec 8)))
  | tr (t : Nat) (l : List SV)
  | t8 (t : Nat) (l : List (BitVec 8))
def Cont.cells (β : Nat → Nat) : Cont → List Value
  | .gone => []
  | .row l => vals β l
  | .a64 l => l.map c64
  | .a32 l => l.map c32
  | .a8 l => l.map c8
  | .ints l => l.map (.int .i64 ·)
  | .strs pre l => pre ++ l.map fun x => .string (txt x)
  | .tr _ l => vals β l
  | .t8 _ l => l.map c8
/-- Of which type a block is, and how many cells it has, where that is told. -/
def Cont.shp : Cont → Option (Nat × Nat)
  | .tr t l => some (t, l.length)
  | .t8 t l => some (t, l.length)
  | _ => none
def Cont.wf (n : Nat) : Cont → Bool
  | .row l => SV.wf.wfs n l
  | .tr _ l => SV.wf.wfs n l
  | _ => true
def Cont.here : Cont → Bool
  | .gone => false
  | _ => true
structure Ent where
  rw : Bool
  c : Cont
abbrev Mm := List Ent
end Go.Proofs.YtmalnjdacmlcdaaDoor
