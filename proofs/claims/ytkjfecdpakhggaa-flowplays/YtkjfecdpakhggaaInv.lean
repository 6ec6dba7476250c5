/-
  A region that draws its order, by an invariant over what has been listed so far: whatever comes up next keeps it. No statement is proved here.
-/
import Derived.Test.YtkjfecdpakhggaaBase
import Derived.Test.YtkjfecdpakhggaaTail
namespace Go.Proofs.Ytkjfecdpakhggaa
open Go.RowKit Go.BigFrame
set_option linter.unusedVariables false
set_option linter.unusedSimpArgs false

/-- What has been done, and i. -/
def upd (f : Nat → Bool) (i : Nat) : Nat → Bool := fun k => if k = i then true else f k
theorem wpAny_inv {P : Program} {Q : Exit → Act → World → Prop} {ops : Array Oper} (I : (Nat → Bool) → Act → World → Prop)
    (hs : ∀ (f : Nat → Bool) (a : Act) (w : World) (i : Nat) (o : Oper), I f a w → f i = false → ops[i]? = some o → (∀ e ∈ o.after, Region.binds .any e = true → f e.on = true) → (Region.wanted o (yielded ops a.tmps) = true ∧ o.wp P a w (fun a' w' => I (upd f i) a' w') Q) ∨ (Region.wanted o (yielded ops a.tmps) = false ∧ I (upd f i) (a.put o.dst undef) w))
    (he : ∀ (f : Nat → Bool) (a : Act) (w : World), I f a w → (∀ i, i < ops.size → f i = true) → Q .normal a w) (hall : ∀ listed : Array Bool, listed.size = ops.size → Region.ready .any ops listed = [] → ∀ i, i < ops.size → listed.getD i false = true) :
    ∀ (fuel : Nat) (listed : Array Bool) (us : List Nat) (a : Act) (w : World), listed.size = ops.size → us.length ≤ fuel → (∀ i, listed.getD i true = false → i ∈ us) → I (fun k => listed.getD k false) a w → wpAny P .any ops Q fuel listed a w := by
  intro fuel
  induction fuel with
  | zero =>
    intro listed us a w hz hu hi hI
    have hr : Region.ready .any ops listed = [] := by
      apply List.eq_nil_iff_forall_not_mem.2
      intro k hk
      have := hi k (mem_ready.1 hk).1
      have hu0 : us = [] := List.length_eq_zero_iff.1 (by omega)
      rw [hu0] at this
      cases this
    exact ⟨hr, he _ a w hI (hall listed hz hr)⟩
  | succ fuel ih =>
    intro listed us a w hz hu hi hI
    refine ⟨fun hr => he _ a w hI (hall listed hz hr), fun i hr => ?_⟩
    obtain ⟨h0, o, ho, hd⟩ := mem_ready.1 hr
    have hlt : i < ops.size := (Array.getElem?_eq_some_iff.1 ho).1
    have hlt2 : i < listed.size := by omega
    have hf : listed.getD i false = false := by
      simp [hlt2] at h0 ⊢
      exact h0
    have go : ∀ a' w', I (upd (fun k => listed.getD k false) i) a' w' → wpAny P .any ops Q fuel (listed.setIfInBounds i true) a' w' := fun a' w' hI' => by
      refine ih _ (us.erase i) a' w' (by simpa using hz) ?_ ?_ ?_
      · have := List.length_erase_of_mem (hi i h0)
        omega
      · intro j hj
        have hji : j ≠ i := by
          intro e
          subst e
          simp [hlt2] at hj
        rw [getD_set_ne true (Ne.symm hji)] at hj
        exact (List.mem_erase_of_ne hji).2 (hi j hj)
      · have e : (fun k => (listed.setIfInBounds i true).getD k false) = (fun k => if k = i then true else listed.getD k false) := by
          funext k
          by_cases hk : k = i
          · subst hk
            simp [hlt2]
          · rw [if_neg hk, getD_set_ne false (Ne.symm hk)]
        rw [e]; exact hI'
    unfold wpOp
    rcases hs _ a w i o hI hf ho hd with ⟨hwant, hw⟩ | ⟨hwant, hw⟩
    · simp only [ho, hwant, if_true]
      exact .inl (Oper.wp_mono (fun a' w' hI' => go a' w' hI') hw)
    · simp only [ho, hwant, Bool.false_eq_true, if_false]
      exact go _ _ hw
theorem wp_region_inv {P : Program} {id : Nat} {Q : Exit → Act → World → Prop} {a : Act} {w : World} (l : List Oper) (o : Oper) (hm : P.follows .mixedOrders = true) (hlow : lowB (l ++ [o]) = true) (I : (Nat → Bool) → Act → World → Prop)
    (h0 : I (fun _ => false) a { w with drawn := w.drawn + 1 })
    (hs : ∀ (f : Nat → Bool) (a : Act) (w : World) (i : Nat) (x : Oper), I f a w → f i = false → (l ++ [o])[i]? = some x → (∀ e ∈ x.after, Region.binds .any e = true → f e.on = true) → (Region.wanted x (yielded (l ++ [o]).toArray a.tmps) = true ∧ x.wp P a w (fun a' w' => I (upd f i) a' w') Q) ∨ (Region.wanted x (yielded (l ++ [o]).toArray a.tmps) = false ∧ I (upd f i) (a.put x.dst undef) w))
    (he : ∀ (f : Nat → Bool) (a : Act) (w : World), I f a w → (∀ i, i < l.length + 1 → f i = true) → Q .normal a w) : (Code.region id (l ++ [o]).toArray true).wp P Q a w := by
  refine wp_region_any hm ?_
  refine wpAny_inv I (fun f a w i x hI hf hx hd => hs f a w i x hI hf (by simpa using hx) hd) (fun f a w hI hf => he f a w hI (fun i hi => hf i (by simpa using hi))) ?_ _ _ (List.range (l ++ [o]).toArray.size) a _ (by simp) (by simp) ?_ ?_
  · intro listed hz hr i hi
    have hi2 : i < (l ++ [o]).length := by simpa using hi
    rcases all_listed hlow hr i hi2 with h | h
    · have : i < listed.size := by omega
      simp [this] at h ⊢
      exact h
    · omega
  · intro i hi
    rcases Nat.lt_or_ge i (l ++ [o]).toArray.size with h | h
    · simpa using h
    · have : ¬ i < (Array.replicate (l ++ [o]).toArray.size false).size := by simp at h ⊢; omega
      rw [Array.getD_eq_getD_getElem?, Array.getElem?_eq_none (Nat.le_of_not_lt this)] at hi
      cases hi
  · have e : (fun k => (Array.replicate (l ++ [o]).toArray.size false).getD k false) = fun _ => false := by
      funext k
      simp [Array.getD_eq_getD_getElem?, Array.getElem?_replicate]
      split <;> simp
    rw [e]; exact h0
end Go.Proofs.Ytkjfecdpakhggaa
namespace Go.Proofs.Ytkjfecdpakhggaa
open Go.RowKit
set_option linter.unusedVariables false
set_option linter.unusedSimpArgs false

/-- A value: its shape is known, its numbers may be letters; blocks are told by their places in a list. -/
inductive SV where
  | any
  | v (x : Value)
  | i (z : Int)
  | b (t : Bool)
  | w64 (x : BitVec 64)
  | w32 (x : BitVec 32)
  | w16 (x : BitVec 16)
  | w8 (x : BitVec 8)
  | s (l : List (BitVec 8))
  | ptr (k off : Nat)
  | sl (k off len cap : Nat)
  | a64 (l : List (BitVec 64))
  | a32 (l : List (BitVec 32))
  | a8 (l : List (BitVec 8))
  | agg (l : List SV)
  | tup (l : List SV)
  | fn (f : Nat) (l : List SV)
  | pe (k base idx sz j : Nat)
  | rs (k base eo sz len cap : Nat)
  | ns (b : Bool) (k sz len cap : Nat)
  | mp (k : Nat)
  | fm (f : Nat) (l : List SV)
def c64 (x : BitVec 64) : Value := .int .u64 ((x.toNat : Nat) : Int)
def c32 (x : BitVec 32) : Value := .int .u32 ((x.toNat : Nat) : Int)
def c16 (x : BitVec 16) : Value := .int .u16 ((x.toNat : Nat) : Int)
def c8 (x : BitVec 8) : Value := .int .u8 ((x.toNat : Nat) : Int)
/-- The bytes of a text, and a text of bytes. -/
def bts (s : ByteArray) : List (BitVec 8) := s.data.toList.map (·.toBitVec)
def txt (l : List (BitVec 8)) : ByteArray := ⟨(l.map UInt8.ofBitVec).toArray⟩
theorem txt_bts (s : ByteArray) : txt (bts s) = s := by
  obtain ⟨d⟩ := s
  simp [txt, bts, Function.comp_def]
theorem bts_txt (l : List (BitVec 8)) : bts (txt l) = l := by simp [txt, bts, Function.comp_def]
mutual
def val (β : Nat → Nat) : SV → Value
  | .any => undef
  | .v x => x
  | .i z => .int .i64 z
  | .b t => .bool t
  | .w64 x => c64 x
  | .w32 x => c32 x
  | .w16 x => c16 x
  | .w8 x => c8 x
  | .s l => .string (txt l)
  | .ptr k off => .pointer (some ⟨β k, off, none⟩)
  | .sl k off len cap => .slice (some ⟨β k, off, none⟩) len cap
  | .a64 l => .agg (l.map c64).toArray
  | .a32 l => .agg (l.map c32).toArray
  | .a8 l => .agg (l.map c8).toArray
  | .agg l => .agg (vals β l).toArray
  | .tup l => .tuple (vals β l).toArray
  | .fn f l => .func (.func f) #[] (vals β l).toArray
  | .pe k base idx sz j => .pointer (some ⟨β k, base + idx * sz + j, none⟩)
  | .rs k base eo sz len cap => .slice (some ⟨β k, base + eo * sz, none⟩) len cap
  | .ns b k _ len cap => bif b then .slice none 0 0 else .slice (some ⟨β k, 0, none⟩) len cap
  | .mp k => .map (some (β k))
  | .fm f l => .func (.func f) (vals β l).toArray #[]
def vals (β : Nat → Nat) : List SV → List Value
  | [] => []
  | x :: l => val β x :: vals β l
end
theorem vals_map (β : Nat → Nat) (l : List SV) : vals β l = l.map (val β) := by
  induction l with
  | nil => rfl
  | cons x l ih => simp [vals, ih]
/-- All that it points to lies ahead of n, and nothing of it is unknown. -/
def SV.wf (n : Nat) : SV → Bool
  | .any => false
  | .ptr k _ => Nat.blt k n
  | .sl k _ _ _ => Nat.blt k n
  | .agg l => wfs n l
  | .tup l => wfs n l
  | .fn _ l => wfs n l
  | .pe k _ _ _ _ => Nat.blt k n
  | .rs k _ _ _ _ _ => Nat.blt k n
  | .ns _ k _ _ _ => Nat.blt k n
  | .mp k => Nat.blt k n
  | .fm _ l => wfs n l
  | _ => true
where wfs (n : Nat) : List SV → Bool
  | [] => true
  | x :: l => SV.wf n x && wfs n l
/-- What a cell of a record holds. -/
inductive Fk where
  | u64
  | u32
  | u16
  | u8
  | i
  | s
  | b
abbrev Fk.T : Fk → Type
  | .u64 => BitVec 64
  | .u32 => BitVec 32
  | .u16 => BitVec 16
  | .u8 => BitVec 8
  | .i => Int
  | .s => List (BitVec 8)
  | .b => Bool
def Fk.v : (k : Fk) → k.T → Value
  | .u64, x => c64 x
  | .u32, x => c32 x
  | .u16, x => c16 x
  | .u8, x => c8 x
  | .i, x => .int .i64 x
  | .s, x => .string (txt x)
  | .b, x => .bool x
def Fk.sv : (k : Fk) → k.T → SV
  | .u64, x => .w64 x
  | .u32, x => .w32 x
  | .u16, x => .w16 x
  | .u8, x => .w8 x
  | .i, x => .i x
  | .s, x => .s x
  | .b, x => .b x
def Fk.un : (k : Fk) → SV → Option k.T
  | .u64, .w64 x => some x
  | .u32, .w32 x => some x
  | .u16, .w16 x => some x
  | .u8, .w8 x => some x
  | .i, .i x => some x
  | .s, .s x => some x
  | .b, .b x => some x
  | _, _ => none
def Fk.z : (k : Fk) → k.T
  | .u64 => (0 : BitVec 64)
  | .u32 => (0 : BitVec 32)
  | .u16 => (0 : BitVec 16)
  | .u8 => (0 : BitVec 8)
  | .i => (0 : Int)
  | .s => ([] : List (BitVec 8))
  | .b => false
/-- A record of such cells. -/
abbrev Rc : List Fk → Type
  | [] => Unit
  | k :: l => k.T × Rc l
def rvs : (fs : List Fk) → Rc fs → List Value
  | [], _ => []
  | k :: fs, r => k.v r.1 :: rvs fs r.2
def rcs : (fs : List Fk) → Rc fs → List SV
  | [], _ => []
  | k :: fs, r => k.sv r.1 :: rcs fs r.2
def unrc : (fs : List Fk) → List SV → Option (Rc fs)
  | [], [] => some ()
  | k :: fs, x :: l => match k.un x, unrc fs l with
    | some a, some r => some (a, r)
    | _, _ => none
  | _, _ => none
def rz : (fs : List Fk) → Rc fs
  | [] => ()
  | k :: fs => (k.z, rz fs)
theorem rcs_val (β : Nat → Nat) : ∀ (fs : List Fk) (r : Rc fs), vals β (rcs fs r) = rvs fs r
  | [], _ => rfl
  | k :: fs, r => by
    show val β (k.sv r.1) :: vals β (rcs fs r.2) = k.v r.1 :: rvs fs r.2
    rw [rcs_val β fs r.2]
    cases k <;> rfl
theorem rvs_len : ∀ (fs : List Fk) (r : Rc fs), (rvs fs r).length = fs.length
  | [], _ => rfl
  | k :: fs, r => congrArg (· + 1) (rvs_len fs r.2)
theorem rcs_len : ∀ (fs : List Fk) (r : Rc fs), (rcs fs r).length = fs.length
  | [], _ => rfl
  | k :: fs, r => congrArg (· + 1) (rcs_len fs r.2)
theorem un_sv {k : Fk} {x : SV} {a : k.T} (h : k.un x = some a) : x = k.sv a := by
  cases k <;> cases x <;> first | (cases h; rfl) | cases h
theorem unrc_ok : ∀ {fs : List Fk} {l : List SV} {r : Rc fs}, unrc fs l = some r → l = rcs fs r
  | [], [], _, _ => rfl
  | [], _ :: _, _, h => by cases h
  | _ :: _, [], _, h => by cases h
  | k :: fs, x :: l, r, h => by
    unfold unrc at h
    split at h
    · rename_i a b ha hb
      cases h
      show x :: l = k.sv a :: rcs fs b
      rw [un_sv ha, ← unrc_ok hb]
    · cases h
theorem rvs_one : ∀ (fs : List Fk) (r : Rc fs), ∀ v ∈ rvs fs r, v.oneCell' = true
  | [], _, v, h => by cases h
  | k :: fs, r, v, h => by
    rcases List.mem_cons.1 h with rfl | h
    · cases k <;> rfl
    · exact rvs_one fs r.2 v h
theorem rcs_wf (n : Nat) : ∀ (fs : List Fk) (r : Rc fs), SV.wf.wfs n (rcs fs r) = true
  | [], _ => rfl
  | k :: fs, r => by
    show (SV.wf n (k.sv r.1) && SV.wf.wfs n (rcs fs r.2)) = true
    rw [rcs_wf n fs r.2, Bool.and_true]
    cases k <;> rfl
/-- The cells of rows of records. -/
def rows (fs : List Fk) (l : List (Rc fs)) : List Value := (l.map (rvs fs)).flatten
theorem rows_len (fs : List Fk) (l : List (Rc fs)) : (rows fs l).length = l.length * fs.length := by
  induction l with
  | nil => simp [rows]
  | cons r l ih =>
    have : rows fs (r :: l) = rvs fs r ++ rows fs l := rfl
    rw [this, List.length_append, ih, rvs_len, List.length_cons, Nat.succ_mul]; omega
theorem rows_append (fs : List Fk) (l m : List (Rc fs)) : rows fs (l ++ m) = rows fs l ++ rows fs m := by simp [rows]
theorem rows_cons (fs : List Fk) (r : Rc fs) (l : List (Rc fs)) : rows fs (r :: l) = rvs fs r ++ rows fs l := rfl
theorem rows_drop (fs : List Fk) : ∀ (l : List (Rc fs)) (a : Nat), rows fs (l.drop a) = (rows fs l).drop (a * fs.length)
  | [], a => by simp [rows]
  | r :: l, 0 => by simp
  | r :: l, a + 1 => by
    have e : List.drop (a * fs.length + fs.length) (rvs fs r) = [] := List.drop_eq_nil_of_le (by rw [rvs_len]; omega)
    rw [List.drop_succ_cons, rows_drop fs l a, rows_cons, Nat.succ_mul, List.drop_append, rvs_len, Nat.add_sub_cancel, e, List.nil_append]
theorem rows_take (fs : List Fk) : ∀ (l : List (Rc fs)) (a : Nat), rows fs (l.take a) = (rows fs l).take (a * fs.length)
  | [], a => by simp [rows]
  | r :: l, 0 => by simp [rows]
  | r :: l, a + 1 => by
    have e : List.take (a * fs.length + fs.length) (rvs fs r) = rvs fs r := List.take_of_length_le (by rw [rvs_len]; omega)
    rw [List.take_succ_cons, rows_cons, rows_take fs l a, rows_cons, Nat.succ_mul, List.take_append, rvs_len, Nat.add_sub_cancel, e]
theorem rows_one (fs : List Fk) (l : List (Rc fs)) : ∀ v ∈ rows fs l, v.oneCell' = true := fun v hv => by
  obtain ⟨m, hm, hv⟩ := List.mem_flatten.1 hv
  obtain ⟨r, -, rfl⟩ := List.mem_map.1 hm
  exact rvs_one fs r v hv
/-- One record of a row. -/
theorem rows_get (fs : List Fk) (l : List (Rc fs)) (a : Nat) (h : a < l.length) : ((rows fs l).drop (a * fs.length)).take fs.length = rvs fs (l.getD a (rz fs)) := by
  rw [← rows_drop, List.drop_eq_getElem_cons h, rows_cons, List.take_append_of_le_length (by rw [rvs_len]; omega), List.take_of_length_le (by rw [rvs_len]; omega)]
  rw [List.getD_eq_getElem?_getD, List.getElem?_eq_getElem h]; rfl
/-- What a block of a resource is: cells, or a map, or what goes through one. -/
inductive RO where
  | cells (cs : List Value) (sh : Option (Nat × Nat))
  | map (es : Array MapEntry) (clk : Nat)
  | iter (m since : Nat) (seen : List Nat) (stepped : Nat)
end Go.Proofs.Ytkjfecdpakhggaa
namespace Go.Proofs.Ytkjfecdpakhggaa
open Go.RowKit
set_option linter.unusedVariables false
set_option linter.unusedSimpArgs false

/-- What the map has: a number, its byte, when it came. -/
structure EntE where
  k : BitVec 32
  x : BitVec 8
  born : Nat
def EntE.entry (e : EntE) : MapEntry := { key := c32 e.k, val := c8 e.x, born := e.born }
/-- The program's queue: its map's block, what stands in its blocks; nl: nothing is ready yet. -/
structure QuP where
  mp : Nat
  clk : Nat
  es : List EntE
  z : Int
  a : BitVec 32
  en : BitVec 32
  tl : Bool
  ed : Bool
  nl : Bool
  bb : Nat
  off : Nat
  n : Nat
  cap : Nat
  l : List (BitVec 8)
def QuP.sl (p : QuP) : Value := bif p.nl then .slice none 0 0 else .slice (some ⟨p.bb, p.off, none⟩) p.n p.cap
def QuP.objs (p : QuP) (rb : Nat) : List (Nat × RO) := (rb, .cells [.int .i64 p.z, c32 p.a, p.sl, .map (some p.mp), c32 p.en, .bool p.tl, .bool p.ed] none) :: (p.mp, .map (p.es.map EntE.entry).toArray p.clk) :: bif p.nl then [] else [(p.bb, .cells (p.l.map c8) none)]
/-- The document's queue. -/
structure QuD where
  ib : Nat
  bb : Nat
  a : BitVec 32
  z : Int
  e : Int
  he : Bool
  ed : Bool
  rd : List (BitVec 8)
  n : Nat
  l : List (Rc [.b])
  m : List (BitVec 8)
def QuD.objs (d : QuD) (rb : Nat) : List (Nat × RO) := [(rb, .cells [c32 d.a, .int .i64 d.z, .string (txt d.rd), .slice (some ⟨d.ib, 0, none⟩) d.n d.n, .slice (some ⟨d.bb, 0, none⟩) d.n d.n, .bool d.he, .int .i64 d.e, .bool d.ed] none), (d.ib, .cells (rows [.b] d.l) none), (d.bb, .cells (d.m.map c8) none)]
inductive QK where
  | no
  | pr (p : QuP)
  | dc (d : QuD)
def QK.objs (rb : Nat) : QK → List (Nat × RO)
  | .no => []
  | .pr p => p.objs rb
  | .dc d => d.objs rb
/-- The map's block, its clock, what it has in the order in which it came. Or a block that goes through a map. Or a queue. -/
structure St where
  mb : Nat
  clk : Nat
  es : List EntE
  was : Bool
  it : Option (Nat × Nat × List Nat)
  q : QK
def St.len (s : St) : Nat := s.es.length
def St.its (s : St) : List (Nat × RO) := match s.it with
  | some (m, c, seen) => [(s.mb, .iter m c seen c)]
  | none => s.q.objs s.mb
def St.objs (s : St) : List (Nat × RO) := bif s.was then s.its else [(s.mb, .map (s.es.map EntE.entry).toArray s.clk)]
abbrev stP (rb : Nat) (p : QuP) : St := ⟨rb, 0, [], true, none, .pr p⟩
abbrev stD (rb : Nat) (d : QuD) : St := ⟨rb, 0, [], true, none, .dc d⟩
/-- What may be read of a resource by its cells. -/
def St.ld (s : St) (off : Nat) : Option SV := match s with
  | ⟨_, _, _, true, none, .dc d⟩ => match off with
    | 0 => some (.w32 d.a)
    | 1 => some (.i d.z)
    | 2 => some (.s d.rd)
    | 5 => some (.b d.he)
    | 6 => some (.i d.e)
    | 7 => some (.b d.ed)
    | _ => none
  | _ => none
end Go.Proofs.Ytkjfecdpakhggaa
namespace Go.Proofs.Ytkjfecdpakhggaa
open Go.RowKit
set_option linter.unusedVariables false
set_option linter.unusedSimpArgs false

inductive Cont where
  | gone
  | row (l : List SV)
  | a64 (l : List (BitVec 64))
  | a32 (l : List (BitVec 32))
  | a8 (l : List (BitVec 8))
  | ints (l : List Int)
  | strs (pre : List Value) (l : List (List (BitVec 8)))
  | tr (t : Nat) (l : List SV)
  | t8 (t : Nat) (l : List (BitVec 8))
  | recs (ty : Option Nat) (fs : List Fk) (pre : List Value) (l : List (Rc fs))
  | nrec (b : Bool) (ty : Nat) (fs : List Fk) (l : List (Rc fs))
  | res (s : St)
def Cont.cells (β : Nat → Nat) : Cont → List Value
  | .gone => []
  | .row l => vals β l
  | .a64 l => l.map c64
  | .a32 l => l.map c32
  | .a8 l => l.map c8
  | .ints l => l.map (.int .i64 ·)
  | .strs pre l => pre ++ l.map fun x => .string (txt x)
  | .tr _ l => vals β l
  | .t8 _ l => l.map c8
  | .recs _ fs pre l => pre ++ rows fs l
  | .nrec _ _ fs l => rows fs l
  | .res _ => []
/-- Of which type a block is, and how many cells it has, where that is told. -/
def Cont.shp : Cont → Option (Nat × Nat)
  | .tr t l => some (t, l.length)
  | .t8 t l => some (t, l.length)
  | .recs ty fs pre l => ty.map fun t => (t, pre.length + l.length * fs.length)
  | .nrec _ ty fs l => some (ty, l.length * fs.length)
  | _ => none
def Cont.wf (n : Nat) : Cont → Bool
  | .row l => SV.wf.wfs n l
  | .tr _ l => SV.wf.wfs n l
  | _ => true
def Cont.here : Cont → Bool
  | .gone => false
  | .nrec b _ _ _ => !b
  | _ => true
/-- Whether it is several blocks that are told of by their numbers. -/
def Cont.isRes : Cont → Bool
  | .res _ => true
  | _ => false
def Cont.fresh (c : Cont) : Bool := c.here && !c.isRes
theorem fresh_here {c : Cont} (h : c.fresh = true) : c.here = true := by simp only [Cont.fresh, Bool.and_eq_true] at h; exact h.1
theorem fresh_not {c : Cont} (h : c.fresh = true) : c.isRes = false := by simp only [Cont.fresh, Bool.and_eq_true, Bool.not_eq_true'] at h; exact h.2
structure Ent where
  rw : Bool
  c : Cont
abbrev Mm := List Ent
end Go.Proofs.Ytkjfecdpakhggaa
