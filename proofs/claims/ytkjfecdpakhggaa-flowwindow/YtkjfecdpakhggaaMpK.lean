/-
  flow: a map of bytes by numbers, as the model runs it. No statement is proved here.
-/
import Derived.Test.YtkjfecdpakhggaaVcV
import Derived.MapKept
namespace Go.Proofs.Ytkjfecdpakhggaa
open Go.RowKit Go.MapKept
set_option linter.unusedVariables false
set_option linter.unusedSimpArgs false
set_option maxRecDepth 100000

/-- The map's type, its keys', its values'. -/
abbrev tyM : Nat := 53
abbrev tyK : Nat := 22
abbrev tyV : Nat := 5
theorem und_M : Try.prog.underlying tyM = some (.map tyK tyV) := by kernel_rfl
theorem und_K : Try.prog.underlying tyK = some (.int .u32) := by kernel_rfl
theorem zero_V (w : World) : (zeroValue tyV).run Try.prog w = .ok (c8 0) w := by kernel_rfl
theorem check_k (n : BitVec 32) (e : Bool) (w : World) : (Instr.checkKey e 10000 tyK (c32 n)).run Try.prog w = .ok () w := by kernel_rfl
def isK (n : BitVec 32) (e : EntE) : Bool := n == e.k
theorem int_eq (a b : BitVec 32) : (((a.toNat : Nat) : Int) == ((b.toNat : Nat) : Int)) = (a == b) := by
  rw [Bool.eq_iff_iff]
  simp only [beq_iff_eq]
  constructor
  · intro h; exact BitVec.eq_of_toNat_eq (by omega)
  · rintro rfl; rfl
theorem find_es (n : BitVec 32) : ∀ (es : List EntE) (i : Nat), Instr.findNow (.int .u32) (c32 n) (es.map EntE.entry) i = some ((es.findIdx? (isK n)).bind fun j => es[j]?.map fun e => (i + j, c8 e.x))
  | [], i => by simp [Instr.findNow]
  | e :: es, i => by
    have h1 : Instr.sameNow (.int .u32) (c32 n) e.entry.key = some (isK n e) := by
      show (if IntKind.u32 = IntKind.u32 then some (((n.toNat : Nat) : Int) == ((e.k.toNat : Nat) : Int)) else none) = _
      rw [if_pos rfl, int_eq]; rfl
    rw [List.map_cons, Instr.findNow, h1, List.findIdx?_cons]
    cases hd : isK n e
    · simp only [Bool.false_eq_true, if_false]
      rw [find_es n es (i + 1)]
      congr 1
      cases es.findIdx? (isK n) with
      | none => rfl
      | some j => simp [Nat.add_assoc, Nat.add_comm 1 j]
    · simp [EntE.entry]
theorem key_es (n : BitVec 32) (w : World) (es : List EntE) : (Instr.findKey tyK (c32 n) (es.map EntE.entry)).run Try.prog w = .ok ((es.findIdx? (isK n)).bind fun j => es[j]?.map fun e => (j, c8 e.x)) w := by
  have h := find_es n es 0
  simp only [Nat.zero_add] at h
  unfold Instr.findKey
  simp only [Sem.run_bind, run_underlying und_K, Result.andThen_ok, h, Sem.run_pure]
/-- The byte of that number. -/
def St.get (s : St) (n : BitVec 32) : Option (BitVec 8) := (s.es.find? (isK n)).map (·.x)
theorem get_idx (s : St) (n : BitVec 32) : ((s.es.findIdx? (isK n)).bind fun j => s.es[j]?.map fun e => (j, c8 e.x)).map (·.2) = (s.get n).map c8 := by
  unfold St.get
  induction s.es with
  | nil => rfl
  | cons e es ih =>
    rw [List.findIdx?_cons, List.find?_cons]
    cases isK n e
    · simp only [Bool.false_eq_true, if_false]
      rw [← ih]
      cases es.findIdx? (isK n) with
      | none => rfl
      | some j => simp [Option.map_map, Function.comp_def]
    · rfl
def bOf (o : Option (BitVec 8)) : BitVec 8 := o.getD 0
theorem run_look (s : St) (n : BitVec 32) (c : Bool) {b : Nat} {w : World} (h : w.heap[b]? = some (.map (s.es.map EntE.entry).toArray s.clk)) : (Instr.lookup tyM (.map (some b)) (c32 n) c).run Try.prog w = .ok (if c = true then .tuple #[c8 (bOf (s.get n)), .bool (s.get n).isSome] else c8 (bOf (s.get n))) w := by
  have hi := get_idx s n
  unfold Instr.lookup
  simp only [Sem.run_bind, run_underlying und_M, Result.andThen_ok, MapKept.run_getObj_map h, Sem.run_pure, check_k, key_es]
  cases hg : ((s.es.findIdx? (isK n)).bind fun j => s.es[j]?.map fun e => (j, c8 e.x)) with
  | none =>
    rw [hg] at hi
    cases hq : s.get n with
    | some e => rw [hq] at hi; cases hi
    | none =>
      have h0 : c8 0#8 = Value.int .u8 0 := rfl
      cases c <;> simp [zero_V, bOf, h0]
  | some p =>
    rw [hg] at hi
    cases hq : s.get n with
    | none => rw [hq] at hi; cases hi
    | some e =>
      rw [hq] at hi
      simp only [Option.map_some, Option.some.injEq] at hi
      cases c <;> simp [hi, bOf]
theorem map_erase {α β : Type} (f : α → β) : ∀ (l : List α) (i : Nat), (l.map f).eraseIdx i = (l.eraseIdx i).map f
  | [], i => by simp
  | x :: l, 0 => rfl
  | x :: l, i + 1 => by simp [map_erase f l i]
def St.del (s : St) (n : BitVec 32) : St := { s with es := s.es.eraseP (isK n) }
theorem run_del (s : St) (n : BitVec 32) {b : Nat} {w : World} (h : w.heap[b]? = some (.map (s.es.map EntE.entry).toArray s.clk)) (ty : Nat) : (Builtin.delete_ #[tyM, tyK] ty #[.map (some b), c32 n]).run Try.prog w = .ok (.tuple #[]) { w with heap := w.heap.setIfInBounds b (.map ((s.del n).es.map EntE.entry).toArray s.clk) } := by
  unfold Builtin.delete_
  simp only [List.getElem?_toArray, List.getElem?_cons_zero, List.getElem?_cons_succ, Sem.run_bind, run_underlying und_M, Result.andThen_ok, MapKept.run_getObj_map h, Sem.run_pure, check_k, key_es]
  have he : (s.del n).es = match s.es.findIdx? (isK n) with
    | none => s.es
    | some i => s.es.eraseIdx i := by
    show s.es.eraseP _ = _
    rw [List.eraseP_eq_eraseIdx]
    cases s.es.findIdx? (isK n) <;> rfl
  cases hf : s.es.findIdx? (isK n) with
  | none =>
    rw [hf] at he
    simp only [Option.bind_none, Sem.run_bind, MapKept.run_setObj_map _ h, Result.andThen_ok, Sem.run_pure]
    rw [he]
  | some i =>
    rw [hf] at he
    obtain ⟨h1, -⟩ := List.findIdx?_eq_some_iff_getElem.1 hf
    have e1 : ((s.es.map EntE.entry).toArray.eraseIdxIfInBounds i) = ((s.del n).es.map EntE.entry).toArray := by
      rw [he]
      simp [map_erase]
    simp only [Option.bind_some, List.getElem?_eq_getElem h1, Option.map_some, Sem.run_bind, MapKept.run_setObj_map _ h, Result.andThen_ok, Sem.run_pure]
    rw [e1]
def St.put (s : St) (n : BitVec 32) (x : BitVec 8) : St := match s.es.findIdx? (isK n) with
  | some i => { s with es := s.es.modify i fun e => { e with x := x } }
  | none => { s with es := s.es ++ [⟨n, x, s.clk⟩], clk := s.clk + 1 }
theorem stays (n : BitVec 32) (w : World) : (Instr.keyThatStays (c32 n) (c32 n)).run Try.prog w = .ok (c32 n) w := by
  have : Instr.sameBits 10000 (c32 n) (c32 n) = true := by
    show (IntKind.u32 == IntKind.u32 && (((n.toNat : Nat) : Int) == ((n.toNat : Nat) : Int))) = true
    simp
  unfold Instr.keyThatStays
  rw [if_pos this]; rfl
theorem mod_es (n : BitVec 32) (x : BitVec 8) : ∀ (l : List EntE) (i : Nat) (h : i < l.length), l[i].k = n → (l.map EntE.entry).modify i (fun e => { e with key := c32 n, val := c8 x }) = (l.modify i fun e => { e with x := x }).map EntE.entry
  | [], i, h, _ => absurd h (by simp)
  | e :: l, 0, h, hk => by
    have hk : e.k = n := hk
    simp [EntE.entry, hk]
  | e :: l, i + 1, h, hk => by
    have := mod_es n x l i (by simpa using h) (by simpa using hk)
    simp [this]
theorem run_put (s : St) (n : BitVec 32) (x : BitVec 8) {b : Nat} {w : World} (h : w.heap[b]? = some (.map (s.es.map EntE.entry).toArray s.clk)) : (Instr.mapUpdate tyM (.map (some b)) (c32 n) (c8 x)).run Try.prog w = .ok () { w with heap := w.heap.setIfInBounds b (.map ((s.put n x).es.map EntE.entry).toArray (s.put n x).clk) } := by
  unfold Instr.mapUpdate
  simp only [Sem.run_bind, run_underlying und_M, Result.andThen_ok, MapKept.run_getObj_map h, Sem.run_pure, check_k, key_es]
  unfold St.put
  cases hf : s.es.findIdx? (isK n) with
  | none =>
    simp only [Option.bind_none, MapKept.run_setObj_map _ h]
    simp [EntE.entry]
  | some i =>
    obtain ⟨h1, h2, -⟩ := List.findIdx?_eq_some_iff_getElem.1 hf
    have hk : n = s.es[i].k := by simpa [isK] using h2
    simp only [Option.bind_some, List.getElem?_eq_getElem h1, Option.map_some]
    have e1 : (((s.es.map EntE.entry).toArray[i]?).map (·.key)).getD (c32 n) = c32 n := by
      simp [h1, EntE.entry, ← hk]
    simp only [e1, Sem.run_bind, stays, Result.andThen_ok, MapKept.run_setObj_map _ h]
    have e2 : ((s.es.map EntE.entry).toArray.modify i fun e => { e with key := c32 n, val := c8 x }) = ((s.es.modify i fun e => { e with x := x }).map EntE.entry).toArray := by
      rw [List.modify_toArray, mod_es n x s.es i h1 hk.symm]
    rw [e2]
end Go.Proofs.Ytkjfecdpakhggaa
