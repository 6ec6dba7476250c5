/-
  flow: a map of bytes by numbers, as the model runs it. No statement is proved here.
-/
import Derived.Test.YtkjfecdpakhggaaVcV
import Derived.MapKept
namespace Go.Proofs.Ytkjfecdpakhggaa
open Go.RowKit Go.MapKept
set_option linter.unusedVariables false
set_option linter.unusedSimpArgs false
set_option maxRecDepth 100000

/-- The map's type, its keys', its values'. -/
abbrev tyM : Nat := 53
abbrev tyK : Nat := 22
abbrev tyV : Nat := 5
theorem und_M : Try.prog.underlying tyM = some (.map tyK tyV) := by kernel_rfl
theorem und_K : Try.prog.underlying tyK = some (.int .u32) := by kernel_rfl
theorem zero_V (w : World) : (zeroValue tyV).run Try.prog w = .ok (c8 0) w := by kernel_rfl
theorem check_k (n : BitVec 32) (e : Bool) (w : World) : (Instr.checkKey e 10000 tyK (c32 n)).run Try.prog w = .ok () w := by kernel_rfl
def isK (n : BitVec 32) (e : EntE) : Bool := n == e.k
theorem int_eq (a b : BitVec 32) : (((a.toNat : Nat) : Int) == ((b.toNat : Nat) : Int)) = (a == b) := by
  rw [Bool.eq_iff_iff]
  simp only [beq_iff_eq]
  constructor
  · intro h; exact BitVec.eq_of_toNat_eq (by omega)
  · rintro rfl; rfl
theorem find_es (n : BitVec 32) : ∀ (es : List EntE) (i : Nat), Instr.findNow (.int .u32) (c32 n) (es.map EntE.entry) i = some ((es.findIdx? (isK n)).bind fun j => es[j]?.map fun e => (i + j, c8 e.x))
  | [], i => by simp [Instr.findNow]
  | e :: es, i => by
    have h1 : Instr.sameNow (.int .u32) (c32 n) e.entry.key = some (isK n e) := by
      show (if IntKind.u32 = IntKind.u32 then some (((n.toNat : Nat) : Int) == ((e.k.toNat : Nat) : Int)) else none) = _
      rw [if_pos rfl, int_eq]; rfl
    rw [List.map_cons, Instr.findNow, h1, List.findIdx?_cons]
    cases hd : isK n e
    · simp only [Bool.false_eq_true, if_false]
      rw [find_es n es (i + 1)]
      congr 1
      cases es.findIdx? (isK n) with
      | none => rfl
      | some j => simp [Nat.add_assoc, Nat.add_comm 1 j]
    · simp [EntE.entry]
theorem key_es (n : BitVec 32) (w : World) (es : List EntE) : (Instr.findKey tyK (c32 n) (es.map EntE.entry)).run Try.prog w = .ok ((es.findIdx? (isK n)).bind fun j => es[j]?.map fun e => (j, c8 e.x)) w := by
  have h := find_es n es 0
  simp only [Nat.zero_add] at h
  unfold Instr.findKey
  simp only [Sem.run_bind, run_underlying und_K, Result.andThen_ok, h, Sem.run_pure]
/-- The byte of that number. -/
def St.get (s : St) (n : BitVec 32) : Option (BitVec 8) := (s.es.find? (isK n)).map (·.x)
theorem get_idx (s : St) (n : BitVec 32) : ((s.es.findIdx? (isK n)).bind fun j => s.es[j]?.map fun e => (j, c8 e.x)).map (·.2) = (s.get n).map c8 := by
  unfold St.get
  induction s.es with
  | nil => rfl
  | cons e es ih =>
    rw [List.findIdx?_cons, List.find?_cons]
    cases isK n e
    · simp only [Bool.false_eq_true, if_false]
      rw [← ih]
      cases es.findIdx? (isK n) with
      | none => rfl
      | some j => simp [Option.map_map, Function.comp_def]
    · rfl
def bOf (o : Option (BitVec 8)) : BitVec 8 := o.getD 0
theorem run_look (s : St) (n : BitVec 32) (c : Bool) {b : Nat} {w : World} (h : w.heap[b]? = some (.map (s.es.map EntE.entry).toArray s.clk)) : (Instr.lookup tyM (.map (some b)) (c32 n) c).run Try.prog w = .ok (if c = true then .tuple #[c8 (bOf (s.get n)), .bool (s.get n).isSome] else c8 (bOf (s.get n))) w := by
  have hi := get_idx s n
  unfold Instr.lookup
  simp only [Sem.run_bind, run_underlying und_M, Result.andThen_ok, MapKept.run_getObj_map h, Sem.run_pure, check_k, key_es]
  cases hg : ((s.es.findIdx? (isK n)).bind fun j => s.es[j]?.map fun e => (j, c8 e.x)) with
  | none =>
    rw [hg] at hi
    cases hq : s.get n with
    | some e => rw [hq] at hi; cases hi
    | none =>
      have h0 : c8 0#8 = Value.int .u8 0 := rfl
      cases c <;> simp [zero_V, bOf, h0]
  | some p =>
    rw [hg] at hi
    cases hq : s.get n with
    | none => rw [hq] at hi; cases hi
    | some e =>
      rw [hq] at hi
      simp only [Option.map_some, Option.some.injEq] at hi
      cases c <;> simp [hi, bOf]
theorem map_erase {α β : Type} (f : α → β) : ∀ (l : List α) (i : Nat), (l.map f).eraseIdx i = (l.eraseIdx i).map f
  | [], i => by simp
  | x :: l, 0 => rfl
  | x :: l, i + 1 => by simp [map_erase f l i]
def St.del (s : St) (n : BitVec 32) : St := { s with es := s.es.eraseP (isK n) }
theorem run_del (s : St) (n : BitVec 32) {b : Nat} {w : World} (h : w.heap[b]? = some (.map (s.es.map EntE.entry).toArray s.clk)) (ty : Nat) : (Builtin.delete_ #[tyM, tyK] ty #[.map (some b), c32 n]).run Try.prog w = .ok (.tuple #[]) { w with heap := w.heap.setIfInBounds b (.map ((s.del n).es.map EntE.entry).toArray s.clk) } := by
  unfold Builtin.delete_
  simp only [List.getElem?_toArray, List.getElem?_cons_zero, List.getElem?_cons_succ, Sem.run_bind, run_underlying und_M, Result.andThen_ok, MapKept.run_getObj_map h, Sem.run_pure, check_k, key_es]
  have he : (s.del n).es = match s.es.findIdx? (isK n) with
    | none => s.es
    | some i => s.es.eraseIdx i := by
    show s.es.eraseP _ = _
    rw [List.eraseP_eq_eraseIdx]
    cases s.es.findIdx? (isK n) <;> rfl
  cases hf : s.es.findIdx? (isK n) with
  | none =>
    rw [hf] at he
    simp only [Option.bind_none, Sem.run_bind, MapKept.run_setObj_map _ h, Result.andThen_ok, Sem.run_pure]
    rw [he]
  | some i =>
    rw [hf] at he
    obtain ⟨h1, -⟩ := List.findIdx?_eq_some_iff_getElem.1 hf
    have e1 : ((s.es.map EntE.entry).toArray.eraseIdxIfInBounds i) = ((s.del n).es.map EntE.entry).toArray := by
      rw [he]
      simp [map_erase]
    simp only [Option.bind_some, List.getElem?_eq_getElem h1, Option.map_some, Sem.run_bind, MapKept.run_setObj_map _ h, Result.andThen_ok, Sem.run_pure]
    rw [e1]
def St.put (s : St) (n : BitVec 32) (x : BitVec 8) : St := match s.es.findIdx? (isK n) with
  | some i => { s with es := s.es.modify i fun e => { e with x := x } }
  | none => { s with es := s.es ++ [⟨n, x, s.clk⟩], clk := s.clk + 1 }
theorem stays (n : BitVec 32) (w : World) : (Instr.keyThatStays (c32 n) (c32 n)).run Try.prog w = .ok (c32 n) w := by
  have : Instr.sameBits 10000 (c32 n) (c32 n) = true := by
    show (IntKind.u32 == IntKind.u32 && (((n.toNat : Nat) : Int) == ((n.toNat : Nat) : Int))) = true
    simp
  unfold Instr.keyThatStays
  rw [if_pos this]; rfl
theorem mod_es (n : BitVec 32) (x : BitVec 8) : ∀ (l : List EntE) (i : Nat) (h : i < l.length), l[i].k = n → (l.map EntE.entry).modify i (fun e => { e with key := c32 n, val := c8 x }) = (l.modify i fun e => { e with x := x }).map EntE.entry
  | [], i, h, _ => absurd h (by simp)
  | e :: l, 0, h, hk => by
    have hk : e.k = n := hk
    simp [EntE.entry, hk]
  | e :: l, i + 1, h, hk => by
    have := mod_es n x l i (by simpa using h) (by simpa using hk)
    simp [this]
theorem run_put (s : St) (n : BitVec 32) (x : BitVec 8) {b : Nat} {w : World} (h : w.heap[b]? = some (.map (s.es.map EntE.entry).toArray s.clk)) : (Instr.mapUpdate tyM (.map (some b)) (c32 n) (c8 x)).run Try.prog w = .ok () { w with heap := w.heap.setIfInBounds b (.map ((s.put n x).es.map EntE.entry).toArray (s.put n x).clk) } := by
  unfold Instr.mapUpdate
  simp only [Sem.run_bind, run_underlying und_M, Result.andThen_ok, MapKept.run_getObj_map h, Sem.run_pure, check_k, key_es]
  unfold St.put
  cases hf : s.es.findIdx? (isK n) with
  | none =>
    simp only [Option.bind_none, MapKept.run_setObj_map _ h]
    simp [EntE.entry]
  | some i =>
    obtain ⟨h1, h2, -⟩ := List.findIdx?_eq_some_iff_getElem.1 hf
    have hk : n = s.es[i].k := by simpa [isK] using h2
    simp only [Option.bind_some, List.getElem?_eq_getElem h1, Option.map_some]
    have e1 : (((s.es.map EntE.entry).toArray[i]?).map (·.key)).getD (c32 n) = c32 n := by
      simp [h1, EntE.entry, ← hk]
    simp only [e1, Sem.run_bind, stays, Result.andThen_ok, MapKept.run_setObj_map _ h]
    have e2 : ((s.es.map EntE.entry).toArray.modify i fun e => { e with key := c32 n, val := c8 x }) = ((s.es.modify i fun e => { e with x := x }).map EntE.entry).toArray := by
      rw [List.modify_toArray, mod_es n x s.es i h1 hk.symm]
    rw [e2]
end Go.Proofs.Ytkjfecdpakhggaa
namespace Go.Proofs.Ytkjfecdpakhggaa
open Go.RowKit
set_option linter.unusedVariables false
set_option linter.unusedSimpArgs false
set_option maxRecDepth 100000

theorem res_objs {s : St} (h : s.was = false) : s.objs = [(s.mb, .map (s.es.map EntE.entry).toArray s.clk)] := by unfold St.objs; rw [h]; rfl
theorem res_map {s : St} {w : World} (h : RIn s.objs w) (hw : s.was = false) : w.heap[s.mb]? = some (.map (s.es.map EntE.entry).toArray s.clk) := by
  rw [res_objs hw] at h
  exact h.all _ (List.mem_cons_self ..)
theorem fp_block (w : World) (b : Nat) (o : Obj) : Fp (fun i => i = b) w { w with heap := w.heap.setIfInBounds b o } := ⟨rfl, rfl, rfl, by simp, fun k hk hne => by
  show (w.heap.setIfInBounds b o)[k]? = _
  rw [Array.getElem?_setIfInBounds_ne (Ne.symm hne)]⟩
section
variable {nG : Mm} {β : Nat → Nat} {M : Mm} {w : World}
theorem Rel.at_res (h : Rel nG β M w) {k : Nat} {r : Bool} {s : St} (hk : M[k]? = some ⟨r, .res s⟩) : β k = s.mb ∧ RIn s.objs w := h.all k _ hk rfl
theorem Rel.turn (h : Rel nG β M w) {k : Nat} {s s' : St} (hk : M[k]? = some ⟨true, .res s⟩) (hw : s.was = false) (hw' : s'.was = false) (hmb : s'.mb = s.mb) :
    Rel nG β (M.set k ⟨true, .res s'⟩) { w with heap := w.heap.setIfInBounds s.mb (.map (s'.es.map EntE.entry).toArray s'.clk) } ∧ Ext β M w β (M.set k ⟨true, .res s'⟩) { w with heap := w.heap.setIfInBounds s.mb (.map (s'.es.map EntE.entry).toArray s'.clk) } := by
  obtain ⟨hb, hR⟩ := h.at_res hk
  have hmap := res_map hR hw
  have hlt : s.mb < w.heap.size := by
    rcases Nat.lt_or_ge s.mb w.heap.size with q | q
    · exact q
    · rw [Array.getElem?_eq_none q] at hmap; cases hmap
  have hs2 : s'.objs.map (·.1) = s.objs.map (·.1) := by
    rw [res_objs hw, res_objs hw', List.map_cons, List.map_cons, hmb]
  have hF := fp_block w s.mb (.map (s'.es.map EntE.entry).toArray s'.clk)
  refine h.setR (c' := .res s') hk rfl (hF.mono fun i _ hi => ?_) rfl (fun i hi => .inl (by
    have hi : i ∈ s'.objs.map (·.1) := hi
    rw [hs2] at hi; exact hi)) (fun _ => ?_)
  · show i ∈ s.objs.map (·.1)
    rw [res_objs hw, hi]; exact List.mem_cons_self ..
  · refine ⟨hb.trans hmb.symm, fun p hp => ?_, by rw [hs2]; exact hR.dis⟩
    rw [res_objs hw', List.mem_singleton] at hp
    subst hp
    show (w.heap.setIfInBounds s.mb _)[s'.mb]? = _
    rw [hmb, Array.getElem?_setIfInBounds_self_of_lt hlt]
end
theorem put_was (s : St) (n : BitVec 32) (x : BitVec 8) : (s.put n x).was = s.was := by unfold St.put; split <;> rfl
theorem put_mb (s : St) (n : BitVec 32) (x : BitVec 8) : (s.put n x).mb = s.mb := by unfold St.put; split <;> rfl
def hLook (t : Nat) (c : Bool) (xs : List SV) (M : Mm) (K : SV → Mm → Prop) : Prop := match xs with
  | [.mp k, .w32 n] => match M[k]? with
    | some ⟨_, .res s⟩ => vsome (Nat.beq t tyM && !s.was) (bif c then K (.tup [.w8 (bOf (s.get n)), .b (s.get n).isSome]) M else K (.w8 (bOf (s.get n))) M)
    | _ => False
  | _ => False
def hPut (t : Nat) (xs : List SV) (M : Mm) (K : SV → Mm → Prop) : Prop := match xs with
  | [.mp k, .w32 n, .w8 x] => match M[k]? with
    | some ⟨true, .res s⟩ => vsome (Nat.beq t tyM && !s.was) (setK M k ⟨true, .res (s.put n x)⟩ fun M2 => K .any M2)
    | _ => False
  | _ => False
def hMake (t : Nat) (xs : List SV) (M : Mm) (K : SV → Mm → Prop) : Prop := match xs with
  | [] => vsome (Nat.beq t tyM) (∀ x, snocK M ⟨true, .res ⟨x, 0, [], false, none, .no⟩⟩ fun M2 => K (.mp M.length) M2)
  | _ => False
def hDel (ts : List Nat) (xs : List SV) (M : Mm) (K : SV → Mm → Prop) : Prop := match ts, xs with
  | [t, t2], [.mp k, .w32 n] => match M[k]? with
    | some ⟨true, .res s⟩ => vsome (Nat.beq t tyM && (Nat.beq t2 tyK && !s.was)) (setK M k ⟨true, .res (s.del n)⟩ fun M2 => K (.tup []) M2)
    | _ => False
  | _, _ => False
def hMp : HT := fun op xs M K => match op with
  | .lookup t _ _ c => hLook t c xs M K
  | .mapUpdate t _ _ _ => hPut t xs M K
  | .makeMap t none => hMake t xs M K
  | .call c => match c.callee with
    | .builtin .delete => hDel c.argTypes.toList xs M K
    | _ => False
  | _ => False
theorem hMp_ok (nG : Mm) : HTok Try.prog nG hMp := by
  intro o xs M K h ρ β w hR ho hx
  unfold hMp at h
  split at h
  · rename_i t x ix c hop
    unfold hLook at h
    split at h
    · rename_i k n
      split at h
      · rename_i r s hk
        obtain ⟨hc, h1⟩ := vsome_iff.1 h
        simp only [Bool.and_eq_true, Bool.not_eq_true'] at hc
        obtain ⟨ht, hw⟩ := hc
        obtain rfl := Nat.eq_of_beq_eq_true ht
        obtain ⟨hb, hRi⟩ := hR.at_res hk
        have hmap := res_map hRi hw
        rw [hop] at ho
        have ho : [ρ x, ρ ix] = [.map (some (β k)), c32 n] := ho
        simp only [List.cons.injEq, and_true] at ho
        obtain ⟨e1, e2⟩ := ho
        have hrun : (execOp ρ o).run Try.prog w = .ok (.value (if c = true then .tuple #[c8 (bOf (s.get n)), .bool (s.get n).isSome] else c8 (bOf (s.get n)))) w := by
          have h0 := run_look s n c hmap
          unfold execOp
          simp only [hop]
          rw [e1, e2, hb]
          exact run_v h0
        refine .inl ⟨_, _, hrun, ?_⟩
        cases c
        · exact ⟨β, M, .w8 (bOf (s.get n)), Ext.refl _ _ _, hR, .inr ⟨rfl, rfl⟩, h1⟩
        · exact ⟨β, M, .tup [.w8 (bOf (s.get n)), .b (s.get n).isSome], Ext.refl _ _ _, hR, .inr ⟨rfl, rfl⟩, h1⟩
      · exact h.elim
    · exact h.elim
  · rename_i t m kk x hop
    unfold hPut at h
    split at h
    · rename_i k n z
      split at h
      · rename_i s hk
        obtain ⟨hc, h1⟩ := vsome_iff.1 h
        simp only [Bool.and_eq_true, Bool.not_eq_true'] at hc
        obtain ⟨ht, hw⟩ := hc
        obtain rfl := Nat.eq_of_beq_eq_true ht
        obtain ⟨hb, hRi⟩ := hR.at_res hk
        have hmap := res_map hRi hw
        rw [hop] at ho
        have ho : [ρ m, ρ kk, ρ x] = [.map (some (β k)), c32 n, c8 z] := ho
        simp only [List.cons.injEq, and_true] at ho
        obtain ⟨e1, e2, e3⟩ := ho
        rw [setK_eq] at h1
        obtain ⟨g1, g2⟩ := hR.turn (s' := s.put n z) hk hw (by rw [put_was]; exact hw) (put_mb s n z)
        have hrun := run_put s n z hmap
        refine .inr (.inl ⟨_, ?_, _, _, .any, g2, g1, .inl rfl, h1⟩)
        unfold execOp
        simp only [hop]
        rw [e1, e2, e3, hb]
        simp [hrun]
      · exact h.elim
    · exact h.elim
  · rename_i t hop
    unfold hMake at h
    split at h
    · obtain ⟨ht, h1⟩ := vsome_iff.1 h
      obtain rfl := Nat.eq_of_beq_eq_true ht
      have h2 := h1 w.heap.size
      rw [snocK_eq] at h2
      have hF := Fp.alloc w (.map #[] 0)
      have hnew : (w.alloc (.map #[] 0)).heap[w.heap.size]? = some (.map #[] 0) := by
        show (w.heap.push (.map #[] 0))[w.heap.size]? = _
        simp
      obtain ⟨g1, g2⟩ := hR.moreR (b := w.heap.size) (x := .res ⟨w.heap.size, 0, [], false, none, .no⟩) hF (fun i hi => by
        have hi : i ∈ [w.heap.size] := hi
        rw [List.mem_singleton.1 hi]; exact Nat.le_refl _) rfl ⟨rfl, fun p hp => by
          have hp : p ∈ [(w.heap.size, RO.map #[] 0)] := hp
          rw [List.mem_singleton.1 hp]; exact hnew, by simp [St.objs]⟩
      refine .inl ⟨.map (some w.heap.size), _, ?_, _, _, .mp M.length, g2, g1, .inr ⟨?_, ?_⟩, h2⟩
      · have hrun : (Instr.makeMap tyM none).run Try.prog w = .ok (.map (some w.heap.size)) (w.alloc (.map #[] 0)) := by kernel_rfl
        unfold execOp
        simp only [hop]
        exact run_v hrun
      · show Nat.blt M.length _ = true
        rw [Nat.blt_eq]; simp
      · show Value.map _ = .map (some (upd1 β M.length w.heap.size M.length))
        unfold upd1; rw [if_pos rfl]
    · exact h.elim
  · rename_i c hop
    split at h
    · rename_i hcal
      unfold hDel at h
      split at h
      · rename_i t t2 k n hts
        split at h
        · rename_i s hk
          obtain ⟨hc, h1⟩ := vsome_iff.1 h
          simp only [Bool.and_eq_true, Bool.not_eq_true'] at hc
          obtain ⟨ht, ht2, hw⟩ := hc
          obtain rfl := Nat.eq_of_beq_eq_true ht
          obtain rfl := Nat.eq_of_beq_eq_true ht2
          obtain ⟨hb, hRi⟩ := hR.at_res hk
          have hmap := res_map hRi hw
          rw [setK_eq] at h1
          obtain ⟨g1, g2⟩ := hR.turn (s' := s.del n) hk hw hw rfl
          have hargs : c.args.map ρ = #[.map (some s.mb), c32 n] := by
            have hcl : c.args.toList.map ρ = [.map (some (β k)), c32 n] := by
              rw [hop] at ho
              have hv : vals β [.mp k, .w32 n] = [.map (some (β k)), c32 n] := rfl
              rw [hv] at ho
              simpa [Op.operands, Call.operands, hcal] using ho
            apply Array.ext'
            rw [← hb]
            simpa using hcl
          have htys : c.argTypes = #[tyM, tyK] := Array.ext' hts
          have hrun := run_del s n hmap o.type
          refine bi_run hop hcal (Builtin.delete_ #[tyM, tyK] o.type #[.map (some s.mb), c32 n]) (fun consts => ?_) hrun _ ⟨β, _, .tup [], g2, g1, .inr ⟨rfl, rfl⟩, h1⟩
          rw [hargs, htys]; rfl
        · exact h.elim
      · exact h.elim
    · exact h.elim
  · exact h.elim
end Go.Proofs.Ytkjfecdpakhggaa
