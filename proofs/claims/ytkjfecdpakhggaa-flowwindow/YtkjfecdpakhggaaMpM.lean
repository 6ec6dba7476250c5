/-
  flow: a map of bytes by numbers, in the reckoner: hooks. No statement is proved here.
-/
import Derived.Test.YtkjfecdpakhggaaMpK
namespace Go.Proofs.Ytkjfecdpakhggaa
open Go.RowKit
set_option linter.unusedVariables false
set_option linter.unusedSimpArgs false
set_option maxRecDepth 100000

theorem res_objs {s : St} (h : s.was = false) : s.objs = [(s.mb, .map (s.es.map EntE.entry).toArray s.clk)] := by unfold St.objs; rw [h]; rfl
theorem res_map {s : St} {w : World} (h : RIn s.objs w) (hw : s.was = false) : w.heap[s.mb]? = some (.map (s.es.map EntE.entry).toArray s.clk) := by
  rw [res_objs hw] at h
  exact h.all _ (List.mem_cons_self ..)
theorem fp_block (w : World) (b : Nat) (o : Obj) : Fp (fun i => i = b) w { w with heap := w.heap.setIfInBounds b o } := ⟨rfl, rfl, rfl, by simp, fun k hk hne => by
  show (w.heap.setIfInBounds b o)[k]? = _
  rw [Array.getElem?_setIfInBounds_ne (Ne.symm hne)]⟩
section
variable {nG : Mm} {β : Nat → Nat} {M : Mm} {w : World}
theorem Rel.at_res (h : Rel nG β M w) {k : Nat} {r : Bool} {s : St} (hk : M[k]? = some ⟨r, .res s⟩) : β k = s.mb ∧ RIn s.objs w := h.all k _ hk rfl
theorem Rel.turn (h : Rel nG β M w) {k : Nat} {s s' : St} (hk : M[k]? = some ⟨true, .res s⟩) (hw : s.was = false) (hw' : s'.was = false) (hmb : s'.mb = s.mb) :
    Rel nG β (M.set k ⟨true, .res s'⟩) { w with heap := w.heap.setIfInBounds s.mb (.map (s'.es.map EntE.entry).toArray s'.clk) } ∧ Ext β M w β (M.set k ⟨true, .res s'⟩) { w with heap := w.heap.setIfInBounds s.mb (.map (s'.es.map EntE.entry).toArray s'.clk) } := by
  obtain ⟨hb, hR⟩ := h.at_res hk
  have hmap := res_map hR hw
  have hlt : s.mb < w.heap.size := by
    rcases Nat.lt_or_ge s.mb w.heap.size with q | q
    · exact q
    · rw [Array.getElem?_eq_none q] at hmap; cases hmap
  have hs2 : s'.objs.map (·.1) = s.objs.map (·.1) := by
    rw [res_objs hw, res_objs hw', List.map_cons, List.map_cons, hmb]
  have hF := fp_block w s.mb (.map (s'.es.map EntE.entry).toArray s'.clk)
  refine h.setR (c' := .res s') hk rfl (hF.mono fun i _ hi => ?_) rfl (fun i hi => .inl (by
    have hi : i ∈ s'.objs.map (·.1) := hi
    rw [hs2] at hi; exact hi)) (fun _ => ?_)
  · show i ∈ s.objs.map (·.1)
    rw [res_objs hw, hi]; exact List.mem_cons_self ..
  · refine ⟨hb.trans hmb.symm, fun p hp => ?_, by rw [hs2]; exact hR.dis⟩
    rw [res_objs hw', List.mem_singleton] at hp
    subst hp
    show (w.heap.setIfInBounds s.mb _)[s'.mb]? = _
    rw [hmb, Array.getElem?_setIfInBounds_self_of_lt hlt]
end
theorem put_was (s : St) (n : BitVec 32) (x : BitVec 8) : (s.put n x).was = s.was := by unfold St.put; split <;> rfl
theorem put_mb (s : St) (n : BitVec 32) (x : BitVec 8) : (s.put n x).mb = s.mb := by unfold St.put; split <;> rfl
def hLook (t : Nat) (c : Bool) (xs : List SV) (M : Mm) (K : SV → Mm → Prop) : Prop := match xs with
  | [.mp k, .w32 n] => match M[k]? with
    | some ⟨_, .res s⟩ => vsome (Nat.beq t tyM && !s.was) (bif c then K (.tup [.w8 (bOf (s.get n)), .b (s.get n).isSome]) M else K (.w8 (bOf (s.get n))) M)
    | _ => False
  | _ => False
def hPut (t : Nat) (xs : List SV) (M : Mm) (K : SV → Mm → Prop) : Prop := match xs with
  | [.mp k, .w32 n, .w8 x] => match M[k]? with
    | some ⟨true, .res s⟩ => vsome (Nat.beq t tyM && !s.was) (setK M k ⟨true, .res (s.put n x)⟩ fun M2 => K .any M2)
    | _ => False
  | _ => False
def hMake (t : Nat) (xs : List SV) (M : Mm) (K : SV → Mm → Prop) : Prop := match xs with
  | [] => vsome (Nat.beq t tyM) (∀ x, snocK M ⟨true, .res ⟨x, 0, [], false, none, .no⟩⟩ fun M2 => K (.mp M.length) M2)
  | _ => False
def hDel (ts : List Nat) (xs : List SV) (M : Mm) (K : SV → Mm → Prop) : Prop := match ts, xs with
  | [t, t2], [.mp k, .w32 n] => match M[k]? with
    | some ⟨true, .res s⟩ => vsome (Nat.beq t tyM && (Nat.beq t2 tyK && !s.was)) (setK M k ⟨true, .res (s.del n)⟩ fun M2 => K (.tup []) M2)
    | _ => False
  | _, _ => False
def hMp : HT := fun op xs M K => match op with
  | .lookup t _ _ c => hLook t c xs M K
  | .mapUpdate t _ _ _ => hPut t xs M K
  | .makeMap t none => hMake t xs M K
  | .call c => match c.callee with
    | .builtin .delete => hDel c.argTypes.toList xs M K
    | _ => False
  | _ => False
theorem hMp_ok (nG : Mm) : HTok Try.prog nG hMp := by
  intro o xs M K h ρ β w hR ho hx
  unfold hMp at h
  split at h
  · rename_i t x ix c hop
    unfold hLook at h
    split at h
    · rename_i k n
      split at h
      · rename_i r s hk
        obtain ⟨hc, h1⟩ := vsome_iff.1 h
        simp only [Bool.and_eq_true, Bool.not_eq_true'] at hc
        obtain ⟨ht, hw⟩ := hc
        obtain rfl := Nat.eq_of_beq_eq_true ht
        obtain ⟨hb, hRi⟩ := hR.at_res hk
        have hmap := res_map hRi hw
        rw [hop] at ho
        have ho : [ρ x, ρ ix] = [.map (some (β k)), c32 n] := ho
        simp only [List.cons.injEq, and_true] at ho
        obtain ⟨e1, e2⟩ := ho
        have hrun : (execOp ρ o).run Try.prog w = .ok (.value (if c = true then .tuple #[c8 (bOf (s.get n)), .bool (s.get n).isSome] else c8 (bOf (s.get n)))) w := by
          have h0 := run_look s n c hmap
          unfold execOp
          simp only [hop]
          rw [e1, e2, hb]
          exact run_v h0
        refine .inl ⟨_, _, hrun, ?_⟩
        cases c
        · exact ⟨β, M, .w8 (bOf (s.get n)), Ext.refl _ _ _, hR, .inr ⟨rfl, rfl⟩, h1⟩
        · exact ⟨β, M, .tup [.w8 (bOf (s.get n)), .b (s.get n).isSome], Ext.refl _ _ _, hR, .inr ⟨rfl, rfl⟩, h1⟩
      · exact h.elim
    · exact h.elim
  · rename_i t m kk x hop
    unfold hPut at h
    split at h
    · rename_i k n z
      split at h
      · rename_i s hk
        obtain ⟨hc, h1⟩ := vsome_iff.1 h
        simp only [Bool.and_eq_true, Bool.not_eq_true'] at hc
        obtain ⟨ht, hw⟩ := hc
        obtain rfl := Nat.eq_of_beq_eq_true ht
        obtain ⟨hb, hRi⟩ := hR.at_res hk
        have hmap := res_map hRi hw
        rw [hop] at ho
        have ho : [ρ m, ρ kk, ρ x] = [.map (some (β k)), c32 n, c8 z] := ho
        simp only [List.cons.injEq, and_true] at ho
        obtain ⟨e1, e2, e3⟩ := ho
        rw [setK_eq] at h1
        obtain ⟨g1, g2⟩ := hR.turn (s' := s.put n z) hk hw (by rw [put_was]; exact hw) (put_mb s n z)
        have hrun := run_put s n z hmap
        refine .inr (.inl ⟨_, ?_, _, _, .any, g2, g1, .inl rfl, h1⟩)
        unfold execOp
        simp only [hop]
        rw [e1, e2, e3, hb]
        simp [hrun]
      · exact h.elim
    · exact h.elim
  · rename_i t hop
    unfold hMake at h
    split at h
    · obtain ⟨ht, h1⟩ := vsome_iff.1 h
      obtain rfl := Nat.eq_of_beq_eq_true ht
      have h2 := h1 w.heap.size
      rw [snocK_eq] at h2
      have hF := Fp.alloc w (.map #[] 0)
      have hnew : (w.alloc (.map #[] 0)).heap[w.heap.size]? = some (.map #[] 0) := by
        show (w.heap.push (.map #[] 0))[w.heap.size]? = _
        simp
      obtain ⟨g1, g2⟩ := hR.moreR (b := w.heap.size) (x := .res ⟨w.heap.size, 0, [], false, none, .no⟩) hF (fun i hi => by
        have hi : i ∈ [w.heap.size] := hi
        rw [List.mem_singleton.1 hi]; exact Nat.le_refl _) rfl ⟨rfl, fun p hp => by
          have hp : p ∈ [(w.heap.size, RO.map #[] 0)] := hp
          rw [List.mem_singleton.1 hp]; exact hnew, by simp [St.objs]⟩
      refine .inl ⟨.map (some w.heap.size), _, ?_, _, _, .mp M.length, g2, g1, .inr ⟨?_, ?_⟩, h2⟩
      · have hrun : (Instr.makeMap tyM none).run Try.prog w = .ok (.map (some w.heap.size)) (w.alloc (.map #[] 0)) := by kernel_rfl
        unfold execOp
        simp only [hop]
        exact run_v hrun
      · show Nat.blt M.length _ = true
        rw [Nat.blt_eq]; simp
      · show Value.map _ = .map (some (upd1 β M.length w.heap.size M.length))
        unfold upd1; rw [if_pos rfl]
    · exact h.elim
  · rename_i c hop
    split at h
    · rename_i hcal
      unfold hDel at h
      split at h
      · rename_i t t2 k n hts
        split at h
        · rename_i s hk
          obtain ⟨hc, h1⟩ := vsome_iff.1 h
          simp only [Bool.and_eq_true, Bool.not_eq_true'] at hc
          obtain ⟨ht, ht2, hw⟩ := hc
          obtain rfl := Nat.eq_of_beq_eq_true ht
          obtain rfl := Nat.eq_of_beq_eq_true ht2
          obtain ⟨hb, hRi⟩ := hR.at_res hk
          have hmap := res_map hRi hw
          rw [setK_eq] at h1
          obtain ⟨g1, g2⟩ := hR.turn (s' := s.del n) hk hw hw rfl
          have hargs : c.args.map ρ = #[.map (some s.mb), c32 n] := by
            have hcl : c.args.toList.map ρ = [.map (some (β k)), c32 n] := by
              rw [hop] at ho
              have hv : vals β [.mp k, .w32 n] = [.map (some (β k)), c32 n] := rfl
              rw [hv] at ho
              simpa [Op.operands, Call.operands, hcal] using ho
            apply Array.ext'
            rw [← hb]
            simpa using hcl
          have htys : c.argTypes = #[tyM, tyK] := Array.ext' hts
          have hrun := run_del s n hmap o.type
          refine bi_run hop hcal (Builtin.delete_ #[tyM, tyK] o.type #[.map (some s.mb), c32 n]) (fun consts => ?_) hrun _ ⟨β, _, .tup [], g2, g1, .inr ⟨rfl, rfl⟩, h1⟩
          rw [hargs, htys]; rfl
        · exact h.elim
      · exact h.elim
    · exact h.elim
  · exact h.elim
end Go.Proofs.Ytkjfecdpakhggaa
