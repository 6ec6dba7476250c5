/-
  ip: the map of sets, in the reckoner: what is looked up, put, struck. No statement is proved here.
-/
import Derived.Test.YtggoncamiafclabIpK
namespace Go.Proofs.Ytggoncamiafclab
open Go.RowKit
set_option linter.unusedVariables false
set_option linter.unusedSimpArgs false
set_option maxRecDepth 100000

theorem del_perm (s : St) (n : Nm) : ((s.del n).gs ++ (s.del n).es).Perm (s.gs ++ s.es) := by
  show ((s.gs ++ (s.get n).toList) ++ s.es.eraseP (isNm n)).Perm _
  rw [List.append_assoc]
  refine List.Perm.append_left _ ?_
  unfold St.get
  induction s.es with
  | nil => exact List.Perm.refl _
  | cons e es ih =>
    rw [List.find?_cons, List.eraseP_cons]
    cases isNm n e
    · simp only [cond_false]
      exact List.perm_middle.trans (ih.cons _)
    · exact List.Perm.refl _
def unNm : SV → Option Nm
  | .agg [.w32 a, .w32 b, .w8 c, .w16 d] => some ⟨a, b, c, d⟩
  | _ => none
theorem unNm_ok {x : SV} {n : Nm} (h : unNm x = some n) : x = nmSv n := by
  unfold unNm at h
  split at h
  · cases h; rfl
  · cases h
def hLook (t : Nat) (c : Bool) (xs : List SV) (M : Mm) (K : SV → Mm → Prop) : Prop := match xs with
  | [.mp k, key] => match M[k]?, unNm key with
    | some ⟨_, .res s⟩, some n => vsome (Nat.beq t 43 && (!c && !s.was)) ((∀ e, s.get n = some e → K (.v (.pointer (some ⟨e.sb, 0, none⟩))) M) ∧ (s.get n = none → K (.v (.pointer none)) M))
    | _, _ => False
  | _ => False
def hPut (t : Nat) (xs : List SV) (M : Mm) (K : SV → Mm → Prop) : Prop := match xs with
  | [.mp k, key, .ptr j 0] => match M[k]?, M[j]?, unNm key with
    | some ⟨true, .res s⟩, some ⟨true, .row [.w64 u, .v (.slice none 0 0)]⟩, some n => vsome (Nat.beq t 43 && !s.was) (s.get n = none ∧ ∀ x, (∀ e ∈ s.gs ++ s.es, e.sb ≠ x) → setK M j ⟨true, .res (wasAt x)⟩ fun M1 => setK M1 k ⟨true, .res (s.put (newE n s.clk x u))⟩ fun M2 => K .any M2)
    | _, _, _ => False
  | _ => False
def hMake (t : Nat) (xs : List SV) (M : Mm) (K : SV → Mm → Prop) : Prop := match xs with
  | [] => vsome (Nat.beq t 43) (∀ x, snocK M ⟨true, .res ⟨x, 0, [], false, none, []⟩⟩ fun M2 => K (.mp M.length) M2)
  | _ => False
def hDel (ts : List Nat) (xs : List SV) (M : Mm) (K : SV → Mm → Prop) : Prop := match ts, xs with
  | [t, t2], [.mp k, key] => match M[k]?, unNm key with
    | some ⟨true, .res s⟩, some n => vsome (Nat.beq t 43 && (Nat.beq t2 48 && !s.was)) (setK M k ⟨true, .res (s.del n)⟩ fun M2 => K (.tup []) M2)
    | _, _ => False
  | _, _ => False
def hIp : HT := fun op xs M K => match op with
  | .lookup t _ _ c => hLook t c xs M K
  | .mapUpdate t _ _ _ => hPut t xs M K
  | .makeMap t none => hMake t xs M K
  | .call c => match c.callee with
    | .builtin .delete => hDel c.argTypes.toList xs M K
    | _ => False
  | _ => False
theorem hIp_ok (nG : Mm) : HTok Try.prog nG hIp := by
  intro o xs M K h ρ β w hR ho hx
  unfold hIp at h
  split at h
  · rename_i t x ix c hop
    unfold hLook at h
    split at h
    · rename_i k key
      split at h
      · rename_i r s n hk hn
        obtain rfl := unNm_ok hn
        obtain ⟨hc, h1, h2⟩ := vsome_iff.1 h
        simp only [Bool.and_eq_true, Bool.not_eq_true'] at hc
        obtain ⟨ht, rfl, hw⟩ := hc
        obtain rfl := Nat.eq_of_beq_eq_true ht
        obtain ⟨hb, hRi⟩ := hR.at_res hk
        have hmap := res_map hRi hw
        rw [hop] at ho
        have ho : [ρ x, ρ ix] = [.map (some (β k)), n.v] := ho
        simp only [List.cons.injEq, and_true] at ho
        obtain ⟨e1, e2⟩ := ho
        have hrun : (execOp ρ o).run Try.prog w = .ok (.value (ptrO (s.get n))) w := by
          have h0 := run_look s n hmap
          unfold execOp
          simp only [hop]
          rw [e1, e2, hb]
          exact run_v h0
        refine .inl ⟨_, _, hrun, ?_⟩
        cases hg : s.get n with
        | none => exact ⟨β, M, .v (.pointer none), Ext.refl _ _ _, hR, .inr ⟨rfl, rfl⟩, h2 hg⟩
        | some e => exact ⟨β, M, .v (.pointer (some ⟨e.sb, 0, none⟩)), Ext.refl _ _ _, hR, .inr ⟨rfl, rfl⟩, h1 e hg⟩
      · exact h.elim
    · exact h.elim
  · rename_i t m kk x hop
    unfold hPut at h
    split at h
    · rename_i k key j
      split at h
      · rename_i s u n hk hj hn
        obtain rfl := unNm_ok hn
        obtain ⟨hc, hg, h1⟩ := vsome_iff.1 h
        simp only [Bool.and_eq_true, Bool.not_eq_true'] at hc
        obtain ⟨ht, hw⟩ := hc
        obtain rfl := Nat.eq_of_beq_eq_true ht
        obtain ⟨hb, hRi⟩ := hR.at_res hk
        have hmap := res_map hRi hw
        rw [hop] at ho
        have ho : [ρ m, ρ kk, ρ x] = [.map (some (β k)), n.v, .pointer (some ⟨β j, 0, none⟩)] := ho
        simp only [List.cons.injEq, and_true] at ho
        obtain ⟨e1, e2, e3⟩ := ho
        have h2 := h1 (β j) (fun e he q => hR.dis k j _ _ hk hj (fun q2 => by subst q2; rw [hk] at hj; cases hj) rfl rfl rfl e.sb (by
          show e.sb ∈ s.objs.map (·.1)
          rw [res_objs hw, List.map_cons]
          refine List.mem_cons_of_mem _ (List.mem_map.2 ⟨(e.sb, _), List.mem_flatMap.2 ⟨e, he, List.mem_cons_self ..⟩, rfl⟩)) q)
        rw [setK_eq, setK_eq] at h2
        obtain ⟨g1, g2⟩ := hR.take (n := n) hk hw hj
        have hpush : (s.es.map SetE.entry).toArray.push { key := n.v, val := .pointer (some ⟨β j, 0, none⟩), born := s.clk } = ((s.put (newE n s.clk (β j) u)).es.map SetE.entry).toArray := by
          simp [St.put, newE, SetE.entry]
        have hrun := run_put s n ⟨β j, 0, none⟩ hmap hg
        rw [hpush] at hrun
        refine .inr (.inl ⟨_, ?_, _, _, .any, g2, g1, .inl rfl, h2⟩)
        unfold execOp
        simp only [hop]
        rw [e1, e2, e3, hb]
        simp [hrun]
      · exact h.elim
    · exact h.elim
  · rename_i t hop
    unfold hMake at h
    split at h
    · obtain ⟨ht, h1⟩ := vsome_iff.1 h
      obtain rfl := Nat.eq_of_beq_eq_true ht
      have h2 := h1 w.heap.size
      rw [snocK_eq] at h2
      have hF := Fp.alloc w (.map #[] 0)
      have hnew : (w.alloc (.map #[] 0)).heap[w.heap.size]? = some (.map #[] 0) := by
        show (w.heap.push (.map #[] 0))[w.heap.size]? = _
        simp
      obtain ⟨g1, g2⟩ := hR.moreR (b := w.heap.size) (x := .res ⟨w.heap.size, 0, [], false, none, []⟩) hF (fun i hi => by
        have hi : i ∈ [w.heap.size] := hi
        rw [List.mem_singleton.1 hi]; exact Nat.le_refl _) rfl ⟨rfl, fun p hp => by
          have hp : p ∈ [(w.heap.size, RO.map #[] 0)] := hp
          rw [List.mem_singleton.1 hp]; exact hnew, by simp [St.objs]⟩
      refine .inl ⟨.map (some w.heap.size), _, ?_, _, _, .mp M.length, g2, g1, .inr ⟨?_, ?_⟩, h2⟩
      · have hrun : (Instr.makeMap 43 none).run Try.prog w = .ok (.map (some w.heap.size)) (w.alloc (.map #[] 0)) := by kernel_rfl
        unfold execOp
        simp only [hop]
        exact run_v hrun
      · show Nat.blt M.length _ = true
        rw [Nat.blt_eq]; simp
      · show Value.map _ = .map (some (upd1 β M.length w.heap.size M.length))
        unfold upd1; rw [if_pos rfl]
    · exact h.elim
  · rename_i c hop
    split at h
    · rename_i hcal
      unfold hDel at h
      split at h
      · rename_i t t2 k key hts
        split at h
        · rename_i s n hk hn
          obtain rfl := unNm_ok hn
          obtain ⟨hc, h1⟩ := vsome_iff.1 h
          simp only [Bool.and_eq_true, Bool.not_eq_true'] at hc
          obtain ⟨ht, ht2, hw⟩ := hc
          obtain rfl := Nat.eq_of_beq_eq_true ht
          obtain rfl := Nat.eq_of_beq_eq_true ht2
          obtain ⟨hb, hRi⟩ := hR.at_res hk
          have hmap := res_map hRi hw
          rw [setK_eq] at h1
          obtain ⟨g1, g2⟩ := hR.turn (s' := s.del n) hk hw hw rfl (del_perm s n)
          have hargs : c.args.map ρ = #[.map (some s.mb), n.v] := by
            have hcl : c.args.toList.map ρ = [.map (some (β k)), n.v] := by
              rw [hop] at ho
              have hv : vals β [.mp k, nmSv n] = [.map (some (β k)), n.v] := rfl
              rw [hv] at ho
              simpa [Op.operands, Call.operands, hcal] using ho
            apply Array.ext'
            rw [← hb]
            simpa using hcl
          have htys : c.argTypes = #[43, 48] := Array.ext' hts
          have hrun := run_del s n hmap o.type
          refine bi_run hop hcal (Builtin.delete_ #[43, 48] o.type #[.map (some s.mb), n.v]) (fun consts => ?_) hrun _ ⟨β, _, .tup [], g2, g1, .inr ⟨rfl, rfl⟩, h1⟩
          rw [hargs, htys]; rfl
        · exact h.elim
      · exact h.elim
    · exact h.elim
  · exact h.elim
end Go.Proofs.Ytggoncamiafclab
