/-
  flow: what goes through the map of bytes. No statement is proved here.
-/
import Derived.Test.YtkjfecdpakhggaaFlA
import Derived.Maps.RangeRun
import Derived.Laws.IdiomRangeMap
namespace Go.Proofs.Ytkjfecdpakhggaa
open Go.RowKit
set_option linter.unusedVariables false
set_option linter.unusedSimpArgs false
set_option maxRecDepth 100000

abbrev itO (x mb clk : Nat) (seen : List Nat) : St := ⟨x, 0, [], true, some (mb, clk, seen), .no⟩
def hRange (t : Nat) (xs : List SV) (M : Mm) (K : SV → Mm → Prop) : Prop := match xs with
  | [.mp k] => match (M[k]? : Option Ent) with
    | some ⟨_, .res s⟩ => vsome (Nat.beq t tyM && !s.was) (∀ x, snocK M ⟨true, .res (itO x s.mb s.clk [])⟩ fun M2 => K (.ptr M.length 0) M2)
    | _ => False
  | _ => False
def hNext (b : Bool) (xs : List SV) (M : Mm) (K : SV → Mm → Prop) : Prop := match xs with
  | [.ptr i 0] => match (M[i]? : Option Ent), (M[1]? : Option Ent) with
    | some ⟨true, .res ⟨x, 0, [], true, some (mb, clk, seen), .no⟩⟩, some ⟨_, .res s⟩ => vsome (!b && !s.was) ((s.mb = mb ∧ s.clk = clk ∧ ∀ e ∈ s.es, e.born < clk) ∧ ((∀ e ∈ s.es, e.born ∈ seen) → K (.tup [.b false]) M) ∧ ∀ e, e ∈ s.es → e.born ∉ seen → setK M i ⟨true, .res (itO x mb clk (seen ++ [e.born]))⟩ fun M2 => K (.tup [.b true, .w32 e.k, .w8 e.x]) M2)
    | _, _ => False
  | _ => False
def hEntry (xs : List SV) (M : Mm) (K : SV → Mm → Prop) : Prop := match xs with
  | [.ptr i 0] => match (M[i]? : Option Ent), (M[1]? : Option Ent) with
    | some ⟨_, .res ⟨x, 0, [], true, some (mb, clk, seen), .no⟩⟩, some ⟨_, .res s⟩ => vsome (!s.was) ((s.mb = mb ∧ s.clk = clk ∧ (s.es.map (·.born)).Nodup ∧ ∃ e seen', e ∈ s.es ∧ seen = seen' ++ [e.born]) ∧ ∀ e seen', e ∈ s.es → seen = seen' ++ [e.born] → K (.tup [.w32 e.k, .w8 e.x]) M)
    | _, _ => False
  | _ => False
def hIt : HT := fun op xs M K => match op with
  | .range t _ => hRange t xs M K
  | .next _ b => hNext b xs M K
  | .entry _ => hEntry xs M K
  | op => hMp op xs M K
theorem one_op {ρ : Operand → Value} {x : Operand} {v : Value} (h : List.map ρ [x] = [v]) : ρ x = v := by simpa using h
theorem hIt_ok (nG : Mm) : HTok Try.prog nG hIt := by
  intro o xs M K h ρ β w hR ho hx
  unfold hIt at h
  split at h
  · -- range
    rename_i t x hop
    unfold hRange at h
    split at h
    · rename_i k
      split at h
      · rename_i r s hk
        obtain ⟨hc, h1⟩ := vsome_iff.1 h
        simp only [Bool.and_eq_true, Bool.not_eq_true'] at hc
        obtain ⟨ht, hw⟩ := hc
        obtain rfl := Nat.eq_of_beq_eq_true ht
        obtain ⟨hb, hRi⟩ := hR.at_res hk
        have hmap := res_map hRi hw
        rw [hop] at ho
        have e1 : ρ x = .map (some (β k)) := one_op ho
        have h2 := h1 w.heap.size
        rw [snocK_eq] at h2
        have hrun := run_range_map w tyM tyK tyV s.mb _ _ und_M hmap
        have hF := Fp.alloc w (.mapIter (some s.mb) s.clk #[] s.clk)
        have hnew : (w.alloc (.mapIter (some s.mb) s.clk #[] s.clk)).heap[w.heap.size]? = some (.mapIter (some s.mb) s.clk #[] s.clk) := by
          show (w.heap.push _)[w.heap.size]? = _
          simp
        obtain ⟨g1, g2⟩ := hR.moreR (b := w.heap.size) (x := .res (itO w.heap.size s.mb s.clk [])) hF (fun i hi => by
          have hi : i ∈ [w.heap.size] := hi
          rw [List.mem_singleton.1 hi]; exact Nat.le_refl _) rfl ⟨rfl, fun p hp => by
            have hp : p ∈ [(w.heap.size, RO.iter s.mb s.clk [] s.clk)] := hp
            rw [List.mem_singleton.1 hp]; exact hnew, by simp [St.objs, St.its]⟩
        refine .inl ⟨.pointer (some ⟨w.heap.size, 0, none⟩), _, ?_, _, _, .ptr M.length 0, g2, g1, .inr ⟨?_, ?_⟩, h2⟩
        · unfold execOp
          simp only [hop]
          rw [e1, hb]
          exact run_v hrun
        · show Nat.blt M.length _ = true
          rw [Nat.blt_eq]; simp
        · show Value.pointer _ = .pointer (some ⟨upd1 β M.length w.heap.size M.length, 0, none⟩)
          unfold upd1; rw [if_pos rfl]
      · exact h.elim
    · exact h.elim
  · -- next
    rename_i x b hop
    unfold hNext at h
    split at h
    · rename_i i
      split at h
      · rename_i x0 mb clk seen r s hi hs1
        obtain ⟨hc, ⟨rfl, rfl, hlt⟩, h1, h2⟩ := vsome_iff.1 h
        simp only [Bool.and_eq_true, Bool.not_eq_true'] at hc
        obtain ⟨rfl, hw⟩ := hc
        obtain ⟨hb, hRi⟩ := hR.at_res hs1
        have hmap := res_map hRi hw
        obtain ⟨hbi, hRit⟩ := hR.at_res hi
        have hit : w.heap[β i]? = some (.mapIter (some s.mb) s.clk seen.toArray s.clk) := by
          rw [hbi]
          exact hRit.all (x0, RO.iter s.mb s.clk seen s.clk) (List.mem_singleton.2 rfl)
        rw [hop] at ho
        have e1 : ρ x = .pointer (some ⟨β i, 0, none⟩) := one_op ho
        have hex : ∀ (v : Value) (w' : World), (Instr.next (.pointer (some ⟨β i, 0, none⟩)) false o.type).run Try.prog w = .ok v w' → (execOp ρ o).run Try.prog w = .ok (.value v) w' := fun v w' hr => by
          unfold execOp
          simp only [hop]
          rw [e1]
          exact run_v hr
        rcases run_next_at (P := Try.prog) w o.type (β i) s.mb s.clk s.clk seen.toArray (s.es.map EntE.entry).toArray s.clk hit hmap (fun y hy => by
            obtain ⟨e, he, rfl⟩ := List.mem_map.1 (by simpa using hy)
            exact hlt e he) (Nat.le_refl _) with ⟨h0, hrun⟩ | ⟨y, hy, w1, hw1, hrun⟩
        · refine .inl ⟨_, _, hex _ _ hrun, β, M, .tup [.b false], Ext.refl _ _ _, hR, .inr ⟨rfl, rfl⟩, h1 fun e he => ?_⟩
          have h3 : leftOf (s.es.map EntE.entry).toArray seen.toArray = #[] := Array.eq_empty_of_size_eq_zero h0
          unfold leftOf at h3
          rw [Array.filter_eq_empty_iff] at h3
          have := h3 e.entry (by simpa using ⟨e, he, rfl⟩)
          simpa [EntE.entry] using this
        · unfold leftOf at hy
          have hy2 : y ∈ s.es.map EntE.entry ∧ y.born ∉ seen := by simpa using hy
          obtain ⟨hy3, hy4⟩ := hy2
          obtain ⟨e, he, rfl⟩ := List.mem_map.1 hy3
          have h3 := h2 e he hy4
          rw [setK_eq] at h3
          have hF0 : Fp0 w w1 := by
            rcases hw1 with rfl | rfl
            · exact Fp.refl _ _
            · exact Fp.drew w
          have hR1 := hR.step hF0
          have hit1 : β i < w1.heap.size := Nat.lt_of_lt_of_le (by
            rcases Nat.lt_or_ge (β i) w.heap.size with q | q
            · exact q
            · rw [Array.getElem?_eq_none q] at hit; cases hit) hF0.size
          obtain ⟨g1, g2⟩ := hR1.setR (c' := .res (itO x0 s.mb s.clk (seen ++ [e.born]))) hi rfl (w' := { w1 with heap := w1.heap.setIfInBounds (β i) (.mapIter (some s.mb) s.clk (seen.toArray.push e.entry.born) s.clk) }) ((fp_block w1 (β i) _).mono fun j _ hj => by
              show j ∈ [x0]
              rw [hj, hbi]; exact List.mem_singleton.2 rfl) rfl (fun j hj => .inl hj) (fun _ => ⟨hbi, fun p hp => by
                have hp : p ∈ [(x0, RO.iter s.mb s.clk (seen ++ [e.born]) s.clk)] := hp
                rw [List.mem_singleton.1 hp]
                show (w1.heap.setIfInBounds (β i) _)[x0]? = _
                rw [← show β i = x0 from hbi, Array.getElem?_setIfInBounds_self_of_lt hit1]
                simp [EntE.entry], by simp [St.objs, St.its]⟩)
          exact .inl ⟨_, _, hex _ _ hrun, β, _, .tup [.b true, .w32 e.k, .w8 e.x], (Ext.step hF0).trans g2, g1, .inr ⟨rfl, rfl⟩, h3⟩
      · exact h.elim
    · exact h.elim
  · -- entry
    rename_i x hop
    unfold hEntry at h
    split at h
    · rename_i i
      split at h
      · rename_i r0 x0 mb clk seen r s hi hs1
        obtain ⟨hw, ⟨rfl, rfl, hnd, e, seen', he, rfl⟩, h1⟩ := vsome_iff.1 h
        have hw : s.was = false := by simpa using hw
        obtain ⟨hb, hRi⟩ := hR.at_res hs1
        have hmap := res_map hRi hw
        obtain ⟨hbi, hRit⟩ := hR.at_res hi
        have hit : w.heap[β i]? = some (.mapIter (some s.mb) s.clk (seen'.toArray.push e.entry.born) s.clk) := by
          rw [hbi]
          have := hRit.all (x0, RO.iter s.mb s.clk (seen' ++ [e.born]) s.clk) (List.mem_singleton.2 rfl)
          have h4 : w.heap[x0]? = some (.mapIter (some s.mb) s.clk (seen' ++ [e.born]).toArray s.clk) := this
          rw [h4]; simp [EntE.entry]
        rw [hop] at ho
        have e1 : ρ x = .pointer (some ⟨β i, 0, none⟩) := one_op ho
        have hrun := run_entry_at (P := Try.prog) w (β i) s.mb s.clk seen'.toArray (s.es.map EntE.entry).toArray s.clk e.entry hit hmap (by simpa using ⟨e, he, rfl⟩) (by
          have : ((s.es.map EntE.entry).map (·.born)) = s.es.map (·.born) := by rw [List.map_map]; rfl
          simpa [this] using hnd)
        refine .inl ⟨_, _, ?_, β, M, .tup [.w32 e.k, .w8 e.x], Ext.refl _ _ _, hR, .inr ⟨rfl, rfl⟩, h1 e seen' he rfl⟩
        unfold execOp
        simp only [hop]
        rw [e1]
        exact run_v hrun
      · exact h.elim
    · exact h.elim
  · exact hMp_ok nG o xs M K h ρ β w hR ho hx
end Go.Proofs.Ytkjfecdpakhggaa
