/-
  flow: tables without a function, and what the reckoner asks of a map. No statement is proved here.
-/
import Derived.Test.YtkjfecdpakhggaaVcV
import Derived.Test.YtkjfecdpakhggaaChecked
import Derived.Test.YtkjfecdpakhggaaMpK
import Derived.Maps.RangeRun
import Derived.Laws.IdiomRangeMap
namespace Go.Proofs.Ytkjfecdpakhggaa
open Go.RowKit
set_option linter.unusedVariables false
set_option linter.unusedSimpArgs false
set_option maxRecDepth 100000

abbrev Tx := List (BitVec 8)
def G : Mm := []
theorem mixed : Try.prog.follows .mixedOrders = true := by kernel_rfl
def flagN : Nat := 1000001
def cFlag : List SV → List Cont → Option (Bool × SV) := fun _ _ => some (false, .any)
theorem flag_ok (n : Nat) : POk Try.prog G n cFlag := by
  intro args acs r h
  simp [cFlag] at h
def T0 : PT := noT.add flagN cFlag
theorem t0_ok : PTok Try.prog G T0 := PT.add_ok (noT_ok _ _) (flag_ok _)
def E0 : Env := { G := G, T := T0, C := noC }
theorem e0_ok : EnvOk Try.prog E0 := { T := t0_ok, C := noC_ok _ _ }
/-- Bytes may be added to slices that begin anywhere. -/
def flagO : Nat := 1000004
def TO : PT := T0.add flagO cFlag
theorem tO_ok : PTok Try.prog G TO := PT.add_ok t0_ok (flag_ok _)
def EM : Env := { G := G, T := TO, C := noC, H := hMp }
theorem em_ok : EnvOk Try.prog EM := { T := tO_ok, C := noC_ok _ _, H := hMp_ok _ }
end Go.Proofs.Ytkjfecdpakhggaa
namespace Go.Proofs.Ytkjfecdpakhggaa
open Go.RowKit
set_option linter.unusedVariables false
set_option linter.unusedSimpArgs false

/-- No number stands there twice. -/
def St.kd (s : St) : Prop := (s.es.map (·.k)).Nodup
theorem isK_self {n : BitVec 32} {e : EntE} : isK n e = true ↔ e.k = n := by
  unfold isK
  rw [beq_iff_eq]
  exact ⟨Eq.symm, Eq.symm⟩
theorem get_none {s : St} {n : BitVec 32} : s.get n = none ↔ ∀ e ∈ s.es, e.k ≠ n := by
  unfold St.get
  rw [Option.map_eq_none_iff, List.find?_eq_none]
  exact ⟨fun h e he q => h e he (isK_self.2 q), fun h e he q => h e he (isK_self.1 q)⟩
theorem get_idx_none {s : St} {n : BitVec 32} (h : s.es.findIdx? (isK n) = none) : s.get n = none := by
  rw [List.findIdx?_eq_none_iff] at h
  rw [get_none]
  exact fun e he q => by
    have := h e he
    rw [isK_self.2 q] at this
    cases this
theorem find_modify (n m : BitVec 32) (x : BitVec 8) : ∀ (l : List EntE) (i : Nat), l.findIdx? (isK n) = some i → ((l.modify i fun e => { e with x := x }).find? (isK m)).map (·.x) = if m = n then some x else (l.find? (isK m)).map (·.x)
  | [], i, h => by cases h
  | e :: l, i, h => by
    rw [List.findIdx?_cons] at h
    cases hn : isK n e <;> rw [hn] at h
    · simp only [Bool.false_eq_true, if_false, Option.map_eq_some_iff] at h
      obtain ⟨j, hj, rfl⟩ := h
      have ih := find_modify n m x l j hj
      rw [List.modify_succ_cons, List.find?_cons, List.find?_cons]
      cases hm : isK m e
      · exact ih
      · have hne : m ≠ n := fun q => by subst q; rw [hm] at hn; cases hn
        rw [if_neg hne]
    · simp only [if_true, Option.some.injEq] at h
      subst h
      have hk := isK_self.1 hn
      rw [List.modify_zero_cons, List.find?_cons, List.find?_cons]
      have e1 : isK m { e with x := x } = isK m e := rfl
      rw [e1]
      cases hm : isK m e
      · have hne : m ≠ n := fun q => by subst q; rw [hm] at hn; cases hn
        rw [if_neg hne]
      · have he := isK_self.1 hm
        rw [if_pos (he.symm.trans hk)]; rfl
theorem get_put (s : St) (n m : BitVec 32) (x : BitVec 8) : (s.put n x).get m = if m = n then some x else s.get m := by
  unfold St.put
  cases hf : s.es.findIdx? (isK n) with
  | some i => exact find_modify n m x s.es i hf
  | none =>
    have h0 := get_idx_none hf
    show ((s.es ++ [(⟨n, x, s.clk⟩ : EntE)]).find? (isK m)).map (fun e => e.x) = _
    rw [List.find?_append]
    by_cases hm : m = n
    · subst hm
      have h1 : s.es.find? (isK m) = none := by
        unfold St.get at h0
        rwa [Option.map_eq_none_iff] at h0
      rw [if_pos rfl, h1]
      have : isK m ⟨m, x, s.clk⟩ = true := isK_self.2 rfl
      simp [this]
    · rw [if_neg hm]
      have : isK m ⟨n, x, s.clk⟩ = false := by
        cases q : isK m ⟨n, x, s.clk⟩
        · rfl
        · exact absurd (isK_self.1 q).symm hm
      simp [St.get, this]
theorem find_erase (n m : BitVec 32) : ∀ (l : List EntE), (l.map (·.k)).Nodup → (l.eraseP (isK n)).find? (isK m) = if m = n then none else l.find? (isK m)
  | [], _ => by simp
  | e :: l, hd => by
    rw [List.map_cons, List.nodup_cons] at hd
    rw [List.eraseP_cons]
    cases hn : isK n e
    · simp only [cond_false]
      rw [List.find?_cons, List.find?_cons]
      cases hm : isK m e
      · exact find_erase n m l hd.2
      · have hne : m ≠ n := fun q => by subst q; rw [hm] at hn; cases hn
        rw [if_neg hne]
    · simp only [cond_true]
      have hk := isK_self.1 hn
      by_cases hm : m = n
      · subst hm
        rw [if_pos rfl, List.find?_eq_none]
        exact fun e' he' q => hd.1 (List.mem_map.2 ⟨e', he', (isK_self.1 q).trans hk.symm⟩)
      · rw [if_neg hm, List.find?_cons]
        have : isK m e = false := by
          cases q : isK m e
          · rfl
          · exact absurd ((isK_self.1 q).symm.trans hk) hm
        rw [this]
theorem get_del {s : St} (h : s.kd) (n m : BitVec 32) : (s.del n).get m = if m = n then none else s.get m := by
  show ((s.es.eraseP (isK n)).find? (isK m)).map (·.x) = _
  rw [find_erase n m s.es h]
  split <;> rfl
theorem kd_put {s : St} (h : s.kd) (n : BitVec 32) (x : BitVec 8) : (s.put n x).kd := by
  unfold St.put
  cases hf : s.es.findIdx? (isK n) with
  | some i =>
    show ((s.es.modify i fun e => { e with x := x }).map (·.k)).Nodup
    have : ∀ (l : List EntE) (i : Nat), (l.modify i fun e => { e with x := x }).map (·.k) = l.map (·.k) := by
      intro l
      induction l with
      | nil => intro i; simp
      | cons e l ih =>
        intro i
        cases i with
        | zero => simp
        | succ i => simp [ih i]
    rw [this]; exact h
  | none =>
    show ((s.es ++ [(⟨n, x, s.clk⟩ : EntE)]).map (fun e => e.k)).Nodup
    have h0 := get_none.1 (get_idx_none hf)
    rw [List.map_append, List.nodup_append]
    refine ⟨h, by simp, fun a ha b hb => ?_⟩
    obtain ⟨e, he, rfl⟩ := List.mem_map.1 ha
    have hb : b = n := by simpa using hb
    rw [hb]; exact h0 e he
theorem kd_del {s : St} (h : s.kd) (n : BitVec 32) : (s.del n).kd := by
  show ((s.es.eraseP (isK n)).map (·.k)).Nodup
  exact List.Nodup.sublist (List.Sublist.map _ (List.eraseP_sublist)) h
theorem kd_nil (x : Nat) : St.kd ⟨x, 0, [], false, none, .no⟩ := List.nodup_nil
theorem len_put (s : St) (n : BitVec 32) (x : BitVec 8) : (s.put n x).len = s.len + (if (s.get n).isSome = true then 0 else 1) := by
  unfold St.put St.len
  cases hf : s.es.findIdx? (isK n) with
  | some i =>
    have : (s.get n).isSome = true := by
      obtain ⟨h1, h2, -⟩ := List.findIdx?_eq_some_iff_getElem.1 hf
      cases q : s.get n with
      | some y => rfl
      | none => exact absurd (isK_self.1 h2) (get_none.1 q _ (List.getElem_mem h1))
    rw [if_pos this]
    simp
  | none =>
    rw [get_idx_none hf]
    simp
theorem len_del (s : St) (n : BitVec 32) : (s.del n).len = s.len - (if (s.get n).isSome = true then 1 else 0) := by
  show (s.es.eraseP (isK n)).length = s.es.length - _
  cases q : s.get n with
  | none =>
    rw [List.eraseP_of_forall_not (fun e he h => get_none.1 q e he (isK_self.1 h))]
    simp
  | some y =>
    have : ∃ e ∈ s.es, isK n e = true := by
      unfold St.get at q
      obtain ⟨e, he, -⟩ := Option.map_eq_some_iff.1 q
      exact ⟨e, List.mem_of_find?_eq_some he, List.find?_some he⟩
    obtain ⟨e, he, hk⟩ := this
    rw [List.length_eraseP_of_mem he hk]
    simp
theorem put_clk (s : St) (n : BitVec 32) (x : BitVec 8) : (s.put n x).it = s.it := by unfold St.put; split <;> rfl
end Go.Proofs.Ytkjfecdpakhggaa
namespace Go.Proofs.Ytkjfecdpakhggaa
open Go.RowKit
set_option linter.unusedVariables false
set_option linter.unusedSimpArgs false
set_option maxRecDepth 100000

abbrev itO (x mb clk : Nat) (seen : List Nat) : St := ⟨x, 0, [], true, some (mb, clk, seen), .no⟩
def hRange (t : Nat) (xs : List SV) (M : Mm) (K : SV → Mm → Prop) : Prop := match xs with
  | [.mp k] => match (M[k]? : Option Ent) with
    | some ⟨_, .res s⟩ => vsome (Nat.beq t tyM && !s.was) (∀ x, snocK M ⟨true, .res (itO x s.mb s.clk [])⟩ fun M2 => K (.ptr M.length 0) M2)
    | _ => False
  | _ => False
def hNext (b : Bool) (xs : List SV) (M : Mm) (K : SV → Mm → Prop) : Prop := match xs with
  | [.ptr i 0] => match (M[i]? : Option Ent), (M[1]? : Option Ent) with
    | some ⟨true, .res ⟨x, 0, [], true, some (mb, clk, seen), .no⟩⟩, some ⟨_, .res s⟩ => vsome (!b && !s.was) ((s.mb = mb ∧ s.clk = clk ∧ ∀ e ∈ s.es, e.born < clk) ∧ ((∀ e ∈ s.es, e.born ∈ seen) → K (.tup [.b false]) M) ∧ ∀ e, e ∈ s.es → e.born ∉ seen → setK M i ⟨true, .res (itO x mb clk (seen ++ [e.born]))⟩ fun M2 => K (.tup [.b true, .w32 e.k, .w8 e.x]) M2)
    | _, _ => False
  | _ => False
def hEntry (xs : List SV) (M : Mm) (K : SV → Mm → Prop) : Prop := match xs with
  | [.ptr i 0] => match (M[i]? : Option Ent), (M[1]? : Option Ent) with
    | some ⟨_, .res ⟨x, 0, [], true, some (mb, clk, seen), .no⟩⟩, some ⟨_, .res s⟩ => vsome (!s.was) ((s.mb = mb ∧ s.clk = clk ∧ (s.es.map (·.born)).Nodup ∧ ∃ e seen', e ∈ s.es ∧ seen = seen' ++ [e.born]) ∧ ∀ e seen', e ∈ s.es → seen = seen' ++ [e.born] → K (.tup [.w32 e.k, .w8 e.x]) M)
    | _, _ => False
  | _ => False
def hIt : HT := fun op xs M K => match op with
  | .range t _ => hRange t xs M K
  | .next _ b => hNext b xs M K
  | .entry _ => hEntry xs M K
  | op => hMp op xs M K
theorem one_op {ρ : Operand → Value} {x : Operand} {v : Value} (h : List.map ρ [x] = [v]) : ρ x = v := by simpa using h
theorem hIt_ok (nG : Mm) : HTok Try.prog nG hIt := by
  intro o xs M K h ρ β w hR ho hx
  unfold hIt at h
  split at h
  · -- range
    rename_i t x hop
    unfold hRange at h
    split at h
    · rename_i k
      split at h
      · rename_i r s hk
        obtain ⟨hc, h1⟩ := vsome_iff.1 h
        simp only [Bool.and_eq_true, Bool.not_eq_true'] at hc
        obtain ⟨ht, hw⟩ := hc
        obtain rfl := Nat.eq_of_beq_eq_true ht
        obtain ⟨hb, hRi⟩ := hR.at_res hk
        have hmap := res_map hRi hw
        rw [hop] at ho
        have e1 : ρ x = .map (some (β k)) := one_op ho
        have h2 := h1 w.heap.size
        rw [snocK_eq] at h2
        have hrun := run_range_map w tyM tyK tyV s.mb _ _ und_M hmap
        have hF := Fp.alloc w (.mapIter (some s.mb) s.clk #[] s.clk)
        have hnew : (w.alloc (.mapIter (some s.mb) s.clk #[] s.clk)).heap[w.heap.size]? = some (.mapIter (some s.mb) s.clk #[] s.clk) := by
          show (w.heap.push _)[w.heap.size]? = _
          simp
        obtain ⟨g1, g2⟩ := hR.moreR (b := w.heap.size) (x := .res (itO w.heap.size s.mb s.clk [])) hF (fun i hi => by
          have hi : i ∈ [w.heap.size] := hi
          rw [List.mem_singleton.1 hi]; exact Nat.le_refl _) rfl ⟨rfl, fun p hp => by
            have hp : p ∈ [(w.heap.size, RO.iter s.mb s.clk [] s.clk)] := hp
            rw [List.mem_singleton.1 hp]; exact hnew, by simp [St.objs, St.its]⟩
        refine .inl ⟨.pointer (some ⟨w.heap.size, 0, none⟩), _, ?_, _, _, .ptr M.length 0, g2, g1, .inr ⟨?_, ?_⟩, h2⟩
        · unfold execOp
          simp only [hop]
          rw [e1, hb]
          exact run_v hrun
        · show Nat.blt M.length _ = true
          rw [Nat.blt_eq]; simp
        · show Value.pointer _ = .pointer (some ⟨upd1 β M.length w.heap.size M.length, 0, none⟩)
          unfold upd1; rw [if_pos rfl]
      · exact h.elim
    · exact h.elim
  · -- next
    rename_i x b hop
    unfold hNext at h
    split at h
    · rename_i i
      split at h
      · rename_i x0 mb clk seen r s hi hs1
        obtain ⟨hc, ⟨rfl, rfl, hlt⟩, h1, h2⟩ := vsome_iff.1 h
        simp only [Bool.and_eq_true, Bool.not_eq_true'] at hc
        obtain ⟨rfl, hw⟩ := hc
        obtain ⟨hb, hRi⟩ := hR.at_res hs1
        have hmap := res_map hRi hw
        obtain ⟨hbi, hRit⟩ := hR.at_res hi
        have hit : w.heap[β i]? = some (.mapIter (some s.mb) s.clk seen.toArray s.clk) := by
          rw [hbi]
          exact hRit.all (x0, RO.iter s.mb s.clk seen s.clk) (List.mem_singleton.2 rfl)
        rw [hop] at ho
        have e1 : ρ x = .pointer (some ⟨β i, 0, none⟩) := one_op ho
        have hex : ∀ (v : Value) (w' : World), (Instr.next (.pointer (some ⟨β i, 0, none⟩)) false o.type).run Try.prog w = .ok v w' → (execOp ρ o).run Try.prog w = .ok (.value v) w' := fun v w' hr => by
          unfold execOp
          simp only [hop]
          rw [e1]
          exact run_v hr
        rcases run_next_at (P := Try.prog) w o.type (β i) s.mb s.clk s.clk seen.toArray (s.es.map EntE.entry).toArray s.clk hit hmap (fun y hy => by
            obtain ⟨e, he, rfl⟩ := List.mem_map.1 (by simpa using hy)
            exact hlt e he) (Nat.le_refl _) with ⟨h0, hrun⟩ | ⟨y, hy, w1, hw1, hrun⟩
        · refine .inl ⟨_, _, hex _ _ hrun, β, M, .tup [.b false], Ext.refl _ _ _, hR, .inr ⟨rfl, rfl⟩, h1 fun e he => ?_⟩
          have h3 : leftOf (s.es.map EntE.entry).toArray seen.toArray = #[] := Array.eq_empty_of_size_eq_zero h0
          unfold leftOf at h3
          rw [Array.filter_eq_empty_iff] at h3
          have := h3 e.entry (by simpa using ⟨e, he, rfl⟩)
          simpa [EntE.entry] using this
        · unfold leftOf at hy
          have hy2 : y ∈ s.es.map EntE.entry ∧ y.born ∉ seen := by simpa using hy
          obtain ⟨hy3, hy4⟩ := hy2
          obtain ⟨e, he, rfl⟩ := List.mem_map.1 hy3
          have h3 := h2 e he hy4
          rw [setK_eq] at h3
          have hF0 : Fp0 w w1 := by
            rcases hw1 with rfl | rfl
            · exact Fp.refl _ _
            · exact Fp.drew w
          have hR1 := hR.step hF0
          have hit1 : β i < w1.heap.size := Nat.lt_of_lt_of_le (by
            rcases Nat.lt_or_ge (β i) w.heap.size with q | q
            · exact q
            · rw [Array.getElem?_eq_none q] at hit; cases hit) hF0.size
          obtain ⟨g1, g2⟩ := hR1.setR (c' := .res (itO x0 s.mb s.clk (seen ++ [e.born]))) hi rfl (w' := { w1 with heap := w1.heap.setIfInBounds (β i) (.mapIter (some s.mb) s.clk (seen.toArray.push e.entry.born) s.clk) }) ((fp_block w1 (β i) _).mono fun j _ hj => by
              show j ∈ [x0]
              rw [hj, hbi]; exact List.mem_singleton.2 rfl) rfl (fun j hj => .inl hj) (fun _ => ⟨hbi, fun p hp => by
                have hp : p ∈ [(x0, RO.iter s.mb s.clk (seen ++ [e.born]) s.clk)] := hp
                rw [List.mem_singleton.1 hp]
                show (w1.heap.setIfInBounds (β i) _)[x0]? = _
                rw [← show β i = x0 from hbi, Array.getElem?_setIfInBounds_self_of_lt hit1]
                simp [EntE.entry], by simp [St.objs, St.its]⟩)
          exact .inl ⟨_, _, hex _ _ hrun, β, _, .tup [.b true, .w32 e.k, .w8 e.x], (Ext.step hF0).trans g2, g1, .inr ⟨rfl, rfl⟩, h3⟩
      · exact h.elim
    · exact h.elim
  · -- entry
    rename_i x hop
    unfold hEntry at h
    split at h
    · rename_i i
      split at h
      · rename_i r0 x0 mb clk seen r s hi hs1
        obtain ⟨hw, ⟨rfl, rfl, hnd, e, seen', he, rfl⟩, h1⟩ := vsome_iff.1 h
        have hw : s.was = false := by simpa using hw
        obtain ⟨hb, hRi⟩ := hR.at_res hs1
        have hmap := res_map hRi hw
        obtain ⟨hbi, hRit⟩ := hR.at_res hi
        have hit : w.heap[β i]? = some (.mapIter (some s.mb) s.clk (seen'.toArray.push e.entry.born) s.clk) := by
          rw [hbi]
          have := hRit.all (x0, RO.iter s.mb s.clk (seen' ++ [e.born]) s.clk) (List.mem_singleton.2 rfl)
          have h4 : w.heap[x0]? = some (.mapIter (some s.mb) s.clk (seen' ++ [e.born]).toArray s.clk) := this
          rw [h4]; simp [EntE.entry]
        rw [hop] at ho
        have e1 : ρ x = .pointer (some ⟨β i, 0, none⟩) := one_op ho
        have hrun := run_entry_at (P := Try.prog) w (β i) s.mb s.clk seen'.toArray (s.es.map EntE.entry).toArray s.clk e.entry hit hmap (by simpa using ⟨e, he, rfl⟩) (by
          have : ((s.es.map EntE.entry).map (·.born)) = s.es.map (·.born) := by rw [List.map_map]; rfl
          simpa [this] using hnd)
        refine .inl ⟨_, _, ?_, β, M, .tup [.w32 e.k, .w8 e.x], Ext.refl _ _ _, hR, .inr ⟨rfl, rfl⟩, h1 e seen' he rfl⟩
        unfold execOp
        simp only [hop]
        rw [e1]
        exact run_v hrun
      · exact h.elim
    · exact h.elim
  · exact hMp_ok nG o xs M K h ρ β w hR ho hx
end Go.Proofs.Ytkjfecdpakhggaa
