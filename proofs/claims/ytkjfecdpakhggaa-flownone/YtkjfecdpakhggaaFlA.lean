/-
  flow: tables without a function, and what the reckoner asks of a map. No statement is proved here.
-/
import Derived.Test.YtkjfecdpakhggaaVdI
import Derived.Test.YtkjfecdpakhggaaChecked
import Derived.Test.YtkjfecdpakhggaaMpM
namespace Go.Proofs.Ytkjfecdpakhggaa
open Go.RowKit
set_option linter.unusedVariables false
set_option linter.unusedSimpArgs false
set_option maxRecDepth 100000

abbrev Tx := List (BitVec 8)
def G : Mm := []
theorem mixed : Try.prog.follows .mixedOrders = true := by kernel_rfl
def flagN : Nat := 1000001
def cFlag : List SV → List Cont → Option (Bool × SV) := fun _ _ => some (false, .any)
theorem flag_ok (n : Nat) : POk Try.prog G n cFlag := by
  intro args acs r h
  simp [cFlag] at h
def T0 : PT := noT.add flagN cFlag
theorem t0_ok : PTok Try.prog G T0 := PT.add_ok (noT_ok _ _) (flag_ok _)
def E0 : Env := { G := G, T := T0, C := noC }
theorem e0_ok : EnvOk Try.prog E0 := { T := t0_ok, C := noC_ok _ _ }
/-- Bytes may be added to slices that begin anywhere. -/
def flagO : Nat := 1000004
def TO : PT := T0.add flagO cFlag
theorem tO_ok : PTok Try.prog G TO := PT.add_ok t0_ok (flag_ok _)
def EM : Env := { G := G, T := TO, C := noC, H := hMp }
theorem em_ok : EnvOk Try.prog EM := { T := tO_ok, C := noC_ok _ _, H := hMp_ok _ }
end Go.Proofs.Ytkjfecdpakhggaa
namespace Go.Proofs.Ytkjfecdpakhggaa
open Go.RowKit
set_option linter.unusedVariables false
set_option linter.unusedSimpArgs false

/-- No number stands there twice. -/
def St.kd (s : St) : Prop := (s.es.map (·.k)).Nodup
theorem isK_self {n : BitVec 32} {e : EntE} : isK n e = true ↔ e.k = n := by
  unfold isK
  rw [beq_iff_eq]
  exact ⟨Eq.symm, Eq.symm⟩
theorem get_none {s : St} {n : BitVec 32} : s.get n = none ↔ ∀ e ∈ s.es, e.k ≠ n := by
  unfold St.get
  rw [Option.map_eq_none_iff, List.find?_eq_none]
  exact ⟨fun h e he q => h e he (isK_self.2 q), fun h e he q => h e he (isK_self.1 q)⟩
theorem get_idx_none {s : St} {n : BitVec 32} (h : s.es.findIdx? (isK n) = none) : s.get n = none := by
  rw [List.findIdx?_eq_none_iff] at h
  rw [get_none]
  exact fun e he q => by
    have := h e he
    rw [isK_self.2 q] at this
    cases this
theorem find_modify (n m : BitVec 32) (x : BitVec 8) : ∀ (l : List EntE) (i : Nat), l.findIdx? (isK n) = some i → ((l.modify i fun e => { e with x := x }).find? (isK m)).map (·.x) = if m = n then some x else (l.find? (isK m)).map (·.x)
  | [], i, h => by cases h
  | e :: l, i, h => by
    rw [List.findIdx?_cons] at h
    cases hn : isK n e <;> rw [hn] at h
    · simp only [Bool.false_eq_true, if_false, Option.map_eq_some_iff] at h
      obtain ⟨j, hj, rfl⟩ := h
      have ih := find_modify n m x l j hj
      rw [List.modify_succ_cons, List.find?_cons, List.find?_cons]
      cases hm : isK m e
      · exact ih
      · have hne : m ≠ n := fun q => by subst q; rw [hm] at hn; cases hn
        rw [if_neg hne]
    · simp only [if_true, Option.some.injEq] at h
      subst h
      have hk := isK_self.1 hn
      rw [List.modify_zero_cons, List.find?_cons, List.find?_cons]
      have e1 : isK m { e with x := x } = isK m e := rfl
      rw [e1]
      cases hm : isK m e
      · have hne : m ≠ n := fun q => by subst q; rw [hm] at hn; cases hn
        rw [if_neg hne]
      · have he := isK_self.1 hm
        rw [if_pos (he.symm.trans hk)]; rfl
theorem get_put (s : St) (n m : BitVec 32) (x : BitVec 8) : (s.put n x).get m = if m = n then some x else s.get m := by
  unfold St.put
  cases hf : s.es.findIdx? (isK n) with
  | some i => exact find_modify n m x s.es i hf
  | none =>
    have h0 := get_idx_none hf
    show ((s.es ++ [(⟨n, x, s.clk⟩ : EntE)]).find? (isK m)).map (fun e => e.x) = _
    rw [List.find?_append]
    by_cases hm : m = n
    · subst hm
      have h1 : s.es.find? (isK m) = none := by
        unfold St.get at h0
        rwa [Option.map_eq_none_iff] at h0
      rw [if_pos rfl, h1]
      have : isK m ⟨m, x, s.clk⟩ = true := isK_self.2 rfl
      simp [this]
    · rw [if_neg hm]
      have : isK m ⟨n, x, s.clk⟩ = false := by
        cases q : isK m ⟨n, x, s.clk⟩
        · rfl
        · exact absurd (isK_self.1 q).symm hm
      simp [St.get, this]
theorem find_erase (n m : BitVec 32) : ∀ (l : List EntE), (l.map (·.k)).Nodup → (l.eraseP (isK n)).find? (isK m) = if m = n then none else l.find? (isK m)
  | [], _ => by simp
  | e :: l, hd => by
    rw [List.map_cons, List.nodup_cons] at hd
    rw [List.eraseP_cons]
    cases hn : isK n e
    · simp only [cond_false]
      rw [List.find?_cons, List.find?_cons]
      cases hm : isK m e
      · exact find_erase n m l hd.2
      · have hne : m ≠ n := fun q => by subst q; rw [hm] at hn; cases hn
        rw [if_neg hne]
    · simp only [cond_true]
      have hk := isK_self.1 hn
      by_cases hm : m = n
      · subst hm
        rw [if_pos rfl, List.find?_eq_none]
        exact fun e' he' q => hd.1 (List.mem_map.2 ⟨e', he', (isK_self.1 q).trans hk.symm⟩)
      · rw [if_neg hm, List.find?_cons]
        have : isK m e = false := by
          cases q : isK m e
          · rfl
          · exact absurd ((isK_self.1 q).symm.trans hk) hm
        rw [this]
theorem get_del {s : St} (h : s.kd) (n m : BitVec 32) : (s.del n).get m = if m = n then none else s.get m := by
  show ((s.es.eraseP (isK n)).find? (isK m)).map (·.x) = _
  rw [find_erase n m s.es h]
  split <;> rfl
theorem kd_put {s : St} (h : s.kd) (n : BitVec 32) (x : BitVec 8) : (s.put n x).kd := by
  unfold St.put
  cases hf : s.es.findIdx? (isK n) with
  | some i =>
    show ((s.es.modify i fun e => { e with x := x }).map (·.k)).Nodup
    have : ∀ (l : List EntE) (i : Nat), (l.modify i fun e => { e with x := x }).map (·.k) = l.map (·.k) := by
      intro l
      induction l with
      | nil => intro i; simp
      | cons e l ih =>
        intro i
        cases i with
        | zero => simp
        | succ i => simp [ih i]
    rw [this]; exact h
  | none =>
    show ((s.es ++ [(⟨n, x, s.clk⟩ : EntE)]).map (fun e => e.k)).Nodup
    have h0 := get_none.1 (get_idx_none hf)
    rw [List.map_append, List.nodup_append]
    refine ⟨h, by simp, fun a ha b hb => ?_⟩
    obtain ⟨e, he, rfl⟩ := List.mem_map.1 ha
    have hb : b = n := by simpa using hb
    rw [hb]; exact h0 e he
theorem kd_del {s : St} (h : s.kd) (n : BitVec 32) : (s.del n).kd := by
  show ((s.es.eraseP (isK n)).map (·.k)).Nodup
  exact List.Nodup.sublist (List.Sublist.map _ (List.eraseP_sublist)) h
theorem kd_nil (x : Nat) : St.kd ⟨x, 0, [], false, none, .no⟩ := List.nodup_nil
theorem len_put (s : St) (n : BitVec 32) (x : BitVec 8) : (s.put n x).len = s.len + (if (s.get n).isSome = true then 0 else 1) := by
  unfold St.put St.len
  cases hf : s.es.findIdx? (isK n) with
  | some i =>
    have : (s.get n).isSome = true := by
      obtain ⟨h1, h2, -⟩ := List.findIdx?_eq_some_iff_getElem.1 hf
      cases q : s.get n with
      | some y => rfl
      | none => exact absurd (isK_self.1 h2) (get_none.1 q _ (List.getElem_mem h1))
    rw [if_pos this]
    simp
  | none =>
    rw [get_idx_none hf]
    simp
theorem len_del (s : St) (n : BitVec 32) : (s.del n).len = s.len - (if (s.get n).isSome = true then 1 else 0) := by
  show (s.es.eraseP (isK n)).length = s.es.length - _
  cases q : s.get n with
  | none =>
    rw [List.eraseP_of_forall_not (fun e he h => get_none.1 q e he (isK_self.1 h))]
    simp
  | some y =>
    have : ∃ e ∈ s.es, isK n e = true := by
      unfold St.get at q
      obtain ⟨e, he, -⟩ := Option.map_eq_some_iff.1 q
      exact ⟨e, List.mem_of_find?_eq_some he, List.find?_some he⟩
    obtain ⟨e, he, hk⟩ := this
    rw [List.length_eraseP_of_mem he hk]
    simp
theorem put_clk (s : St) (n : BitVec 32) (x : BitVec 8) : (s.put n x).it = s.it := by unfold St.put; split <;> rfl
end Go.Proofs.Ytkjfecdpakhggaa
