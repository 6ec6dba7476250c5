/-
  What stands of the tasks while the statement SchedFair plays its script: plain facts on lists. No statement is proved here.
-/
import Derived.Test.YtenphgpmdigdcaaOpens
namespace Go.Proofs.Ytenphgpmdigdcaa
open Go.RowKit Go.BigFrame Go.MapKept
set_option linter.unusedVariables false
set_option linter.unusedSimpArgs false
set_option maxRecDepth 1000000
set_option maxHeartbeats 4000000

/-- Of those that are ready, each was passed over so often that it comes in time; how many picks ago it became ready is told by S, to one. -/
structure MI (p n : Nat) (R W : List Tk) (S : List Nat) : Prop where
  idr : ∀ t ∈ R ++ W, t.id < n
  len : R.length + W.length = n
  bnd : ∀ i (h : i < R.length), R[i].pa + i + 1 ≤ p + n
  paS : ∀ t ∈ R, S.getD t.id 0 ≤ t.pa + 1
  paW : ∀ t ∈ W, S.getD t.id 0 ≤ 1
  sl : S.length = n
def FI (p n : Nat) (R W : List Tk) (S : List Nat) : Prop := MI p n R W S ∧ ∀ t ∈ W, S.getD t.id 0 = 0
theorem MI.le {p n : Nat} {R W : List Tk} {S : List Nat} (h : MI p n R W S) (t : Tk) (ht : t ∈ R) : S.getD t.id 0 ≤ p + n := by
  obtain ⟨i, hi, rfl⟩ := List.mem_iff_getElem.1 ht
  have := h.bnd i hi
  have := h.paS _ ht
  omega
/-- Those that wake. -/
theorem MI.woken {p n : Nat} {R W : List Tk} {S : List Nat} {A Z : List Tk} (h : MI p n R W S) (hP : (Z ++ A).Perm W) (why : Int) : MI p n (R ++ A.map (Tk.rd why)) Z S := by
  have hl := hP.length_eq
  rw [List.length_append] at hl
  have hn := h.len
  refine ⟨fun t ht => ?_, by simp; omega, fun i hi => ?_, fun t ht => ?_, fun t ht => h.paW t (hP.subset (by simp [ht])), h.sl⟩
  · simp only [List.mem_append, List.mem_map] at ht
    rcases ht with (h1 | ⟨u, hu, rfl⟩) | h1
    · exact h.idr t (by simp [h1])
    · exact h.idr u (by simp [hP.subset (by simp [hu] : u ∈ Z ++ A)])
    · exact h.idr t (by simp [hP.subset (by simp [h1] : t ∈ Z ++ A)])
  · rcases Nat.lt_or_ge i R.length with h1 | h1
    · rw [List.getElem_append_left h1]; exact h.bnd i h1
    · rw [List.getElem_append_right h1]
      simp only [List.getElem_map, Tk.rd]
      simp at hi
      omega
  · rcases List.mem_append.1 ht with h1 | h1
    · exact h.paS t h1
    · obtain ⟨u, hu, rfl⟩ := List.mem_map.1 h1
      have := h.paW u (hP.subset (by simp [hu]))
      simpa [Tk.rd] using this
def incs (S : List Nat) (i : Nat) : List Nat := (S.take i).map (· + 1) ++ S.drop i
theorem incs_length (S : List Nat) (i : Nat) : (incs S i).length = S.length := by simp [incs]; omega
theorem incs_succ (S : List Nat) (i : Nat) (h : i < S.length) : incs S (i + 1) = (incs S i).set i (S[i] + 1) ∧ (incs S i)[i]? = some S[i] := by
  have e : incs S i = (S.take i).map (· + 1) ++ S[i] :: S.drop (i + 1) := by unfold incs; rw [List.drop_eq_getElem_cons h]
  have hl : ((S.take i).map (· + 1)).length = i := by simp; omega
  refine ⟨?_, ?_⟩
  · rw [e, List.set_append_right _ _ (by omega), hl, Nat.sub_self, List.set_cons_zero]
    unfold incs
    rw [List.take_succ_eq_append_getElem h, List.map_append, List.append_assoc]
    rfl
  · rw [e, List.getElem?_append_right (by omega), hl, Nat.sub_self]
    rfl
theorem incs_get (S : List Nat) (k : Nat) : (incs S S.length).getD k 0 = if k < S.length then S.getD k 0 + 1 else 0 := by
  unfold incs
  simp only [List.take_length, List.drop_length, List.append_nil]
  by_cases h : k < S.length
  · simp [h]
  · simp [h]
theorem set_get (S : List Nat) (i v k : Nat) : (S.set i v).getD k 0 = if i = k ∧ i < S.length then v else S.getD k 0 := by
  simp only [List.getD_eq_getElem?_getD, List.getElem?_set]
  by_cases h : i = k
  · subst h
    by_cases h2 : i < S.length
    · simp [h2]
    · simp [h2]
  · simp [h]
theorem upd_le (S : List Nat) (n i k : Nat) (hs : S.length = n) (hk : k < n) : ((incs S S.length).set i 0).getD k 0 ≤ S.getD k 0 + 1 := by
  rw [set_get, incs_get]
  split
  · omega
  · rw [if_pos (by omega)]; exact Nat.le_refl _
/-- What a pick leaves of the row; the one that is picked is away. -/
theorem FI.picked {p n nn k : Nat} {R W : List Tk} {S : List Nat} (h : FI p n R W S) (hN : (R ++ W).map Tk.id |>.Nodup) (hT : Turn p R nn k) (hk : k < R.length) :
    (∀ t ∈ (R.eraseIdx k).map Tk.bump, t.id < n ∧ ((incs S S.length).set R[k].id 0).getD t.id 0 ≤ t.pa + 1) ∧ (∀ i (hi : i < ((R.eraseIdx k).map Tk.bump).length), ((R.eraseIdx k).map Tk.bump)[i].pa + i + 1 ≤ p + n) ∧
      (∀ t ∈ W, t.id < n ∧ ((incs S S.length).set R[k].id 0).getD t.id 0 ≤ 1) ∧ R[k].id < n ∧ ((R.eraseIdx k).map Tk.bump).length + 1 + W.length = n ∧ ((incs S S.length).set R[k].id 0).length = n ∧ ((incs S S.length).set R[k].id 0).getD R[k].id 0 = 0 := by
  have hm := h.1
  have hidk := hm.idr R[k] (by simp)
  have hlen : (R.eraseIdx k).length = R.length - 1 := by rw [List.length_eraseIdx, if_pos hk]
  refine ⟨fun t ht => ?_, fun i hi => ?_, fun t ht => ?_, hidk, ?_, by rw [List.length_set, incs_length]; exact hm.sl, ?_⟩
  · obtain ⟨u, hu, rfl⟩ := List.mem_map.1 ht
    have huR := List.mem_of_mem_eraseIdx hu
    have h1 := hm.idr u (by simp [huR])
    have h2 := hm.paS u huR
    refine ⟨h1, ?_⟩
    have h3 := upd_le S n R[k].id u.id hm.sl h1
    show ((incs S S.length).set R[k].id 0).getD u.id 0 ≤ u.pa + 1 + 1
    omega
  · simp only [List.length_map] at hi
    simp only [List.getElem_map, Tk.bump]
    rw [hlen] at hi
    rcases Nat.lt_or_ge i k with h1 | h1
    · rw [List.getElem_eraseIdx_of_lt (h' := h1)]
      have hR : R.length ≤ n := by have := hm.len; omega
      have hpa : R[i].pa < p := by
        rcases hT.2 with ⟨_, _, h3⟩ | h3
        · exact h3 i (by omega) h1
        · exact h3.1 _ (List.getElem_mem _)
      omega
    · rw [List.getElem_eraseIdx_of_ge (h' := h1)]
      have := hm.bnd (i + 1) (by omega)
      omega
  · have h1 := hm.idr t (by simp [ht])
    have h2 := h.2 t ht
    refine ⟨h1, ?_⟩
    have h3 := upd_le S n R[k].id t.id hm.sl h1
    omega
  · rw [List.length_map, hlen]; have := hm.len; omega
  · rw [set_get, incs_length, hm.sl]; simp [hidk]
theorem FI.yields {p n nn k : Nat} {R W : List Tk} {S : List Nat} (h : FI p n R W S) (hN : (R ++ W).map Tk.id |>.Nodup) (hT : Turn p R nn k) (hk : k < R.length) (hp : 1 ≤ p) (t : Tk) (ht : t.id = R[k].id) (hpa : t.pa = 0) :
    MI p n ((R.eraseIdx k).map Tk.bump ++ [t]) W ((incs S S.length).set R[k].id 0) := by
  obtain ⟨h1, h2, h3, h4, h5, h6, h7⟩ := h.picked hN hT hk
  refine ⟨fun u hu => ?_, by simp only [List.length_append, List.length_singleton]; omega, fun i hi => ?_, fun u hu => ?_, fun u hu => (h3 u hu).2, h6⟩
  · simp only [List.mem_append, List.mem_singleton] at hu
    rcases hu with (h8 | rfl) | h8
    · exact (h1 u h8).1
    · rw [ht]; exact h4
    · exact (h3 u h8).1
  · rcases Nat.lt_or_ge i ((R.eraseIdx k).map Tk.bump).length with h8 | h8
    · rw [List.getElem_append_left h8]; exact h2 i h8
    · rw [List.getElem_append_right h8]
      simp only [List.getElem_singleton, hpa]
      simp only [List.length_append, List.length_singleton] at hi
      omega
  · simp only [List.mem_append, List.mem_singleton] at hu
    rcases hu with h8 | rfl
    · exact (h1 u h8).2
    · rw [ht, h7]; omega
theorem FI.waits {p n nn k : Nat} {R W : List Tk} {S : List Nat} (h : FI p n R W S) (hN : (R ++ W).map Tk.id |>.Nodup) (hT : Turn p R nn k) (hk : k < R.length) (t : Tk) (ht : t.id = R[k].id) :
    MI p n ((R.eraseIdx k).map Tk.bump) (W ++ [t]) ((incs S S.length).set R[k].id 0) := by
  obtain ⟨h1, h2, h3, h4, h5, h6, h7⟩ := h.picked hN hT hk
  refine ⟨fun u hu => ?_, by simp only [List.length_append, List.length_singleton]; omega, h2, fun u hu => (h1 u hu).2, fun u hu => ?_, h6⟩
  · simp only [List.mem_append, List.mem_singleton] at hu
    rcases hu with h8 | h8 | rfl
    · exact (h1 u h8).1
    · exact (h3 u h8).1
    · rw [ht]; exact h4
  · simp only [List.mem_append, List.mem_singleton] at hu
    rcases hu with h8 | rfl
    · exact (h3 u h8).2
    · rw [ht, h7]; omega
end Go.Proofs.Ytenphgpmdigdcaa
