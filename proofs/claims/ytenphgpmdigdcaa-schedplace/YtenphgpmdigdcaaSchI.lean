/-
  The walk of Pick of package sched. No statement is proved here.
-/
import Derived.Test.YtenphgpmdigdcaaSchH
namespace Go.Proofs.Ytenphgpmdigdcaa
open Go.RowKit Go.BigFrame Go.MapKept
set_option linter.unusedVariables false
set_option linter.unusedSimpArgs false
set_option maxRecDepth 1000000
set_option maxHeartbeats 4000000

section
variable {w w' : World} {B sb mb : Nat} {vr vw : Value} {p now : Nat} {R W : List Tk} {X : Option Tk} {F : List Tk} {ts : List (Nat × Nat)}
theorem pick_nil (n : Int) (w : World) : Calls Try.prog 18 #[.pointer none, .int .u64 n] w fun e w' => e = .returned (.tuple #[.int .u32 0, .int .i64 1]) ∧ w' = w := by
  go_enter Try.func18, Try.ntmps18
  go_wp2_with (go_at_call 33; refine (none_nil _).mono ?_; rintro e w' ⟨rfl, rfl⟩)
  go_ret2
  exact ⟨rfl, rfl⟩
theorem pick_state {t : Tk} (h : SS w B sb p now R W (some t)) (n : Int) : Calls Try.prog 18 #[.pointer (some ⟨sb, 0, none⟩), .int .u64 n] w fun e w' => e = .returned (.tuple #[.int .u32 0, .int .i64 3]) ∧ w' = w := by
  obtain ⟨mb, vr, vw, ts, h⟩ := h
  have hp := h.num.1
  obtain ⟨c0, _, _, _, _, c5, _⟩ := h.cells
  simp only [xv, Option.map_some] at c5
  clear h
  go_enter Try.func18, Try.ntmps18
  go_wp2_with (go_at_call 33; refine (none_no sb p _ c0 hp).mono ?_; rintro e w' ⟨rfl, rfl⟩)
  go_ret2
  exact ⟨rfl, rfl⟩
theorem pick_none (h : SS w B sb p now [] W none) (n : Int) : Calls Try.prog 18 #[.pointer (some ⟨sb, 0, none⟩), .int .u64 n] w fun e w' => e = .returned (.tuple #[.int .u32 0, .int .i64 5]) ∧ w' = w := by
  obtain ⟨mb, vr, vw, ts, h⟩ := h
  have hp := h.num.1
  obtain ⟨c0, _, _, c3, _, c5, _⟩ := h.cells
  obtain ⟨pr, cr, rfl⟩ := ownsRow.form h.row
  simp only [List.map_nil, List.length_nil] at c3
  simp only [xv, Option.map_none] at c5
  clear h
  go_enter Try.func18, Try.ntmps18
  go_wp2_with (go_at_call 33; refine (none_no sb p _ c0 hp).mono ?_; rintro e w' ⟨rfl, rfl⟩)
  go_ret2
  exact ⟨rfl, rfl⟩
/-- Passed over once more. -/
def Tk.bump (t : Tk) : Tk := { t with pa := t.pa + 1 }
theorem TkAt.bump {t : Tk} (h : TkAt w t) : TkAt (w.setCell ⟨t.b, 3, none⟩ (.int .i64 ((t.pa : Int) + 1))) t.bump := by
  unfold TkAt at h ⊢
  simp [World.setCell, Array.getElem?_modify, h, Tk.bump, Tk.cells]
theorem TkAt.runs {t : Tk} (h : TkAt w t) : TkAt (w.setCell ⟨t.b, 1, none⟩ (.int .u8 2)) { t with st := 2 } := by
  unfold TkAt at h ⊢
  simp [World.setCell, Array.getElem?_modify, h, Tk.cells]
/-- A task of the row is written. -/
theorem SI.swap {P Q : List Tk} {t t' : Tk} (h : SI w B sb mb vr vw p now (P ++ t :: Q) W X F ts) (hF : Fr [t.b] w w') (ht : TkAt w' t') (hb : t'.b = t.b) (hi : t'.id = t.id) (hr : t'.qu < 4294967296 ∧ t'.un < 4611686018427387904) (hs : t'.st = 1) : SI w' B sb mb vr vw p now (P ++ t' :: Q) W X F ts := by
  have htm : t ∈ all (P ++ t :: Q) W X F := by simp [all]
  have hmid : ∀ u, (all (P ++ u :: Q) W X F).Perm (u :: all (P ++ Q) W X F) := fun u => by
    simp only [all, List.append_assoc, List.cons_append]
    exact List.perm_middle
  have hnob := ((List.Perm.map Tk.b (hmid t)).nodup_iff).1 h.nob
  rw [List.map_cons, List.nodup_cons] at hnob
  have hsub : ∀ u ∈ all (P ++ Q) W X F, u ∈ all (P ++ t :: Q) W X F := fun u hu => (hmid t).symm.subset (by simp [hu])
  have hm : ∀ u ∈ all (P ++ t' :: Q) W X F, u ∈ all (P ++ Q) W X F ∨ u = t' := fun u hu => by
    have := (hmid t').subset hu
    simp at this; exact this.symm
  have hoth : ∀ u ∈ all (P ++ Q) W X F, u.b ∉ [t.b] := fun u hu e => by
    simp at e
    exact hnob.1 (List.mem_map.2 ⟨u, hu, e⟩)
  have hT := h.tk t htm
  have hbl : (P ++ t' :: Q).map Tk.b = (P ++ t :: Q).map Tk.b := by simp [hb]
  have hrow' : Own w' B vr ((P ++ t' :: Q).map Tk.b) := by
    rw [hbl]
    exact h.row.fr hF (fun g hg => by obtain ⟨_, c, hc⟩ := h.row.blk g hg; simpa using blk_ne hc hT (by decide))
  refine ⟨hF.heap h.blk (by simpa using (blk_ne hT h.blk (by decide)).symm), hrow', h.wai.fr hF (fun g hg => ?_), h.apt, h.map.fr hF (by simpa using (h.map.ne hT).symm), fun u hu => ?_, ?_, ⟨h.low.1, h.low.2.1, fun u hu => ?_⟩, ?_, fun u hu => ?_, fun u hu => ?_, h.stW, h.stX, h.num.1, h.num.2.1, h.num.2.2.1, ?_⟩
  · obtain ⟨_, c, hc⟩ := h.wai.blk g hg; simpa using blk_ne hc hT (by decide)
  · rcases hm u hu with h1 | rfl
    · exact (h.tk u (hsub u h1)).fr hF (hoth u h1)
    · exact ht
  · have e : (all (P ++ t' :: Q) W X F).map (fun t => (t.id, t.b)) = (all (P ++ t :: Q) W X F).map (fun t => (t.id, t.b)) := by simp [all, hb, hi]
    rw [e]; exact h.per
  · rcases hm u hu with h1 | rfl
    · exact h.low.2.2 u (hsub u h1)
    · rw [hb]; exact h.low.2.2 t htm
  · have e : (all (P ++ t' :: Q) W X F).map Tk.id = (all (P ++ t :: Q) W X F).map Tk.id := by simp [all, hi]
    rw [e]; exact h.nod
  · rcases hm u hu with h1 | rfl
    · exact h.rng u (hsub u h1)
    · exact ⟨by rw [hi]; exact (h.rng t htm).1, hr⟩
  · rcases List.mem_append.1 hu with h1 | h1
    · exact h.stR u (by simp [h1])
    · rcases List.mem_cons.1 h1 with rfl | h1
      · exact hs
      · exact h.stR u (by simp [h1])
  · have := h.num.2.2.2
    simpa [all] using this
/-- A task is taken out of the row. -/
theorem SI.cut {g cap cap' n k : Nat} {W2 : World} (h : SI w B sb mb (.slice (some ⟨g, 0, none⟩) n cap) vw p now R W X [] ts) (hk : k < R.length) (h1 : Own W2 B (.slice (some ⟨g, 0, none⟩) (n - 1) cap) ((R.map Tk.b).eraseIdx k)) (hF : Fr [g] w W2) :
    SI (W2.setCell ⟨sb, 3, none⟩ (.slice (some ⟨g, 0, none⟩) (n - 1) cap)) B sb mb (.slice (some ⟨g, 0, none⟩) (n - 1) cap) vw p now (R.eraseIdx k) W X [R[k]] ts ∧ Kq B w (W2.setCell ⟨sb, 3, none⟩ (.slice (some ⟨g, 0, none⟩) (n - 1) cap)) := by
  obtain ⟨hgB, cg, hcg⟩ := h.row.blk g rfl
  have hgs := blk_ne hcg h.blk (by decide)
  have hF5 : Fr [sb] W2 (W2.setCell ⟨sb, 3, none⟩ (.slice (some ⟨g, 0, none⟩) (n - 1) cap)) := (Fr.refl _ _).setCell (by simp) _
  have hT2 : Fr [sb, g] w (W2.setCell ⟨sb, 3, none⟩ (.slice (some ⟨g, 0, none⟩) (n - 1) cap)) := (hF.mono (by simp)).trans hF5 (fun t ht => .inl (by simp at ht; simp [ht]))
  have hP : (all (R.eraseIdx k) W X [R[k]]).Perm (all R W X []) := by
    have hsp : R = R.take k ++ R[k] :: R.drop (k + 1) := by rw [← List.drop_eq_getElem_cons hk, List.take_append_drop]
    have he : R.eraseIdx k = R.take k ++ R.drop (k + 1) := List.eraseIdx_eq_take_drop_succ ..
    rw [he]
    conv => rhs; rw [hsp]
    simp only [all, List.append_nil, List.append_assoc, List.cons_append]
    refine List.Perm.append_left _ ?_
    have := List.perm_append_comm (l₁ := List.drop (k + 1) R ++ (W ++ X.toList)) (l₂ := [R[k]])
    simpa using this
  have hb2 := hF.heap h.blk (by simpa using hgs.symm)
  refine ⟨⟨by simp [World.setCell, Array.getElem?_modify, hb2], ?_, (h.wai.fr hT2 (fun g' hg' => ?_)), h.apt, h.map.fr hT2 ?_, fun u hu => ?_, h.per.trans (List.Perm.map _ hP).symm, ⟨h.low.1, h.low.2.1, fun u hu => h.low.2.2 u (hP.subset hu)⟩, ((List.Perm.map _ hP).nodup_iff).2 h.nod, fun u hu => h.rng u (hP.subset hu), fun u hu => h.stR u (List.mem_of_mem_eraseIdx hu), h.stW, h.stX, h.num.1, h.num.2.1, h.num.2.2.1, by rw [hP.length_eq]; exact h.num.2.2.2⟩, hT2.kq (fun t ht => ?_)⟩
  · have e : (R.eraseIdx k).map Tk.b = (R.map Tk.b).eraseIdx k := map_erase _ _ _
    rw [e]
    exact h1.fr hF5 (fun g' hg' => by cases hg'; simpa using hgs)
  · obtain ⟨_, c, hc⟩ := h.wai.blk g' hg'
    simp only [List.mem_cons, List.not_mem_nil, or_false, not_or]
    exact ⟨blk_ne hc h.blk (by decide), fun e => h.apt g rfl (by rw [← e]; exact hg')⟩
  · simp only [List.mem_cons, List.not_mem_nil, or_false, not_or]
    exact ⟨(h.map.ne h.blk).symm, (h.map.ne hcg).symm⟩
  · have hT := h.tk u (hP.subset hu)
    refine hT.fr hT2 ?_
    simp only [List.mem_cons, List.not_mem_nil, or_false, not_or]
    exact ⟨blk_ne hT h.blk (by decide), blk_ne hT hcg (by decide)⟩
  · simp at ht
    rcases ht with rfl | rfl
    · exact h.sob.1
    · exact h.sob.2.2.1 _ rfl
/-- A task under way runs. -/
theorem SI.start {t : Tk} (h : SI w B sb mb vr vw p now R W none [t] ts) (hst : t.st = 2) : SI (w.setCell ⟨sb, 5, none⟩ (.pointer (some ⟨t.b, 0, none⟩))) B sb mb vr vw p now R W (some t) [] ts := by
  have hF : Fr [sb] w (w.setCell ⟨sb, 5, none⟩ (.pointer (some ⟨t.b, 0, none⟩))) := (Fr.refl _ _).setCell (by simp) _
  have hall : all R W (some t) [] = all R W none [t] := by simp [all]
  refine ⟨?_, h.row.fr hF (fun g hg => ?_), h.wai.fr hF (fun g hg => ?_), h.apt, h.map.fr hF (by simpa using (h.map.ne h.blk).symm), fun u hu => ?_, hall ▸ h.per, ⟨h.low.1, h.low.2.1, hall ▸ h.low.2.2⟩, hall ▸ h.nod, hall ▸ h.rng, h.stR, h.stW, fun u hu => ?_, hall ▸ h.num⟩
  · simp [World.setCell, Array.getElem?_modify, h.blk, xv]
  · obtain ⟨_, c, hc⟩ := h.row.blk g hg; simpa using blk_ne hc h.blk (by decide)
  · obtain ⟨_, c, hc⟩ := h.wai.blk g hg; simpa using blk_ne hc h.blk (by decide)
  · have := h.tk u (hall ▸ hu); exact this.fr hF (by simpa using blk_ne this h.blk (by decide))
  · simp at hu; subst hu; exact hst
end
end Go.Proofs.Ytenphgpmdigdcaa
