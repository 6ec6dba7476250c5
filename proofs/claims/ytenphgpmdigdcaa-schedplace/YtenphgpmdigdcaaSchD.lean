/-
  The walks of Yield and End of package sched. No statement is proved here.
-/
import Derived.Test.YtenphgpmdigdcaaSchC
namespace Go.Proofs.Ytenphgpmdigdcaa
open Go.RowKit Go.BigFrame Go.MapKept
set_option linter.unusedVariables false
set_option linter.unusedSimpArgs false
set_option maxRecDepth 1000000
set_option maxHeartbeats 4000000

section
variable {w w' : World} {B sb mb : Nat} {vr vw : Value} {p now : Nat} {R W : List Tk} {X : Option Tk} {F : List Tk} {ts : List (Nat × Nat)}
/-- Who ran stands nowhere now. -/
theorem SI.stopped {t : Tk} (h : SI w B sb mb vr vw p now R W (some t) [] ts) : SI (w.setCell ⟨sb, 5, none⟩ (.pointer none)) B sb mb vr vw p now R W none [t] ts := by
  have hF : Fr [sb] w (w.setCell ⟨sb, 5, none⟩ (.pointer none)) := (Fr.refl _ _).setCell (by simp) _
  have hall : all R W none [t] = all R W (some t) [] := by simp [all]
  refine ⟨?_, h.row.fr hF (fun g hg => ?_), h.wai.fr hF (fun g hg => ?_), h.apt, h.map.fr hF (by simpa using (h.map.ne h.blk).symm), fun u hu => ?_, hall ▸ h.per, ⟨h.low.1, h.low.2.1, hall ▸ h.low.2.2⟩, hall ▸ h.nod, hall ▸ h.rng, h.stR, h.stW, by simp, hall ▸ h.num⟩
  · simp [World.setCell, Array.getElem?_modify, h.blk, xv]
  · obtain ⟨_, c, hc⟩ := h.row.blk g hg; simpa using blk_ne hc h.blk (by decide)
  · obtain ⟨_, c, hc⟩ := h.wai.blk g hg; simpa using blk_ne hc h.blk (by decide)
  · have := h.tk u (hall ▸ hu); exact this.fr hF (by simpa using blk_ne this h.blk (by decide))
theorem SI.kqStop (h : SI w B sb mb vr vw p now R W X F ts) (v : Value) (o : Nat) : Kq B w (w.setCell ⟨sb, o, none⟩ v) :=
  ((Fr.refl [sb] _).setCell (by simp) _).kq (fun k hk => by simp at hk; subst hk; exact h.sob.1)
theorem yield_nil (w : World) : Calls Try.prog 21 #[.pointer none] w fun e w' => e = .returned (.int .i64 1) ∧ w' = w := by
  go_enter Try.func21, Try.ntmps21
  go_wp2_with (go_at_call 43; refine (refused_nil _).mono ?_; rintro e w' ⟨rfl, rfl⟩)
  go_ret
  exact ⟨rfl, rfl⟩
theorem yield_no (h : SS w B sb p now R W none) : Calls Try.prog 21 #[.pointer (some ⟨sb, 0, none⟩)] w fun e w' => e = .returned (.int .i64 3) ∧ w' = w := by
  obtain ⟨mb, vr, vw, ts, h⟩ := h
  have H := hid (p := _) (refused_any h)
  clear h
  go_enter Try.func21, Try.ntmps21
  go_wp2_with (go_at_call 43; refine H.out.mono ?_; rintro e w' ⟨rfl, rfl⟩)
  go_ret
  exact ⟨rfl, rfl⟩
theorem yield_ok {t : Tk} (h : SS w B sb p now R W (some t)) : Calls Try.prog 21 #[.pointer (some ⟨sb, 0, none⟩)] w fun e w' => e = .returned (.int .i64 0) ∧ SS w' B sb p now (R ++ [t.rd 0]) W none ∧ Kq B w w' := by
  obtain ⟨mb, vr, vw, ts, h⟩ := h
  have H := hid (p := _) (refused_any h)
  have H44 := hid (p := _) (stop_any h)
  have h1 := h.stopped
  have H3 := hid (p := _) (h1.fr0 ((Fr.refl _ _).alloc (.cells #[.pointer (some ⟨t.b, 0, none⟩)] 61)))
  have HA := hid (p := _) (arg_one (w.setCell ⟨sb, 5, none⟩ (.pointer none)) t.b)
  rw [show (w.setCell ⟨sb, 5, none⟩ (.pointer none)).heap.size = w.heap.size from by simp [World.setCell]] at HA
  have HK := hid (p := _) ((h.kqStop (.pointer none) 5).trans (((Fr.refl _ (w.setCell ⟨sb, 5, none⟩ (.pointer none))).alloc (.cells #[.pointer (some ⟨t.b, 0, none⟩)] 61)).kq0 (B := B)))
  clear h h1
  go_enter Try.func21, Try.ntmps21
  go_wp2_with (first | (go_at_call 43; refine H.out.mono ?_; rintro e w' ⟨rfl, rfl⟩) | (go_at_call 44; refine H44.out.mono ?_; rintro e w' ⟨rfl, rfl⟩) | (go_at_call 36; refine (ready_si H3.out _ 0 HA.out).mono ?_; rintro e w5 ⟨rfl, q1, q2⟩))
  go_ret
  exact ⟨rfl, q1, HK.out.trans q2⟩
theorem end_nil (w : World) : Calls Try.prog 24 #[.pointer none] w fun e w' => e = .returned (.int .i64 1) ∧ w' = w := by
  go_enter Try.func24, Try.ntmps24
  go_wp2_with (go_at_call 43; refine (refused_nil _).mono ?_; rintro e w' ⟨rfl, rfl⟩)
  go_ret
  exact ⟨rfl, rfl⟩
theorem end_no (h : SS w B sb p now R W none) : Calls Try.prog 24 #[.pointer (some ⟨sb, 0, none⟩)] w fun e w' => e = .returned (.int .i64 3) ∧ w' = w := by
  obtain ⟨mb, vr, vw, ts, h⟩ := h
  have H := hid (p := _) (refused_any h)
  clear h
  go_enter Try.func24, Try.ntmps24
  go_wp2_with (go_at_call 43; refine H.out.mono ?_; rintro e w' ⟨rfl, rfl⟩)
  go_ret
  exact ⟨rfl, rfl⟩
theorem SI.ended {t : Tk} (h : SI w B sb mb vr vw p now R W none [t] ts) : ∃ w2, (∀ ty, (Builtin.delete_ #[59, 35] ty #[.map (some mb), .int .u32 (t.id : Nat)]).run Try.prog w = .ok (.tuple #[]) w2) ∧ SS w2 B sb p now R W none ∧ Kq B w w2 ∧ Fr [mb] w w2 := by
  have htm : t ∈ all R W none [t] := by simp [all]
  obtain ⟨ps, qs, e, h1, h2⟩ := h.split htm
  obtain ⟨w2, hd, hM, hF⟩ := del_map (c := (t.id, t.b)) (e ▸ h.map) h1 0
  have hall : all R W none [t] = all R W none [] ++ [t] := by simp [all]
  have hnew : ∀ ty, (Builtin.delete_ #[59, 35] ty #[.map (some mb), .int .u32 (t.id : Nat)]).run Try.prog w = .ok (.tuple #[]) w2 := fun ty => hd
  have hsub : ∀ u ∈ all R W none [], u ∈ all R W none [t] := fun u hu => by rw [hall]; simp [hu]
  refine ⟨w2, hnew, ⟨mb, vr, vw, ps ++ qs, hF.heap h.blk (by simpa using h.map.ne h.blk), h.row.fr hF (fun g hg => ?_), h.wai.fr hF (fun g hg => ?_), h.apt, hM, fun u hu => ?_, ?_, ⟨h.low.1, h.low.2.1, fun u hu => h.low.2.2 u (hsub u hu)⟩, ?_, fun u hu => h.rng u (hsub u hu), h.stR, h.stW, by simp, h.num.1, h.num.2.1, h.num.2.2.1, ?_⟩, hF.kq (fun k hk => by simp at hk; subst hk; exact h.sob.2.1), hF⟩
  · obtain ⟨_, c, hc⟩ := h.row.blk g hg; simpa using h.map.ne hc
  · obtain ⟨_, c, hc⟩ := h.wai.blk g hg; simpa using h.map.ne hc
  · have := h.tk u (hsub u hu); exact this.fr hF (by simpa using h.map.ne this)
  · refine h2.trans ?_
    rw [hall, List.map_append]
    have hn : (t.id, t.b) ∉ (all R W none []).map fun t => (t.id, t.b) := fun hm => by
      obtain ⟨u, hu, e⟩ := List.mem_map.1 hm
      have hnod := h.nod
      rw [hall, List.map_append] at hnod
      exact (List.nodup_append.1 hnod).2.2 u.id (List.mem_map.2 ⟨u, hu, rfl⟩) t.id (by simp) (by simpa using congrArg Prod.fst e)
    rw [List.erase_append_right _ hn]
    simp
  · have hnod := h.nod
    rw [hall, List.map_append] at hnod
    exact (List.nodup_append.1 hnod).1
  · have := h.num.2.2.2
    rw [hall] at this; simp at this; omega
theorem end_ok {t : Tk} (h : SS w B sb p now R W (some t)) : Calls Try.prog 24 #[.pointer (some ⟨sb, 0, none⟩)] w fun e w' => e = .returned (.int .i64 0) ∧ SS w' B sb p now R W none ∧ Kq B w w' := by
  obtain ⟨mb, vr, vw, ts, h⟩ := h
  have H := hid (p := _) (refused_any h)
  have hD := h.fr0 (Fr.refl [] w).drew
  have H44 := hid (p := _) (stop_any hD)
  obtain ⟨w2, hdel, q1, q2, q3⟩ := hD.stopped.ended
  have HSl := hid (p := _) (And.intro (q3.cell hD.stopped.cells.2.2.1 (by simpa using hD.stopped.map.ne hD.stopped.blk)) (q3.cell (hD.stopped.tk t (by simp [all])).cells.1 (by simpa using hD.stopped.map.ne (hD.stopped.tk t (by simp [all])))))
  have hdel : (Builtin.delete_ #[59, 35] 0 #[.map (some mb), .int .u32 (t.id : Nat)]).run Try.prog ((w.setCell ⟨sb, 5, none⟩ (.pointer none)).drew) = .ok (.tuple #[]) w2 := hdel 0
  have HSk := hid (p := _) (And.intro hD.stopped.cells.2.2.1 (show (w.drew.setCell ⟨sb, 5, none⟩ (.pointer none)).cell? ⟨t.b, 0, none⟩ = some (.int .u32 (t.id : Nat)) from (hD.stopped.tk t (by simp [all])).cells.1))
  have HQ := hid (p := _) (And.intro q1 (((Kq.refl B w).drew.trans (hD.kqStop (.pointer none) 5)).trans q2))
  obtain ⟨_, _, c2, _, _, c5, fz⟩ := h.cells
  have htm : t ∈ all R W (some t) [] := by simp [all]
  obtain ⟨k0, _⟩ := (h.tk t htm).cells
  have hne := blk_ne (h.tk t htm) h.blk (by decide)
  have hne' := hne.symm
  clear h q1 q2 q3 hD
  generalize t.b = tb at *
  generalize t.id = ti at *
  go_enter Try.func24, Try.ntmps24
  go_wp2_with (go_at_call 43; refine H.out.mono ?_; rintro e w' ⟨rfl, rfl⟩)
  go_region_held (fun W => W.cell? ⟨sb, 2, none⟩ = some (.map (some mb)) ∧ W.cell? ⟨tb, 0, none⟩ = some (.int .u32 (ti : Nat))) (first | exact HSk.out | exact HSl.out | (go_keep; done))
    (first | (go_at_call 44; refine H44.out.mono ?_; rintro e w5 ⟨rfl, rfl⟩))
  go_wp2
  go_ret
  exact ⟨rfl, HQ.out.1, HQ.out.2⟩
end
end Go.Proofs.Ytenphgpmdigdcaa
