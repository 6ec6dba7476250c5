/-
  The walks of State, Why, Now, Spawn, Yield, End of package sched. No statement is proved here.
-/
import Derived.Test.YtenphgpmdigdcaaSchB
namespace Go.Proofs.Ytenphgpmdigdcaa
open Go.RowKit Go.BigFrame Go.MapKept
set_option linter.unusedVariables false
set_option linter.unusedSimpArgs false
set_option maxRecDepth 1000000
set_option maxHeartbeats 4000000

section
variable {w w' : World} {B sb mb : Nat} {vr vw : Value} {p now : Nat} {R W : List Tk} {X : Option Tk} {F : List Tk} {ts : List (Nat × Nat)}
theorem SI.split (h : SI w B sb mb vr vw p now R W X F ts) {t : Tk} (ht : t ∈ all R W X F) : ∃ ps qs, ts = ps ++ (t.id, t.b) :: qs ∧ (∀ a ∈ ps, a.1 ≠ t.id) ∧ (ps ++ qs).Perm (((all R W X F).map fun t => (t.id, t.b)).erase (t.id, t.b)) := by
  have hm : (t.id, t.b) ∈ ts := h.per.symm.subset (List.mem_map.2 ⟨t, ht, rfl⟩)
  obtain ⟨ps, qs, e⟩ := List.append_of_mem hm
  have hn : (ts.map Prod.fst).Nodup := by
    have := (List.Perm.map Prod.fst h.per).nodup_iff
    rw [this]
    simpa [Function.comp_def] using h.nod
  have hne : ∀ a ∈ ps, a.1 ≠ t.id := fun a ha e2 => by
    rw [e] at hn
    simp only [List.map_append, List.map_cons] at hn
    exact (List.nodup_append.1 hn).2.2 _ (List.mem_map.2 ⟨a, ha, rfl⟩) t.id (by simp) e2
  refine ⟨ps, qs, e, hne, ?_⟩
  have hp := h.per.erase (t.id, t.b)
  rw [e, List.erase_append_right _ (fun hmm => hne _ hmm rfl)] at hp
  simpa using hp
theorem SI.look_yes (h : SI w B sb mb vr vw p now R W X F ts) {t : Tk} (ht : t ∈ all R W X F) : (Instr.lookup 59 (.map (some mb)) (.int .u32 (t.id : Nat)) false).run Try.prog w = .ok (.pointer (some ⟨t.b, 0, none⟩)) w := by
  obtain ⟨ps, qs, e, h1, _⟩ := h.split ht
  exact Ytenphgpmdigdcaa.look_yes (c := (t.id, t.b)) (e ▸ h.map) h1
theorem SI.look_no (h : SI w B sb mb vr vw p now R W X F ts) {id : Nat} (hn : ∀ t ∈ all R W X F, t.id ≠ id) : (Instr.lookup 59 (.map (some mb)) (.int .u32 (id : Nat)) false).run Try.prog w = .ok (.pointer none) w :=
  Ytenphgpmdigdcaa.look_no h.map id (fun c hc => by
    obtain ⟨t, ht, e⟩ := List.mem_map.1 (h.per.subset hc)
    rw [← e]; exact hn t ht)
/-- The task of a number. -/
def fnd (l : List Tk) (id : Nat) : Option Tk := l.find? fun t => t.id == id
theorem fnd_some {l : List Tk} {id : Nat} {t : Tk} (h : fnd l id = some t) : t ∈ l ∧ t.id = id := ⟨List.mem_of_find?_eq_some h, by simpa using List.find?_some h⟩
theorem fnd_none {l : List Tk} {id : Nat} (h : fnd l id = none) : ∀ t ∈ l, t.id ≠ id := fun t ht => by simpa using List.find?_eq_none.1 h t ht
theorem state_nil (id : Int) (w : World) : Calls Try.prog 23 #[.pointer none, .int .u32 id] w fun e w' => e = .returned (.int .u8 0) ∧ w' = w := by
  go_enter Try.func23, Try.ntmps23
  go_wp2_with (go_at_call 33; refine (none_nil _).mono ?_; rintro e w' ⟨rfl, rfl⟩)
  go_ret
  exact ⟨rfl, rfl⟩
theorem state_any (h : SS w B sb p now R W X) (id : Nat) : Calls Try.prog 23 #[.pointer (some ⟨sb, 0, none⟩), .int .u32 (id : Nat)] w fun e w' => e = .returned (.int .u8 ((fnd (all R W X []) id).elim 0 Tk.st : Nat)) ∧ w' = w := by
  obtain ⟨mb, vr, vw, ts, h⟩ := h
  have hp := h.num.1
  obtain ⟨c0, _, c2, _, _, _, _⟩ := h.cells
  cases hf : fnd (all R W X []) id with
  | none =>
    have hL := h.look_no (fnd_none hf)
    clear h hf
    go_enter Try.func23, Try.ntmps23
    go_wp2_with (go_at_call 33; refine (none_no sb p _ c0 hp).mono ?_; rintro e w' ⟨rfl, rfl⟩)
    go_ret
    exact ⟨rfl, rfl⟩
  | some t =>
    obtain ⟨ht, rfl⟩ := fnd_some hf
    have hL := h.look_yes ht
    obtain ⟨k0, k1, _⟩ := (h.tk t ht).cells
    clear h hf
    go_enter Try.func23, Try.ntmps23
    go_wp2_with (go_at_call 33; refine (none_no sb p _ c0 hp).mono ?_; rintro e w' ⟨rfl, rfl⟩)
    go_ret
    exact ⟨rfl, rfl⟩
theorem why_nil (id : Int) (w : World) : Calls Try.prog 25 #[.pointer none, .int .u32 id] w fun e w' => e = .returned (.int .i64 1) ∧ w' = w := by
  go_enter Try.func25, Try.ntmps25
  go_wp2_with (go_at_call 33; refine (none_nil _).mono ?_; rintro e w' ⟨rfl, rfl⟩)
  go_ret
  exact ⟨rfl, rfl⟩
theorem why_any (h : SS w B sb p now R W X) (id : Nat) : Calls Try.prog 25 #[.pointer (some ⟨sb, 0, none⟩), .int .u32 (id : Nat)] w fun e w' => e = .returned (.int .i64 ((fnd (all R W X []) id).elim 5 Tk.why)) ∧ w' = w := by
  obtain ⟨mb, vr, vw, ts, h⟩ := h
  have hp := h.num.1
  obtain ⟨c0, _, c2, _, _, _, _⟩ := h.cells
  cases hf : fnd (all R W X []) id with
  | none =>
    have hL := h.look_no (fnd_none hf)
    clear h hf
    go_enter Try.func25, Try.ntmps25
    go_wp2_with (go_at_call 33; refine (none_no sb p _ c0 hp).mono ?_; rintro e w' ⟨rfl, rfl⟩)
    go_ret
    exact ⟨rfl, rfl⟩
  | some t =>
    obtain ⟨ht, rfl⟩ := fnd_some hf
    have hL := h.look_yes ht
    obtain ⟨k0, k1, k2, _⟩ := (h.tk t ht).cells
    clear h hf
    go_enter Try.func25, Try.ntmps25
    go_wp2_with (go_at_call 33; refine (none_no sb p _ c0 hp).mono ?_; rintro e w' ⟨rfl, rfl⟩)
    go_ret
    exact ⟨rfl, rfl⟩
theorem now_nil (w : World) : Calls Try.prog 13 #[.pointer none] w fun e w' => e = .returned (.int .u64 0) ∧ w' = w := by
  go_enter Try.func13, Try.ntmps13
  go_wp2_with (go_at_call 33; refine (none_nil _).mono ?_; rintro e w' ⟨rfl, rfl⟩)
  go_ret
  exact ⟨rfl, rfl⟩
theorem now_any (h : SS w B sb p now R W X) : Calls Try.prog 13 #[.pointer (some ⟨sb, 0, none⟩)] w fun e w' => e = .returned (.int .u64 (now : Nat)) ∧ w' = w := by
  obtain ⟨mb, vr, vw, ts, h⟩ := h
  have hp := h.num.1
  obtain ⟨c0, c1, _⟩ := h.cells
  clear h
  go_enter Try.func13, Try.ntmps13
  go_wp2_with (go_at_call 33; refine (none_no sb p _ c0 hp).mono ?_; rintro e w' ⟨rfl, rfl⟩)
  go_ret
  exact ⟨rfl, rfl⟩
theorem spawn_nil (id : Int) (w : World) : Calls Try.prog 17 #[.pointer none, .int .u32 id] w fun e w' => e = .returned (.int .i64 1) ∧ w' = w := by
  go_enter Try.func17, Try.ntmps17
  go_wp2_with (go_at_call 33; refine (none_nil _).mono ?_; rintro e w' ⟨rfl, rfl⟩)
  go_ret
  exact ⟨rfl, rfl⟩
theorem spawn_there (h : SS w B sb p now R W X) (id : Nat) (t : Tk) (hf : fnd (all R W X []) id = some t) : Calls Try.prog 17 #[.pointer (some ⟨sb, 0, none⟩), .int .u32 (id : Nat)] w fun e w' => e = .returned (.int .i64 9) ∧ w' = w := by
  obtain ⟨mb, vr, vw, ts, h⟩ := h
  have hp := h.num.1
  obtain ⟨c0, _, c2, _, _, _, _⟩ := h.cells
  obtain ⟨ht, rfl⟩ := fnd_some hf
  have hL := h.look_yes ht
  clear h hf
  go_enter Try.func17, Try.ntmps17
  go_wp2_with (go_at_call 33; refine (none_no sb p _ c0 hp).mono ?_; rintro e w' ⟨rfl, rfl⟩)
  go_ret
  exact ⟨rfl, rfl⟩
theorem spawn_full (h : SS w B sb p now R W X) (id : Nat) (hf : fnd (all R W X []) id = none) (hl : (all R W X []).length = 256) : Calls Try.prog 17 #[.pointer (some ⟨sb, 0, none⟩), .int .u32 (id : Nat)] w fun e w' => e = .returned (.int .i64 6) ∧ w' = w := by
  obtain ⟨mb, vr, vw, ts, h⟩ := h
  have hp := h.num.1
  obtain ⟨c0, _, c2, _, _, _, _⟩ := h.cells
  have hL := h.look_no (fnd_none hf)
  have hN := len_map h.map
  have hln : ts.length = 256 := by rw [h.per.length_eq]; simpa using hl
  rw [hln] at hN
  clear h hf
  go_enter Try.func17, Try.ntmps17
  go_wp2_with (go_at_call 33; refine (none_no sb p _ c0 hp).mono ?_; rintro e w' ⟨rfl, rfl⟩)
  go_ret
  exact ⟨rfl, rfl⟩
/-- A task that is made and stands in the map, but nowhere else. -/
theorem SI.made (h : SI w B sb mb vr vw p now R W X [] ts) {id : Nat} (hlt : id < 4294967296) (hn : ∀ t ∈ all R W X [], t.id ≠ id) (hl : (all R W X []).length < 256) {w2 : World}
    (hM : MapT w2 mb (ts ++ [(id, w.heap.size)])) (hF : Fr [mb] (w.alloc (.cells #[.int .u32 (id : Nat), .int .u8 0, .int .i64 0, .int .i64 0, .int .u32 0, .int .u64 0] 67)) w2) : SI w2 B sb mb vr vw p now R W X [⟨w.heap.size, id, 0, 0, 0, 0, 0⟩] (ts ++ [(id, w.heap.size)]) := by
  have hF0 : Fr [] w (w.alloc (.cells #[.int .u32 (id : Nat), .int .u8 0, .int .i64 0, .int .i64 0, .int .u32 0, .int .u64 0] 67)) := (Fr.refl _ _).alloc _
  have hnew := heap_alloc_new w (.cells #[.int .u32 (id : Nat), .int .u8 0, .int .i64 0, .int .i64 0, .int .u32 0, .int .u64 0] 67)
  have h1 := h.fr0 hF0
  have hB : B ≤ w.heap.size := by have := h.low.1; have := lt_of_heap h.blk; omega
  have hml := h.map.lt
  have hal : ∀ F, all R W X F = all R W X [] ++ F := fun F => by simp [all]
  rw [show ([⟨w.heap.size, id, 0, 0, 0, 0, 0⟩] : List Tk) = [⟨w.heap.size, id, 0, 0, 0, 0, 0⟩] from rfl]
  refine ⟨hF.heap h1.blk (by simpa using h1.map.ne h1.blk), h1.row.fr hF (fun g hg => ?_), h1.wai.fr hF (fun g hg => ?_), h1.apt, hM, fun t ht => ?_, ?_, ⟨h.low.1, h.low.2.1, fun t ht => ?_⟩, ?_, fun t ht => ?_, h.stR, h.stW, h.stX, h.num.1, h.num.2.1, h.num.2.2.1, ?_⟩
  · obtain ⟨_, c, hc⟩ := h1.row.blk g hg; simpa using h1.map.ne hc
  · obtain ⟨_, c, hc⟩ := h1.wai.blk g hg; simpa using h1.map.ne hc
  · rw [hal] at ht
    rcases List.mem_append.1 ht with h2 | h2
    · exact (h1.tk t h2).fr hF (by simpa using h1.map.ne (h1.tk t h2))
    · simp at h2; subst h2
      exact hF.heap hnew (by simp; omega)
  · rw [hal, List.map_append]; exact h.per.append_right _
  · rw [hal] at ht
    rcases List.mem_append.1 ht with h2 | h2
    · exact h.low.2.2 t h2
    · simp at h2; subst h2; exact hB
  · rw [hal, List.map_append, List.nodup_append]
    refine ⟨h.nod, by simp, fun a ha b hb e => ?_⟩
    simp at hb; subst hb; subst e
    obtain ⟨t, ht, e⟩ := List.mem_map.1 ha
    exact hn t ht e
  · rw [hal] at ht
    rcases List.mem_append.1 ht with h2 | h2
    · exact h.rng t h2
    · simp at h2; subst h2; exact ⟨hlt, by simp, by simp⟩
  · rw [hal]; simp; omega
theorem arg_one (w : World) (b : Nat) : PArg (w.alloc (.cells #[.pointer (some ⟨b, 0, none⟩)] 61)) (.slice (some ⟨w.heap.size, 0, none⟩) 1 1) [b] := by
  have h := heap_alloc_new w (.cells #[.pointer (some ⟨b, 0, none⟩)] 61)
  refine .inr ⟨w.heap.size, 0, 1, rfl, ⟨_, h⟩, fun i hi => ?_⟩
  simp at hi; subst hi
  exact cell_of_heap h rfl
theorem spawn_ok (h : SS w B sb p now R W X) (id : Nat) (hlt : id < 4294967296) (hf : fnd (all R W X []) id = none) (hl : (all R W X []).length < 256) : Calls Try.prog 17 #[.pointer (some ⟨sb, 0, none⟩), .int .u32 (id : Nat)] w fun e w' => e = .returned (.int .i64 0) ∧ ∃ b, SS w' B sb p now (R ++ [⟨b, id, 1, 0, 0, 0, 0⟩]) W X ∧ Kq B w w' := by
  obtain ⟨mb, vr, vw, ts, h⟩ := h
  have hp := h.num.1
  obtain ⟨c0, _, c2, _, _, _, _⟩ := h.cells
  have hL := h.look_no (fnd_none hf)
  have hN := len_map h.map
  have hln : ts.length < 256 := by rw [h.per.length_eq]; simpa using hl
  have e1 : ((ts.length : Int) == 256) = false := by simp; omega
  have hF0 : Fr [] w (w.alloc (.cells #[.int .u32 (id : Nat), .int .u8 0, .int .i64 0, .int .i64 0, .int .u32 0, .int .u64 0] 67)) := (Fr.refl _ _).alloc _
  have c2' := hF0.cell c2 (by simp)
  obtain ⟨w2, hput, hM2, hF2⟩ := put_map (h.map.fr hF0 (by simp)) (id, w.heap.size) (fun a ha => by
    obtain ⟨t, ht, e⟩ := List.mem_map.1 (h.per.subset ha)
    rw [← e]; exact fnd_none hf t ht)
  have h2 := h.made hlt (fnd_none hf) hl hM2 hF2
  have H3 := hid (p := _) (h2.fr0 (((Fr.refl _ w2).alloc (.cells #[.pointer (some ⟨w.heap.size, 0, none⟩)] 61))))
  have HK := hid (p := _) (show Kq B w (w2.alloc (.cells #[.pointer (some ⟨w.heap.size, 0, none⟩)] 61)) from
    (hF0.kq0.trans (hF2.kq (fun k hk => by simp at hk; subst hk; exact (h.fr0 hF0).sob.2.1))).trans ((Fr.refl _ w2).alloc _).kq0)
  have HA := hid (p := _) (arg_one w2 w.heap.size)
  have d2 := h2.cells.2.2.1
  simp only at hput
  clear h h2 hM2 hF2 hf hl hln
  go_enter Try.func17, Try.ntmps17
  go_wp2_with (first | (go_at_call 33; refine (none_no sb p _ c0 hp).mono ?_; rintro e w' ⟨rfl, rfl⟩) | (go_at_call 36; refine (ready_si H3.out _ 0 HA.out).mono ?_; rintro e w5 ⟨rfl, q1, q2⟩))
  go_ret
  exact ⟨rfl, _, q1, HK.out.trans q2⟩
end
end Go.Proofs.Ytenphgpmdigdcaa
