/-
  The walks of the two functions that tell who wakes, and of take with each. No statement is proved here.
-/
import Derived.Test.YtenphgpmdigdcaaSchJ
namespace Go.Proofs.Ytenphgpmdigdcaa
open Go.RowKit Go.BigFrame Go.MapKept
set_option linter.unusedVariables false
set_option linter.unusedSimpArgs false
set_option maxRecDepth 1000000
set_option maxHeartbeats 4000000

theorem wakes45 (qb nb lb q j : Nat) (most : Int) (qu un : Nat) (w : World) (h1 : w.heap[qb]? = some (.cells #[.int .u32 (q : Nat)] 35)) (h2 : w.heap[nb]? = some (.cells #[.int .i64 (j : Nat)] 3)) (h3 : w.cell? ⟨lb, 0, none⟩ = some (.int .i64 most)) (hj : j ≤ 1000) :
    Calls Try.prog 45 #[.agg #[.int .u32 (qu : Nat), .int .u64 (un : Nat)], .pointer (some ⟨qb, 0, none⟩), .pointer (some ⟨nb, 0, none⟩), .pointer (some ⟨lb, 0, none⟩)] w fun e w' => e = .returned (.bool (decide (qu = q ∧ (j : Int) < most))) ∧ w'.heap[nb]? = some (.cells #[.int .i64 ((if decide (qu = q ∧ (j : Int) < most) = true then j + 1 else j : Nat) : Int)] 3) ∧ Fr [nb] w w' := by
  have F0 : Fr [] w (w.alloc (.cells #[.int .u32 (qu : Nat), .int .u64 (un : Nat)] 65)) := (Fr.refl _ _).alloc _
  have c1 := cell_of_heap (o := 0) (F0.heap h1 (by simp)) rfl
  have b2 := F0.heap h2 (by simp)
  have c2 := cell_of_heap (o := 0) b2 rfl
  have f2 := frozen_of_heap (o := 0) b2
  have c3 := F0.cell h3 (by simp)
  have HF := hid (p := _) F0
  have HB := hid (p := _) b2
  clear h1 h2 h3 F0 b2
  by_cases hq : qu = q
  · subst hq
    by_cases hm : (j : Int) < most
    · have hm' : ¬ most ≤ (j : Int) := by omega
      go_enter Try.func45, Try.ntmps45
      go_wp2
      go_ret
      refine ⟨by simp [hm], ?_, (HF.out.mono (by simp)).setCell (by simp) _⟩
      simp [World.setCell, Array.getElem?_modify, HB.out, hm]
    · have hm' : most ≤ (j : Int) := by omega
      go_enter Try.func45, Try.ntmps45
      go_wp2
      go_ret
      exact ⟨by simp [hm], by first | exact HB.out | simpa [hm] using HB.out, HF.out.mono (by simp)⟩
  · have e1 : ((qu : Int) == (q : Int)) = false := by simp; omega
    have e2 : ¬ (qu : Int) = (q : Int) := by omega
    go_enter Try.func45, Try.ntmps45
    go_wp2
    all_goals (go_ret; exact ⟨by simp [hq], by first | exact HB.out | simpa [hq] using HB.out, HF.out.mono (by simp)⟩)
theorem wakes40 (nb now : Nat) (qu un : Nat) (w : World) (h1 : w.cell? ⟨nb, 0, none⟩ = some (.int .u64 (now : Nat))) :
    Calls Try.prog 40 #[.agg #[.int .u32 (qu : Nat), .int .u64 (un : Nat)], .pointer (some ⟨nb, 0, none⟩)] w fun e w' => e = .returned (.bool (decide (un ≠ 0 ∧ un ≤ now))) ∧ Fr [] w w' := by
  have F0 : Fr [] w ((w.alloc (.cells #[.int .u32 (qu : Nat), .int .u64 (un : Nat)] 65)).alloc (.cells #[.int .u32 (qu : Nat), .int .u64 (un : Nat)] 65)) := ((Fr.refl _ _).alloc _).alloc _
  have c1 := F0.cell h1 (by simp)
  have hb0 : ((w.alloc (.cells #[.int .u32 (qu : Nat), .int .u64 (un : Nat)] 65)).alloc (.cells #[.int .u32 (qu : Nat), .int .u64 (un : Nat)] 65)).heap[w.heap.size]? = some (.cells #[.int .u32 (qu : Nat), .int .u64 (un : Nat)] 65) := (Below.heap_alloc _ _ _ (by simp)).trans (heap_alloc_new w _)
  have c2 := cell_of_heap (o := 1) hb0 rfl
  have H34 := hid (p := _) (fun W => ends_any qu un W)
  have HF := hid (p := _) F0
  clear h1 F0 hb0
  by_cases h0 : un = 0
  · rw [show (un != 0) = false from by simp [h0]] at H34
    have H0 := hid (p := _) h0
    clear h0
    go_enter Try.func40, Try.ntmps40
    go_wp2_with (go_at_call 34; refine (H34.out _).mono ?_; rintro e w' ⟨rfl, rfl⟩)
    go_ret
    exact ⟨by simp [H0.out], HF.out⟩
  · rw [show (un != 0) = true from by simpa using h0] at H34
    have H0 := hid (p := _) h0
    clear h0
    go_enter Try.func40, Try.ntmps40
    go_wp2_with (go_at_call 34; refine (H34.out _).mono ?_; rintro e w' ⟨rfl, rfl⟩)
    go_ret
    refine ⟨?_, HF.out⟩
    have : decide (un ≠ 0 ∧ un ≤ now) = decide (un ≤ now) := by
      have := H0.out
      by_cases h : un ≤ now
      · rw [decide_eq_true ⟨this, h⟩, decide_eq_true h]
      · rw [decide_eq_false (fun h' => h h'.2), decide_eq_false h]
    rw [this]
    rfl

/-- Who wakes, who stays, and how many wake, by a test that knows how many have woken. -/
def selS (pr : Nat → Tk → Bool) (x : List Tk × List Tk × Nat) (t : Tk) : List Tk × List Tk × Nat := if pr x.2.2 t then (x.1 ++ [t], x.2.1, x.2.2 + 1) else (x.1, x.2.1 ++ [t], x.2.2)
def sel (pr : Nat → Tk → Bool) (l : List Tk) : List Tk × List Tk × Nat := l.foldl (selS pr) ([], [], 0)
theorem sel_snoc (pr : Nat → Tk → Bool) (l : List Tk) (t : Tk) : sel pr (l ++ [t]) = selS pr (sel pr l) t := by simp [sel]
theorem sel_perm (pr : Nat → Tk → Bool) (l : List Tk) : ((sel pr l).2.1 ++ (sel pr l).1).Perm l ∧ (sel pr l).2.2 = (sel pr l).1.length := by
  have key : ∀ (l : List Tk) (x : List Tk × List Tk × Nat), x.2.2 = x.1.length → ((l.foldl (selS pr) x).2.1 ++ (l.foldl (selS pr) x).1).Perm (x.2.1 ++ x.1 ++ l) ∧ (l.foldl (selS pr) x).2.2 = (l.foldl (selS pr) x).1.length := by
    intro l
    induction l with
    | nil => intro x hx; simp [hx]
    | cons t l ih =>
      intro x hx
      simp only [List.foldl_cons]
      have h1 := ih (selS pr x t) (by unfold selS; split <;> simp [hx])
      refine ⟨h1.1.trans ?_, h1.2⟩
      unfold selS
      split
      · simp
      · simp only [List.append_assoc]
        refine List.Perm.append_left _ ?_
        simp only [List.cons_append, List.nil_append]
        exact List.perm_middle.symm
  have := key l ([], [], 0) rfl
  simp only [List.nil_append] at this
  exact this
theorem run_app1 (W : World) (B : Nat) (v : Value) (bs : List Nat) (b : Nat) (hO : Own W B v bs) (hl : bs.length ≤ 1000) (hB : B ≤ W.heap.size) :
    ∃ v' W', (Builtin.append_ #[60, 60] 60 #[v, .slice (some ⟨W.heap.size, 0, none⟩) 1 1]).run Try.prog (W.alloc (.cells #[.pointer (some ⟨b, 0, none⟩)] 61)) = .ok v' W' ∧ Own W' B v' (bs ++ [b]) ∧ Fr v.ownBlock.toList W W' ∧ (∀ g', v'.ownBlock = some g' → v.ownBlock = some g' ∨ W.heap.size ≤ g') := by
  have hF : Fr [] W (W.alloc (.cells #[.pointer (some ⟨b, 0, none⟩)] 61)) := (Fr.refl _ _).alloc _
  have hn := heap_alloc_new W (.cells #[.pointer (some ⟨b, 0, none⟩)] 61)
  obtain ⟨v', W', q1, q2, q3, q4⟩ := run_app (W.alloc (.cells #[.pointer (some ⟨b, 0, none⟩)] 61)) 60 B v bs (hO.fr hF (by simp)) ⟨W.heap.size, 0, none⟩ 1 1 [b] rfl (fun j u hj => by
    have : j = 0 := by
      rcases j with _ | j
      · rfl
      · simp [pvs] at hj
    subst this
    simp [pvs, pv] at hj
    subst hj
    exact cell_of_heap (by simpa using hn) rfl) (by omega) (by have := hF.size; omega)
  exact ⟨v', W', q1, q2, (hF.mono (by simp)).trans q3 (fun t ht => .inl ht), fun g' hg' => (q4 g' hg').imp id (fun h => by have := hF.size; omega)⟩
/-- What stands while those that wait are gone through. -/
structure TakeI (w wr : World) (C : List Nat) (A S : List Tk) (va vs : Value) : Prop where
  oa : Own wr w.heap.size va (A.map Tk.b)
  os : Own wr w.heap.size vs (S.map Tk.b)
  apt : ∀ g, va.ownBlock = some g → vs.ownBlock ≠ some g
  fr : Fr C w wr
theorem TakeI.fr1 {w wr w' : World} {C : List Nat} {A S : List Tk} {va vs : Value} (h : TakeI w wr C A S va vs) (hF : Fr C wr w') (hC : ∀ c ∈ C, c < w.heap.size) : TakeI w w' C A S va vs :=
  ⟨h.oa.fr hF (fun g hg hm => by have := (h.oa.blk g hg).1; have := hC g hm; omega), h.os.fr hF (fun g hg hm => by have := (h.os.blk g hg).1; have := hC g hm; omega), h.apt, h.fr.trans hF (fun t ht => .inl ht)⟩
theorem TakeI.woke {w wr w' : World} {C : List Nat} {A S : List Tk} {va vs v' : Value} {t : Tk} (h : TakeI w wr C A S va vs) (q2 : Own w' w.heap.size v' (A.map Tk.b ++ [t.b])) (q3 : Fr va.ownBlock.toList wr w') (q4 : ∀ g', v'.ownBlock = some g' → va.ownBlock = some g' ∨ wr.heap.size ≤ g') : TakeI w w' C (A ++ [t]) S v' vs := by
  refine ⟨by simpa using q2, h.os.fr q3 (fun g hg hm => h.apt g (by simpa using hm) hg), fun g hg hg2 => ?_, h.fr.trans q3 (fun t ht => .inr (h.oa.blk t (by simpa using ht)).1)⟩
  rcases q4 g hg with h1 | h1
  · exact h.apt g h1 hg2
  · obtain ⟨_, c, hc⟩ := h.os.blk g hg2
    have := lt_of_heap hc; omega
theorem TakeI.stay {w wr w' : World} {C : List Nat} {A S : List Tk} {va vs v' : Value} {t : Tk} (h : TakeI w wr C A S va vs) (q2 : Own w' w.heap.size v' (S.map Tk.b ++ [t.b])) (q3 : Fr vs.ownBlock.toList wr w') (q4 : ∀ g', v'.ownBlock = some g' → vs.ownBlock = some g' ∨ wr.heap.size ≤ g') : TakeI w w' C A (S ++ [t]) va v' := by
  refine ⟨h.oa.fr q3 (fun g hg hm => h.apt g hg (by simpa using hm)), by simpa using q2, fun g hg hg2 => ?_, h.fr.trans q3 (fun t ht => .inr (h.os.blk t (by simpa using ht)).1)⟩
  rcases q4 g hg2 with h1 | h1
  · exact h.apt g hg h1
  · obtain ⟨_, c, hc⟩ := h.oa.blk g hg
    have := lt_of_heap hc; omega
/-- Those that wake are under way; those that stay wait. -/
theorem SI.taken {w wr : World} {B sb mb : Nat} {vr vw : Value} {p now : Nat} {R W : List Tk} {X : Option Tk} {ts : List (Nat × Nat)} {C : List Nat} {A S : List Tk} {va vs : Value} (h : SI w B sb mb vr vw p now R W X [] ts) (hT : TakeI w wr C A S va vs) (hP : (S ++ A).Perm W) (hC : ∀ c ∈ C, c < w.heap.size ∧ Oth w c) :
    SI (wr.setCell ⟨sb, 4, none⟩ vs) B sb mb vr vs p now R S X A ts ∧ Own (wr.setCell ⟨sb, 4, none⟩ vs) w.heap.size va (A.map Tk.b) ∧ (∀ g, va.ownBlock = some g → vs.ownBlock ≠ some g) ∧ Fr (sb :: C) w (wr.setCell ⟨sb, 4, none⟩ vs) := by
  have hF5 : Fr [sb] wr (wr.setCell ⟨sb, 4, none⟩ vs) := (Fr.refl _ _).setCell (by simp) _
  have hlt : sb < w.heap.size := lt_of_heap h.blk
  have h1 := h.frO hT.fr (fun c hc => .inr (hC c hc).2)
  have hP2 : (all R S X A).Perm (all R W X []) := by
    simp only [all, List.append_assoc, List.append_nil]
    refine List.Perm.append_left R ?_
    have e : (S ++ (X.toList ++ A)).Perm ((S ++ A) ++ X.toList) := by
      rw [List.append_assoc]
      exact List.Perm.append_left S List.perm_append_comm
    exact e.trans (hP.append_right _)
  have hB : B ≤ w.heap.size := by have := h.low.1; omega
  refine ⟨⟨?_, h1.row.fr hF5 (fun g hg => ?_), (hT.os.mono (fun g hg => Nat.le_trans hB (hT.os.blk g hg).1)).fr hF5 (fun g hg => ?_), fun g hg hg2 => ?_, h1.map.fr hF5 (by simpa using (h1.map.ne h1.blk).symm), fun u hu => ?_, h.per.trans (List.Perm.map _ hP2).symm, ⟨h.low.1, h.low.2.1, fun u hu => h.low.2.2 u (hP2.subset hu)⟩, ((List.Perm.map _ hP2).nodup_iff).2 h.nod, fun u hu => h.rng u (hP2.subset hu), h.stR, fun u hu => h.stW u (hP.subset (by simp [hu])), h.stX, h.num.1, h.num.2.1, h.num.2.2.1, by rw [hP2.length_eq]; exact h.num.2.2.2⟩, hT.oa.fr hF5 (fun g hg => ?_), hT.apt, (hT.fr.mono (by simp; exact fun c hc => .inr hc)).trans hF5 (fun t ht => .inl (by simp at ht; simp [ht]))⟩
  · simp [World.setCell, Array.getElem?_modify, h1.blk]
  · obtain ⟨_, c, hc⟩ := h1.row.blk g hg; simpa using blk_ne hc h1.blk (by decide)
  · have := (hT.os.blk g hg).1; simp; omega
  · have h2 := (hT.os.blk g hg2).1
    obtain ⟨_, c, hc⟩ := h.row.blk g hg
    have := lt_of_heap hc; omega
  · have := h1.tk u (hP2.subset hu); exact this.fr hF5 (by simpa using blk_ne this h1.blk (by decide))
  · have := (hT.oa.blk g hg).1; simp; omega
end Go.Proofs.Ytenphgpmdigdcaa
