/-
  The walks of Wake and Tick. No statement is proved here.
-/
import Derived.Test.YtenphgpmdigdcaaSchN
namespace Go.Proofs.Ytenphgpmdigdcaa
open Go.RowKit Go.BigFrame Go.MapKept
set_option linter.unusedVariables false
set_option linter.unusedSimpArgs false
set_option maxRecDepth 1000000
set_option maxHeartbeats 4000000

def prW (q : Nat) (most : Int) (j : Nat) (t : Tk) : Bool := decide (t.qu = q ∧ (j : Int) < most)
def prT (now : Nat) (j : Nat) (t : Tk) : Bool := decide (t.un ≠ 0 ∧ t.un ≤ now)
section
variable {w w' : World} {B sb mb : Nat} {vr vw : Value} {p now : Nat} {R W : List Tk} {X : Option Tk} {F : List Tk} {ts : List (Nat × Nat)}
theorem wake_nil (q most : Int) (w : World) : Calls Try.prog 22 #[.pointer none, .int .u32 q, .int .i64 most] w fun e w' => e = .returned (.int .i64 0) ∧ Fr [] w w' := by
  go_enter Try.func22, Try.ntmps22
  go_wp2_with (go_at_call 33; refine (none_nil _).mono ?_; rintro e w' ⟨rfl, rfl⟩)
  go_ret
  exact ⟨rfl, ((Fr.refl _ _).alloc _).alloc _⟩
theorem wake_ok (h : SS w B sb p now R W X) (q : Nat) (most : Int) : Calls Try.prog 22 #[.pointer (some ⟨sb, 0, none⟩), .int .u32 (q : Nat), .int .i64 most] w fun e w' => e = .returned (.int .i64 ((sel (prW q most) W).2.2 : Nat)) ∧ SS w' B sb p now (R ++ (sel (prW q most) W).1.map (Tk.rd 0)) (sel (prW q most) W).2.1 X ∧ Kq B w w' := by
  obtain ⟨mb, vr, vw, ts, h⟩ := h
  have hp := h.num.1
  have hl : W.length ≤ 256 := by have := h.num.2.2.2; simp [all] at this; omega
  have F2 : Fr [] w ((w.alloc (.cells #[.int .u32 (q : Nat)] 35)).alloc (.cells #[.int .i64 most] 3)) := ((Fr.refl _ _).alloc _).alloc _
  have F3 : Fr [] w (((w.alloc (.cells #[.int .u32 (q : Nat)] 35)).alloc (.cells #[.int .i64 most] 3)).alloc (.cells #[.int .i64 0] 3)) := F2.alloc _
  have c0 := (h.fr0 F2).cells.1
  have b0 : (((w.alloc (.cells #[.int .u32 (q : Nat)] 35)).alloc (.cells #[.int .i64 most] 3)).alloc (.cells #[.int .i64 0] 3)).heap[w.heap.size]? = some (.cells #[.int .u32 (q : Nat)] 35) := (Below.heap_alloc _ _ _ (by simp; omega)).trans ((Below.heap_alloc _ _ _ (by simp)).trans (heap_alloc_new w _))
  have b1 : (((w.alloc (.cells #[.int .u32 (q : Nat)] 35)).alloc (.cells #[.int .i64 most] 3)).alloc (.cells #[.int .i64 0] 3)).heap[w.heap.size + 1]? = some (.cells #[.int .i64 most] 3) := (Below.heap_alloc _ _ _ (by simp)).trans (heap_at _ _ (by simp))
  have b2 : (((w.alloc (.cells #[.int .u32 (q : Nat)] 35)).alloc (.cells #[.int .i64 most] 3)).alloc (.cells #[.int .i64 0] 3)).heap[w.heap.size + 1 + 1]? = some (.cells #[.int .i64 0] 3) := heap_at _ _ (by simp)
  have hsz : (((w.alloc (.cells #[.int .u32 (q : Nat)] 35)).alloc (.cells #[.int .i64 most] 3)).alloc (.cells #[.int .i64 0] 3)).heap.size = w.heap.size + 3 := by simp
  have hsl := lt_of_heap h.blk
  have hB : B ≤ w.heap.size := by have := h.low.1; omega
  have h3 := h.fr0 F3
  generalize hW3 : (((w.alloc (.cells #[.int .u32 (q : Nat)] 35)).alloc (.cells #[.int .i64 most] 3)).alloc (.cells #[.int .i64 0] 3)) = W3 at *
  have H39 := hid (p := _) (take45 W3 B sb mb vr vw p now R W X ts h3 (prW q most) (fun V j => V.heap[w.heap.size]? = some (.cells #[.int .u32 (q : Nat)] 35) ∧ V.heap[w.heap.size + 1 + 1]? = some (.cells #[.int .i64 (j : Nat)] 3) ∧ V.cell? ⟨w.heap.size + 1, 0, none⟩ = some (.int .i64 most)) [w.heap.size + 1 + 1] w.heap.size (w.heap.size + 1 + 1) (w.heap.size + 1)
    (fun c hc => by simp at hc; subst hc; exact ⟨by omega, _, _, _, b2, by decide⟩) ⟨b0, b2, cell_of_heap b1 rfl⟩
    (fun V V' j S ⟨a1, a2, a3⟩ hF hS => ⟨hF.heap a1 (fun hm => by have := hS _ hm; omega), hF.heap a2 (fun hm => by have := hS _ hm; omega), hF.cell a3 (fun hm => by have := hS _ hm; simp only at this; omega)⟩)
    (fun V j t ⟨a1, a2, a3⟩ hj ht => (wakes45 w.heap.size (w.heap.size + 1 + 1) (w.heap.size + 1) q j most t.qu t.un V a1 a2 a3 (by omega)).mono fun e w' ⟨q1, q2, q3⟩ => ⟨q1, ⟨q3.heap a1 (by simp; omega), q2, q3.cell a3 (by simp)⟩, q3⟩))
  have HK := hid (p := _) (fun (w5 : World) (hF : Fr (sb :: [w.heap.size + 1 + 1]) W3 w5) => (show Kq B w w5 from ((F3.mono (T := [sb]) (by simp)).trans hF (fun t ht => by simp at ht; rcases ht with rfl | rfl <;> simp <;> omega)).kq (fun k hk => by simp at hk; subst hk; exact h.sob.1)))
  have hW4 := hid (p := _) hW3
  clear hW3
  clear h h3 b0 b1 b2 F2 F3 hsz hl
  go_enter Try.func22, Try.ntmps22
  go_wp2_with (first | (go_at_call 33; refine (none_no sb p _ c0 hp).mono ?_; rintro e w' ⟨rfl, rfl⟩))
  rw [hW4.out]
  clear c0
  go_wp2_with (first | (go_at_call 39; refine H39.out.mono ?_; rintro e w5 ⟨va, vs, rfl, q1, q2, q3, q4, q5⟩) | (go_at_call 36; refine (ready_si q1 va 0 q2.arg).mono ?_; rintro e w6 ⟨rfl, q6, q7⟩; have c9 := cell_of_heap (o := 0) (q7.heap q4.2.1 (by decide)) rfl))
  go_ret
  exact ⟨rfl, q6, (HK.out w5 q5).trans q7⟩
/-- The time is said. -/
theorem SI.time (h : SI w B sb mb vr vw p now R W X F ts) (n : Nat) (hn : n < 4611686018427387904) : SI (w.setCell ⟨sb, 1, none⟩ (.int .u64 (n : Nat))) B sb mb vr vw p n R W X F ts := by
  have hF : Fr [sb] w (w.setCell ⟨sb, 1, none⟩ (.int .u64 (n : Nat))) := (Fr.refl _ _).setCell (by simp) _
  refine ⟨?_, h.row.fr hF (fun g hg => ?_), h.wai.fr hF (fun g hg => ?_), h.apt, h.map.fr hF (by simpa using (h.map.ne h.blk).symm), fun u hu => ?_, h.per, h.low, h.nod, h.rng, h.stR, h.stW, h.stX, h.num.1, h.num.2.1, hn, h.num.2.2.2⟩
  · simp [World.setCell, Array.getElem?_modify, h.blk]
  · obtain ⟨_, c, hc⟩ := h.row.blk g hg; simpa using blk_ne hc h.blk (by decide)
  · obtain ⟨_, c, hc⟩ := h.wai.blk g hg; simpa using blk_ne hc h.blk (by decide)
  · have := h.tk u hu; exact this.fr hF (by simpa using blk_ne this h.blk (by decide))
theorem SI.permF {F' : List Tk} (h : SI w B sb mb vr vw p now R W X F ts) (hP : F'.Perm F) : SI w B sb mb vr vw p now R W X F' ts := by
  have hP2 : (all R W X F').Perm (all R W X F) := by unfold all; exact List.Perm.append_left _ hP
  exact ⟨h.blk, h.row, h.wai, h.apt, h.map, fun t ht => h.tk t (hP2.subset ht), h.per.trans (List.Perm.map _ hP2).symm, ⟨h.low.1, h.low.2.1, fun u hu => h.low.2.2 u (hP2.subset hu)⟩, ((List.Perm.map _ hP2).nodup_iff).2 h.nod, fun u hu => h.rng u (hP2.subset hu), h.stR, h.stW, h.stX, h.num.1, h.num.2.1, h.num.2.2.1, by rw [hP2.length_eq]; exact h.num.2.2.2⟩
theorem tick_nil (n : Int) (w : World) : Calls Try.prog 19 #[.pointer none, .int .u64 n] w fun e w' => e = .returned (.int .i64 1) ∧ Fr [] w w' := by
  go_enter Try.func19, Try.ntmps19
  go_wp2_with (go_at_call 33; refine (none_nil _).mono ?_; rintro e w' ⟨rfl, rfl⟩)
  go_ret
  exact ⟨rfl, (Fr.refl _ _).alloc _⟩
theorem tick_bad (h : SS w B sb p now R W X) (n : Nat) (hb : n < now ∨ 4611686018427387904 ≤ n) : Calls Try.prog 19 #[.pointer (some ⟨sb, 0, none⟩), .int .u64 (n : Nat)] w fun e w' => e = .returned (.int .i64 2) ∧ Fr [] w w' := by
  obtain ⟨mb, vr, vw, ts, h⟩ := h
  have hp := h.num.1
  have F1 : Fr [] w (w.alloc (.cells #[.int .u64 (n : Nat)] 32)) := (Fr.refl _ _).alloc _
  have b0 := heap_alloc_new w (.cells #[.int .u64 (n : Nat)] 32)
  have d0 := cell_of_heap (o := 0) b0 rfl
  obtain ⟨c0, c1, _⟩ := (h.fr0 F1).cells
  have HF := hid (p := _) F1
  have hW := hid (p := _) (show w.alloc (.cells #[.int .u64 (n : Nat)] 32) = w.alloc (.cells #[.int .u64 (n : Nat)] 32) from rfl)
  by_cases h1 : n < now
  · have e1 : decide ((n : Int) < (now : Int)) = true := by simpa using h1
    clear h F1 b0 hb
    go_enter Try.func19, Try.ntmps19
    go_wp2_with (go_at_call 33; refine (none_no sb p _ c0 hp).mono ?_; rintro e w' ⟨rfl, rfl⟩)
    generalize w.alloc (.cells #[.int .u64 (n : Nat)] 32) = W1 at *
    go_quiet (fail)
    go_wp2
    go_ret
    exact ⟨rfl, HF.out.drewN _⟩
  · have e1 : decide ((n : Int) < (now : Int)) = false := by simpa using h1
    have e2 : decide ((4611686018427387904 : Int) ≤ (n : Int)) = true := by simp; omega
    have e3 : decide (n < now) = false := by simpa using h1
    clear h F1 b0 hb
    go_enter Try.func19, Try.ntmps19
    go_wp2_with (go_at_call 33; refine (none_no sb p _ c0 hp).mono ?_; rintro e w' ⟨rfl, rfl⟩)
    generalize w.alloc (.cells #[.int .u64 (n : Nat)] 32) = W1 at *
    go_quiet (fail)
    go_wp2
    go_ret
    exact ⟨rfl, HF.out.drewN _⟩
theorem tick_ok (h : SS w B sb p now R W X) (n : Nat) (h1 : now ≤ n) (h2 : n < 4611686018427387904) (hl : (sel (prT n) W).1.length ≤ 20) : Calls Try.prog 19 #[.pointer (some ⟨sb, 0, none⟩), .int .u64 (n : Nat)] w fun e w' => e = .returned (.int .i64 0) ∧ (∃ A : List Tk, A.Perm (sel (prT n) W).1 ∧ SS w' B sb p n (R ++ A.map (Tk.rd 50)) (sel (prT n) W).2.1 X) ∧ Kq B w w' := by
  obtain ⟨mb, vr, vw, ts, h⟩ := h
  have hp := h.num.1
  have F1 : Fr [] w (w.alloc (.cells #[.int .u64 (n : Nat)] 32)) := (Fr.refl _ _).alloc _
  have b0 := heap_alloc_new w (.cells #[.int .u64 (n : Nat)] 32)
  have d0 := cell_of_heap (o := 0) b0 rfl
  have h3 := h.fr0 F1
  obtain ⟨c0, c1, _, _, _, _, fz⟩ := h3.cells
  have hsl := lt_of_heap h.blk
  have hnl := lt_of_heap b0
  have e1 : decide ((n : Int) < (now : Int)) = false := by simp; omega
  have e2 : decide ((4611686018427387904 : Int) ≤ (n : Int)) = false := by simp; omega
  have e3 : decide (n < now) = false := by simp; omega
  have e4 : ¬ n < now := by omega
  have F2 : Fr [sb] w (((w.alloc (.cells #[.int .u64 (n : Nat)] 32)).setCell ⟨sb, 1, none⟩ (.int .u64 (n : Nat)))) := (F1.mono (by simp)).setCell (by simp) _
  have H4 := hid (p := _) (fun m => (show SI (((w.alloc (.cells #[.int .u64 (n : Nat)] 32)).drewN m).setCell ⟨sb, 1, none⟩ (.int .u64 (n : Nat))) B sb mb vr vw p n R W X [] ts ∧ (((w.alloc (.cells #[.int .u64 (n : Nat)] 32)).drewN m).setCell ⟨sb, 1, none⟩ (.int .u64 (n : Nat))).heap[w.heap.size]? = some (.cells #[.int .u64 (n : Nat)] 32) ∧ Fr [sb] w (((w.alloc (.cells #[.int .u64 (n : Nat)] 32)).drewN m).setCell ⟨sb, 1, none⟩ (.int .u64 (n : Nat))) from
    ⟨(h3.fr0 ((Fr.refl [] _).drewN m)).time n h2, ((Fr.refl [sb] _).setCell (by simp) _).heap (((Fr.refl [] _).drewN m).heap b0 (by simp)) (by simp; omega), ((F1.mono (by simp)).drewN m).setCell (by simp) _⟩))
  have H39 := hid (p := _) (fun (W3 : World) (hI : SI W3 B sb mb vr vw p n R W X [] ts) (hb : W3.heap[w.heap.size]? = some (.cells #[.int .u64 (n : Nat)] 32)) => take40 W3 B sb mb vr vw p n R W X ts hI (prT n) (fun V j => V.heap[w.heap.size]? = some (.cells #[.int .u64 (n : Nat)] 32)) [] w.heap.size (by simp) hb
    (fun V V' j S a1 hF hS => hF.heap a1 (fun hm => by have := hS _ hm; have := lt_of_heap hb; omega))
    (fun V j t a1 hj ht => (wakes40 w.heap.size n t.qu t.un V (cell_of_heap a1 rfl)).mono fun e w' ⟨q1, q3⟩ => ⟨q1, q3.heap a1 (by simp), q3⟩))
  have HK := hid (p := _) (fun (W3 w5 : World) (hF0 : Fr [sb] w W3) (hF : Fr (sb :: []) W3 w5) => (show Kq B w w5 from (hF0.trans hF (fun t ht => .inl ht)).kq (fun k hk => by simp at hk; subst hk; exact h.sob.1)))
  have HL := hid (p := _) hl
  have HSrt := hid (p := _) (fun (w5 : World) (vs va : Value) (b5 : Nat) (q1 : SI w5 B sb mb vr vs p n R (sel (prT n) W).2.1 X (sel (prT n) W).1 ts) (q2 : Own w5 b5 va ((sel (prT n) W).1.map Tk.b)) (hb5 : sb < b5) (hBb : B ≤ b5) (q3 : ∀ g, va.ownBlock = some g → vs.ownBlock ≠ some g) (q8 : ∀ g, va.ownBlock = some g → vr.ownBlock ≠ some g) => (show Calls Try.prog 41 #[va, .func (.func 42) #[] #[]] w5 fun e w' => e = .returned (.tuple #[]) ∧ ∃ A : List Tk, A.Perm (sel (prT n) W).1 ∧ SI w' B sb mb vr vs p n R (sel (prT n) W).2.1 X A ts ∧ PArg w' va (A.map Tk.b) ∧ Kq B w5 w' from
    (sort_small b5 va _ w5 q2 (fun t ht => q1.tk t (mem_all.2 (.inr (.inr (.inr ht))))) HL.out).mono fun e w' ⟨z1, A, z2, z3, z4⟩ => ⟨z1, A, z2, by
      have hne : ∀ k c ty f, w5.heap[k]? = some (.cells c ty f) → ty ≠ 61 → k ∉ va.ownBlock.toList := fun k c ty f hk hty hm => by
        obtain ⟨_, c', hc'⟩ := q2.blk k (by simpa using hm)
        rw [hk] at hc'; simp at hc'; exact hty hc'.2.1
      refine ⟨(q1.fr z4 (hne _ _ _ _ q1.blk (by decide)) (fun hm => ?_) (fun g hg hm => q8 g (by simpa using hm) hg) (fun g hg hm => q3 g (by simpa using hm) hg) (fun t ht => hne _ _ _ _ (q1.tk t ht) (by decide))).permF z2, z3.arg, z4.kq (fun k hk => ?_)⟩
      · obtain ⟨_, c', hc'⟩ := q2.blk mb (by simpa using hm)
        exact q1.map.ne hc' rfl
      · obtain ⟨h7, c', hc'⟩ := q2.blk k (by simpa using hk)
        exact .inr ⟨by omega, .inl ⟨_, _, hc'⟩⟩⟩))
  have HVr := hid (p := _) (fun g (hg : vr.ownBlock = some g) => (show g < w.heap.size from by obtain ⟨_, c, hc⟩ := h.row.blk g hg; exact lt_of_heap hc))
  have hB : B ≤ w.heap.size := by have := h.low.1; omega
  have HB := hid (p := _) (And.intro hB hsl)
  clear h h3 F1 F2 hl h1 h2 b0 hB
  go_enter Try.func19, Try.ntmps19
  go_wp2_with (go_at_call 33; refine (none_no sb p _ c0 hp).mono ?_; rintro e w' ⟨rfl, rfl⟩)
  generalize w.alloc (.cells #[.int .u64 (n : Nat)] 32) = W1 at *
  go_quiet (fail)
  have Hq := hid (p := _) (H4.out nq)
  have Hsz := hid (p := _) (show w.heap.size ≤ ((W1.drewN nq).setCell ⟨sb, 1, none⟩ (.int .u64 (n : Nat))).heap.size from Hq.out.2.2.size)
  clear H4
  go_wp2_with (first
    | (go_at_call 39; refine (H39.out _ Hq.out.1 Hq.out.2.1).mono ?_; rintro e w5 ⟨va, vs, rfl, q1, q2, q3, q4, q5⟩)
    | (go_at_call 41; refine (HSrt.out w5 vs va _ q1 q2 (Nat.lt_of_lt_of_le HB.out.2 Hsz.out) (Nat.le_trans HB.out.1 Hsz.out) q3 (fun g hg hg2 => by have z1 := HVr.out g hg2; have z2 := (q2.blk g hg).1; have z3 := Hsz.out; omega)).mono ?_; rintro e w6 ⟨rfl, A, y1, y2, y3, y4⟩)
    | (go_at_call 36; refine (ready_si y2 va 50 y3).mono ?_; rintro e w7 ⟨rfl, q6, q7⟩))
  go_ret
  exact ⟨rfl, ⟨A, y1, q6⟩, ((HK.out _ w5 Hq.out.2.2 q5).trans y4).trans q7⟩
end
end Go.Proofs.Ytenphgpmdigdcaa
