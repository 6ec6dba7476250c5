/-
  The walks of take, with each of the two functions that tell who wakes. No statement is proved here.
-/
import Derived.Test.YtenphgpmdigdcaaSchK
namespace Go.Proofs.Ytenphgpmdigdcaa
open Go.RowKit Go.BigFrame Go.MapKept
set_option linter.unusedVariables false
set_option linter.unusedSimpArgs false
set_option maxRecDepth 1000000
set_option maxHeartbeats 4000000


theorem take45 (w : World) (B sb mb : Nat) (vr vw : Value) (p now : Nat) (R W : List Tk) (X : Option Tk) (ts : List (Nat × Nat)) (h : SI w B sb mb vr vw p now R W X [] ts) (pr : Nat → Tk → Bool) (CI : World → Nat → Prop) (C : List Nat) (qb nb lb : Nat) (hC : ∀ c ∈ C, c < w.heap.size ∧ Oth w c) (h0 : CI w 0)
    (hst : ∀ V V' j S, CI V j → Fr S V V' → (∀ k ∈ S, w.heap.size ≤ k ∨ k = sb) → CI V' j)
    (hcl : ∀ V j t, CI V j → j ≤ W.length → t ∈ W → Calls Try.prog 45 #[.agg #[.int .u32 (t.qu : Nat), .int .u64 (t.un : Nat)], .pointer (some ⟨qb, 0, none⟩), .pointer (some ⟨nb, 0, none⟩), .pointer (some ⟨lb, 0, none⟩)] V fun e w' => e = .returned (.bool (pr j t)) ∧ CI w' (if pr j t = true then j + 1 else j) ∧ Fr C V w') :
    Calls Try.prog 39 #[.pointer (some ⟨sb, 0, none⟩), .func (.func 45) #[] #[.pointer (some ⟨qb, 0, none⟩), .pointer (some ⟨nb, 0, none⟩), .pointer (some ⟨lb, 0, none⟩)]] w fun e w' => ∃ va vs, e = .returned va ∧ SI w' B sb mb vr vs p now R (sel pr W).2.1 X (sel pr W).1 ts ∧ Own w' w.heap.size va ((sel pr W).1.map Tk.b) ∧ (∀ g, va.ownBlock = some g → vs.ownBlock ≠ some g) ∧ CI w' (sel pr W).2.2 ∧ Fr (sb :: C) w w' := by
  have hl : W.length ≤ 256 := by have := h.num.2.2.2; simp [all] at this; omega
  obtain ⟨_, _, _, _, c4, _, fz⟩ := h.cells
  have Hsz := hid (p := _) (fun i (hi : i ≤ W.length) => (show (sel pr (W.take i)).2.1.length + (sel pr (W.take i)).1.length = i ∧ (sel pr (W.take i)).2.2 ≤ i from by
    have h1 := sel_perm pr (W.take i)
    have h2 := h1.1.length_eq
    rw [List.length_append, List.length_take, Nat.min_eq_left hi] at h2
    exact ⟨h2, by rw [h1.2]; omega⟩))
  have HFin := hid (p := _) (fun (wr : World) (va vs : Value) (hT : TakeI w wr C (sel pr W).1 (sel pr W).2.1 va vs) (hI : CI wr (sel pr W).2.2) => And.intro (h.taken hT (sel_perm pr W).1 hC) (hst wr (wr.setCell ⟨sb, 4, none⟩ vs) _ [sb] hI ((Fr.refl _ _).setCell (by simp) _) (by simp)))
  have HCL := hid (p := _) hcl
  have HST := hid (p := _) hst
  have HCC := hid (p := _) (fun c hc => (hC c hc).1)
  have HTk := hid (p := _) (fun (wr : World) (hF : Fr C w wr) (i : Nat) (hi : i < W.length) => (h.frO hF (fun c hc => .inr (hC c hc).2)).tk W[i] (mem_all.2 (.inr (.inl (List.getElem_mem hi)))))
  have HSB := hid (p := _) (fun (wr : World) (hF : Fr C w wr) => (show wr.cell? ⟨sb, 4, none⟩ = some vw ∧ wr.frozen? ⟨sb, 4, none⟩ = false from ⟨(h.frO hF (fun c hc => .inr (hC c hc).2)).cells.2.2.2.2.1, (h.frO hF (fun c hc => .inr (hC c hc).2)).cells.2.2.2.2.2.2 4⟩))
  have HI0 := hid (p := _) h0
  obtain ⟨pw, cw, hvw⟩ := ownsRow.form h.wai
  rw [List.length_map] at hvw
  subst hvw
  have HAt := hid (p := _) (fun (hw : 0 < W.length) => (show ∃ g, pw = some ⟨g, 0, none⟩ ∧ ∀ (wr : World) (hF : Fr C w wr) (i : Nat) (hi : i < W.length), wr.cell? ⟨g, i, none⟩ = some (.pointer (some ⟨W[i].b, 0, none⟩)) from by
    obtain ⟨g, cap, cur, hv, _, _, _, _, _, _⟩ := h.wai.at (by rw [List.length_map]; exact hw)
    have hpw : pw = some ⟨g, 0, none⟩ := by simp at hv; exact hv.1
    subst hpw
    refine ⟨g, rfl, fun wr hF i hi => ?_⟩
    have := (h.frO hF (fun c hc => .inr (hC c hc).2)).wai.cell i (by simpa using hi)
    rw [List.getElem_map] at this; exact this))
  clear h hC h0 hst hcl
  go_enter Try.func39, Try.ntmps39
  go_wp2_with fail
  go_loopg [5, 6, 14] W.length (fun gk sa ss q wr => ∃ i : Nat, i ≤ W.length ∧ gk = W.length - i ∧ q = .int .i64 i ∧ (∃ pa na ca, sa = .slice pa na ca) ∧ (∃ pa na ca, ss = .slice pa na ca) ∧ Hid (TakeI w wr C (sel pr (W.take i)).1 (sel pr (W.take i)).2.1 sa ss ∧ CI wr (sel pr (W.take i)).2.2))
  case atStart => exact ⟨0, Nat.zero_le _, rfl, rfl, ⟨none, 0, 0, rfl⟩, ⟨none, 0, 0, rfl⟩, hid ⟨⟨Own.nil _ _, Own.nil _ _, (by intro g hg; cases hg), Fr.refl _ _⟩, HI0.out⟩⟩
  case round =>
    obtain ⟨i, hi, hgk, rfl, ⟨pa, na, ca, rfl⟩, ⟨ps, ns, cs, rfl⟩, K⟩ := hrel
    by_cases hlt : i < W.length
    · have hlt' : (i : Int) < (W.length : Int) := by omega
      obtain ⟨g, rfl, hcell⟩ := HAt.out (by omega)
      have r0 := hcell wr K.out.1.fr i hlt
      obtain ⟨_, _, _, _, k4, k5, _⟩ := (HTk.out wr K.out.1.fr i hlt).cells
      have HQ := hid (p := _) (HCL.out wr _ W[i] K.out.2 (by have := (Hsz.out i hi).2; omega) (List.getElem_mem hlt))
      have HS := hid (p := _) (show sel pr (W.take (i + 1)) = selS pr (sel pr (W.take i)) W[i] from by rw [List.take_succ_eq_append_getElem hlt, sel_snoc])
      by_cases hp : pr (sel pr (W.take i)).2.2 W[i] = true
      · have HN := hid (p := _) (fun (w5 : World) (hF : Fr C wr w5) (hI : CI w5 ((sel pr (W.take i)).2.2 + 1)) => (show ∃ v' W', (Builtin.append_ #[60, 60] 60 #[.slice pa na ca, .slice (some ⟨w5.heap.size, 0, none⟩) 1 1]).run Try.prog (w5.alloc (.cells #[.pointer (some ⟨W[i].b, 0, none⟩)] 61)) = .ok v' W' ∧ (∃ pa na ca, v' = .slice pa na ca) ∧ Hid (TakeI w W' C (sel pr (W.take (i + 1))).1 (sel pr (W.take (i + 1))).2.1 v' (.slice ps ns cs) ∧ CI W' (sel pr (W.take (i + 1))).2.2) from by
          have h1 := K.out.1.fr1 hF HCC.out
          obtain ⟨v', W', q1, q2, q3, q4⟩ := run_app1 w5 w.heap.size _ _ W[i].b h1.oa (by have := (Hsz.out i hi).1; rw [List.length_map]; omega) h1.fr.size
          obtain ⟨pa', ca', hv'⟩ := ownsRow.form q2
          rw [HS.out, show selS pr (sel pr (W.take i)) W[i] = ((sel pr (W.take i)).1 ++ [W[i]], (sel pr (W.take i)).2.1, (sel pr (W.take i)).2.2 + 1) from by unfold selS; rw [if_pos hp]]
          exact ⟨v', W', q1, ⟨_, _, _, hv'⟩, h1.woke q2 q3 q4, HST.out w5 W' _ _ hI q3 (fun k hk => .inl (h1.oa.blk k (by simpa using hk)).1)⟩))
        rw [hp] at HQ
        simp only [if_true] at HQ
        clear hp HS hcell
        generalize W[i].b = tb at *
        generalize W[i].qu = tq at *
        generalize W[i].un = tu at *
        go_wp2_with (first | (go_at_call 45; refine HQ.out.mono ?_; rintro e w5 ⟨rfl, hI5, hF5⟩; obtain ⟨v', W', hap, ⟨pa', na', ca', rfl⟩, K5⟩ := HN.out w5 hF5 hI5) | (at_builtin; refine wpList_app rfl _ _ 60 rfl rfl rfl hap ?_) | go_in)
        go_roundg (W.length - (i + 1))
        case measure => omega
        case rel => exact ⟨i + 1, by omega, rfl, by go_num, ⟨_, _, _, rfl⟩, ⟨_, _, _, rfl⟩, K5⟩
      · have HN := hid (p := _) (fun (w5 : World) (hF : Fr C wr w5) (hI : CI w5 (sel pr (W.take i)).2.2) => (show ∃ v' W', (Builtin.append_ #[60, 60] 60 #[.slice ps ns cs, .slice (some ⟨w5.heap.size, 0, none⟩) 1 1]).run Try.prog (w5.alloc (.cells #[.pointer (some ⟨W[i].b, 0, none⟩)] 61)) = .ok v' W' ∧ (∃ pa na ca, v' = .slice pa na ca) ∧ Hid (TakeI w W' C (sel pr (W.take (i + 1))).1 (sel pr (W.take (i + 1))).2.1 (.slice pa na ca) v' ∧ CI W' (sel pr (W.take (i + 1))).2.2) from by
          have h1 := K.out.1.fr1 hF HCC.out
          obtain ⟨v', W', q1, q2, q3, q4⟩ := run_app1 w5 w.heap.size _ _ W[i].b h1.os (by have := (Hsz.out i hi).1; rw [List.length_map]; omega) h1.fr.size
          obtain ⟨pa', ca', hv'⟩ := ownsRow.form q2
          rw [HS.out, show selS pr (sel pr (W.take i)) W[i] = ((sel pr (W.take i)).1, (sel pr (W.take i)).2.1 ++ [W[i]], (sel pr (W.take i)).2.2) from by unfold selS; rw [if_neg hp]]
          exact ⟨v', W', q1, ⟨_, _, _, hv'⟩, h1.stay q2 q3 q4, HST.out w5 W' _ _ hI q3 (fun k hk => .inl (h1.os.blk k (by simpa using hk)).1)⟩))
        rw [show pr (sel pr (W.take i)).2.2 W[i] = false from by simpa using hp] at HQ
        simp only [Bool.false_eq_true, if_false] at HQ
        clear hp HS hcell
        generalize W[i].b = tb at *
        generalize W[i].qu = tq at *
        generalize W[i].un = tu at *
        go_wp2_with (first | (go_at_call 45; refine HQ.out.mono ?_; rintro e w5 ⟨rfl, hI5, hF5⟩; obtain ⟨v', W', hap, ⟨pa', na', ca', rfl⟩, K5⟩ := HN.out w5 hF5 hI5) | (at_builtin; refine wpList_app rfl _ _ 60 rfl rfl rfl hap ?_) | go_in)
        go_roundg (W.length - (i + 1))
        case measure => omega
        case rel => exact ⟨i + 1, by omega, rfl, by go_num, ⟨_, _, _, rfl⟩, ⟨_, _, _, rfl⟩, K5⟩
    · obtain rfl : i = W.length := by omega
      have KE := hid (p := _) (show TakeI w wr C (sel pr W).1 (sel pr W).2.1 (.slice pa na ca) (.slice ps ns cs) ∧ CI wr (sel pr W).2.2 from by have := K.out; rwa [List.take_of_length_le (Nat.le_refl _)] at this)
      obtain ⟨s4, sf⟩ := HSB.out wr KE.out.1.fr
      have HE := hid (p := _) (HFin.out wr _ _ KE.out.1 KE.out.2)
      go_wp2_with fail
      go_ret
      exact ⟨_, _, rfl, HE.out.1.1, HE.out.1.2.1, HE.out.1.2.2.1, HE.out.2, HE.out.1.2.2.2⟩

theorem take40 (w : World) (B sb mb : Nat) (vr vw : Value) (p now : Nat) (R W : List Tk) (X : Option Tk) (ts : List (Nat × Nat)) (h : SI w B sb mb vr vw p now R W X [] ts) (pr : Nat → Tk → Bool) (CI : World → Nat → Prop) (C : List Nat) (nb : Nat) (hC : ∀ c ∈ C, c < w.heap.size ∧ Oth w c) (h0 : CI w 0)
    (hst : ∀ V V' j S, CI V j → Fr S V V' → (∀ k ∈ S, w.heap.size ≤ k ∨ k = sb) → CI V' j)
    (hcl : ∀ V j t, CI V j → j ≤ W.length → t ∈ W → Calls Try.prog 40 #[.agg #[.int .u32 (t.qu : Nat), .int .u64 (t.un : Nat)], .pointer (some ⟨nb, 0, none⟩)] V fun e w' => e = .returned (.bool (pr j t)) ∧ CI w' (if pr j t = true then j + 1 else j) ∧ Fr C V w') :
    Calls Try.prog 39 #[.pointer (some ⟨sb, 0, none⟩), .func (.func 40) #[] #[.pointer (some ⟨nb, 0, none⟩)]] w fun e w' => ∃ va vs, e = .returned va ∧ SI w' B sb mb vr vs p now R (sel pr W).2.1 X (sel pr W).1 ts ∧ Own w' w.heap.size va ((sel pr W).1.map Tk.b) ∧ (∀ g, va.ownBlock = some g → vs.ownBlock ≠ some g) ∧ CI w' (sel pr W).2.2 ∧ Fr (sb :: C) w w' := by
  have hl : W.length ≤ 256 := by have := h.num.2.2.2; simp [all] at this; omega
  obtain ⟨_, _, _, _, c4, _, fz⟩ := h.cells
  have Hsz := hid (p := _) (fun i (hi : i ≤ W.length) => (show (sel pr (W.take i)).2.1.length + (sel pr (W.take i)).1.length = i ∧ (sel pr (W.take i)).2.2 ≤ i from by
    have h1 := sel_perm pr (W.take i)
    have h2 := h1.1.length_eq
    rw [List.length_append, List.length_take, Nat.min_eq_left hi] at h2
    exact ⟨h2, by rw [h1.2]; omega⟩))
  have HFin := hid (p := _) (fun (wr : World) (va vs : Value) (hT : TakeI w wr C (sel pr W).1 (sel pr W).2.1 va vs) (hI : CI wr (sel pr W).2.2) => And.intro (h.taken hT (sel_perm pr W).1 hC) (hst wr (wr.setCell ⟨sb, 4, none⟩ vs) _ [sb] hI ((Fr.refl _ _).setCell (by simp) _) (by simp)))
  have HCL := hid (p := _) hcl
  have HST := hid (p := _) hst
  have HCC := hid (p := _) (fun c hc => (hC c hc).1)
  have HTk := hid (p := _) (fun (wr : World) (hF : Fr C w wr) (i : Nat) (hi : i < W.length) => (h.frO hF (fun c hc => .inr (hC c hc).2)).tk W[i] (mem_all.2 (.inr (.inl (List.getElem_mem hi)))))
  have HSB := hid (p := _) (fun (wr : World) (hF : Fr C w wr) => (show wr.cell? ⟨sb, 4, none⟩ = some vw ∧ wr.frozen? ⟨sb, 4, none⟩ = false from ⟨(h.frO hF (fun c hc => .inr (hC c hc).2)).cells.2.2.2.2.1, (h.frO hF (fun c hc => .inr (hC c hc).2)).cells.2.2.2.2.2.2 4⟩))
  have HI0 := hid (p := _) h0
  obtain ⟨pw, cw, hvw⟩ := ownsRow.form h.wai
  rw [List.length_map] at hvw
  subst hvw
  have HAt := hid (p := _) (fun (hw : 0 < W.length) => (show ∃ g, pw = some ⟨g, 0, none⟩ ∧ ∀ (wr : World) (hF : Fr C w wr) (i : Nat) (hi : i < W.length), wr.cell? ⟨g, i, none⟩ = some (.pointer (some ⟨W[i].b, 0, none⟩)) from by
    obtain ⟨g, cap, cur, hv, _, _, _, _, _, _⟩ := h.wai.at (by rw [List.length_map]; exact hw)
    have hpw : pw = some ⟨g, 0, none⟩ := by simp at hv; exact hv.1
    subst hpw
    refine ⟨g, rfl, fun wr hF i hi => ?_⟩
    have := (h.frO hF (fun c hc => .inr (hC c hc).2)).wai.cell i (by simpa using hi)
    rw [List.getElem_map] at this; exact this))
  clear h hC h0 hst hcl
  go_enter Try.func39, Try.ntmps39
  go_wp2_with fail
  go_loopg [5, 6, 14] W.length (fun gk sa ss q wr => ∃ i : Nat, i ≤ W.length ∧ gk = W.length - i ∧ q = .int .i64 i ∧ (∃ pa na ca, sa = .slice pa na ca) ∧ (∃ pa na ca, ss = .slice pa na ca) ∧ Hid (TakeI w wr C (sel pr (W.take i)).1 (sel pr (W.take i)).2.1 sa ss ∧ CI wr (sel pr (W.take i)).2.2))
  case atStart => exact ⟨0, Nat.zero_le _, rfl, rfl, ⟨none, 0, 0, rfl⟩, ⟨none, 0, 0, rfl⟩, hid ⟨⟨Own.nil _ _, Own.nil _ _, (by intro g hg; cases hg), Fr.refl _ _⟩, HI0.out⟩⟩
  case round =>
    obtain ⟨i, hi, hgk, rfl, ⟨pa, na, ca, rfl⟩, ⟨ps, ns, cs, rfl⟩, K⟩ := hrel
    by_cases hlt : i < W.length
    · have hlt' : (i : Int) < (W.length : Int) := by omega
      obtain ⟨g, rfl, hcell⟩ := HAt.out (by omega)
      have r0 := hcell wr K.out.1.fr i hlt
      obtain ⟨_, _, _, _, k4, k5, _⟩ := (HTk.out wr K.out.1.fr i hlt).cells
      have HQ := hid (p := _) (HCL.out wr _ W[i] K.out.2 (by have := (Hsz.out i hi).2; omega) (List.getElem_mem hlt))
      have HS := hid (p := _) (show sel pr (W.take (i + 1)) = selS pr (sel pr (W.take i)) W[i] from by rw [List.take_succ_eq_append_getElem hlt, sel_snoc])
      by_cases hp : pr (sel pr (W.take i)).2.2 W[i] = true
      · have HN := hid (p := _) (fun (w5 : World) (hF : Fr C wr w5) (hI : CI w5 ((sel pr (W.take i)).2.2 + 1)) => (show ∃ v' W', (Builtin.append_ #[60, 60] 60 #[.slice pa na ca, .slice (some ⟨w5.heap.size, 0, none⟩) 1 1]).run Try.prog (w5.alloc (.cells #[.pointer (some ⟨W[i].b, 0, none⟩)] 61)) = .ok v' W' ∧ (∃ pa na ca, v' = .slice pa na ca) ∧ Hid (TakeI w W' C (sel pr (W.take (i + 1))).1 (sel pr (W.take (i + 1))).2.1 v' (.slice ps ns cs) ∧ CI W' (sel pr (W.take (i + 1))).2.2) from by
          have h1 := K.out.1.fr1 hF HCC.out
          obtain ⟨v', W', q1, q2, q3, q4⟩ := run_app1 w5 w.heap.size _ _ W[i].b h1.oa (by have := (Hsz.out i hi).1; rw [List.length_map]; omega) h1.fr.size
          obtain ⟨pa', ca', hv'⟩ := ownsRow.form q2
          rw [HS.out, show selS pr (sel pr (W.take i)) W[i] = ((sel pr (W.take i)).1 ++ [W[i]], (sel pr (W.take i)).2.1, (sel pr (W.take i)).2.2 + 1) from by unfold selS; rw [if_pos hp]]
          exact ⟨v', W', q1, ⟨_, _, _, hv'⟩, h1.woke q2 q3 q4, HST.out w5 W' _ _ hI q3 (fun k hk => .inl (h1.oa.blk k (by simpa using hk)).1)⟩))
        rw [hp] at HQ
        simp only [if_true] at HQ
        clear hp HS hcell
        generalize W[i].b = tb at *
        generalize W[i].qu = tq at *
        generalize W[i].un = tu at *
        go_wp2_with (first | (go_at_call 40; refine HQ.out.mono ?_; rintro e w5 ⟨rfl, hI5, hF5⟩; obtain ⟨v', W', hap, ⟨pa', na', ca', rfl⟩, K5⟩ := HN.out w5 hF5 hI5) | (at_builtin; refine wpList_app rfl _ _ 60 rfl rfl rfl hap ?_) | go_in)
        go_roundg (W.length - (i + 1))
        case measure => omega
        case rel => exact ⟨i + 1, by omega, rfl, by go_num, ⟨_, _, _, rfl⟩, ⟨_, _, _, rfl⟩, K5⟩
      · have HN := hid (p := _) (fun (w5 : World) (hF : Fr C wr w5) (hI : CI w5 (sel pr (W.take i)).2.2) => (show ∃ v' W', (Builtin.append_ #[60, 60] 60 #[.slice ps ns cs, .slice (some ⟨w5.heap.size, 0, none⟩) 1 1]).run Try.prog (w5.alloc (.cells #[.pointer (some ⟨W[i].b, 0, none⟩)] 61)) = .ok v' W' ∧ (∃ pa na ca, v' = .slice pa na ca) ∧ Hid (TakeI w W' C (sel pr (W.take (i + 1))).1 (sel pr (W.take (i + 1))).2.1 (.slice pa na ca) v' ∧ CI W' (sel pr (W.take (i + 1))).2.2) from by
          have h1 := K.out.1.fr1 hF HCC.out
          obtain ⟨v', W', q1, q2, q3, q4⟩ := run_app1 w5 w.heap.size _ _ W[i].b h1.os (by have := (Hsz.out i hi).1; rw [List.length_map]; omega) h1.fr.size
          obtain ⟨pa', ca', hv'⟩ := ownsRow.form q2
          rw [HS.out, show selS pr (sel pr (W.take i)) W[i] = ((sel pr (W.take i)).1, (sel pr (W.take i)).2.1 ++ [W[i]], (sel pr (W.take i)).2.2) from by unfold selS; rw [if_neg hp]]
          exact ⟨v', W', q1, ⟨_, _, _, hv'⟩, h1.stay q2 q3 q4, HST.out w5 W' _ _ hI q3 (fun k hk => .inl (h1.os.blk k (by simpa using hk)).1)⟩))
        rw [show pr (sel pr (W.take i)).2.2 W[i] = false from by simpa using hp] at HQ
        simp only [Bool.false_eq_true, if_false] at HQ
        clear hp HS hcell
        generalize W[i].b = tb at *
        generalize W[i].qu = tq at *
        generalize W[i].un = tu at *
        go_wp2_with (first | (go_at_call 40; refine HQ.out.mono ?_; rintro e w5 ⟨rfl, hI5, hF5⟩; obtain ⟨v', W', hap, ⟨pa', na', ca', rfl⟩, K5⟩ := HN.out w5 hF5 hI5) | (at_builtin; refine wpList_app rfl _ _ 60 rfl rfl rfl hap ?_) | go_in)
        go_roundg (W.length - (i + 1))
        case measure => omega
        case rel => exact ⟨i + 1, by omega, rfl, by go_num, ⟨_, _, _, rfl⟩, ⟨_, _, _, rfl⟩, K5⟩
    · obtain rfl : i = W.length := by omega
      have KE := hid (p := _) (show TakeI w wr C (sel pr W).1 (sel pr W).2.1 (.slice pa na ca) (.slice ps ns cs) ∧ CI wr (sel pr W).2.2 from by have := K.out; rwa [List.take_of_length_le (Nat.le_refl _)] at this)
      obtain ⟨s4, sf⟩ := HSB.out wr KE.out.1.fr
      have HE := hid (p := _) (HFin.out wr _ _ KE.out.1 KE.out.2)
      go_wp2_with fail
      go_ret
      exact ⟨_, _, rfl, HE.out.1.1, HE.out.1.2.1, HE.out.1.2.2.1, HE.out.2, HE.out.1.2.2.2⟩
end Go.Proofs.Ytenphgpmdigdcaa
