/-
  The walks of Wait and Ready of package sched. No statement is proved here.
-/
import Derived.Test.YtenphgpmdigdcaaSchD
namespace Go.Proofs.Ytenphgpmdigdcaa
open Go.RowKit Go.BigFrame Go.MapKept
set_option linter.unusedVariables false
set_option linter.unusedSimpArgs false
set_option maxRecDepth 1000000
set_option maxHeartbeats 4000000

theorem ends_any (q : Int) (u : Nat) (w : World) : Calls Try.prog 34 #[.agg #[.int .u32 q, .int .u64 (u : Nat)]] w fun e w' => e = .returned (.bool (u != 0)) ∧ w' = w.alloc (.cells #[.int .u32 q, .int .u64 (u : Nat)] 65) := by
  go_enter Try.func34, Try.ntmps34
  go_wp2
  go_ret
  refine ⟨?_, rfl⟩
  cases u <;> rfl
section
variable {w w' : World} {B sb mb : Nat} {vr vw : Value} {p now : Nat} {R W : List Tk} {X : Option Tk} {F : List Tk} {ts : List (Nat × Nat)}
theorem wait_nil (q u : Int) (w : World) : Calls Try.prog 20 #[.pointer none, .int .u32 q, .int .u64 u] w fun e w' => e = .returned (.int .i64 1) ∧ w' = w := by
  go_enter Try.func20, Try.ntmps20
  go_wp2_with (go_at_call 43; refine (refused_nil _).mono ?_; rintro e w' ⟨rfl, rfl⟩)
  go_ret
  exact ⟨rfl, rfl⟩
theorem wait_no (h : SS w B sb p now R W none) (q u : Int) : Calls Try.prog 20 #[.pointer (some ⟨sb, 0, none⟩), .int .u32 q, .int .u64 u] w fun e w' => e = .returned (.int .i64 3) ∧ w' = w := by
  obtain ⟨mb, vr, vw, ts, h⟩ := h
  have H := hid (p := _) (refused_any h)
  clear h
  go_enter Try.func20, Try.ntmps20
  go_wp2_with (go_at_call 43; refine H.out.mono ?_; rintro e w' ⟨rfl, rfl⟩)
  go_ret
  exact ⟨rfl, rfl⟩
theorem wait_bad {t : Tk} (h : SS w B sb p now R W (some t)) (q u : Nat) (hu : u ≠ 0) (hb : u ≤ now ∨ 4611686018427387904 ≤ u) : Calls Try.prog 20 #[.pointer (some ⟨sb, 0, none⟩), .int .u32 (q : Nat), .int .u64 (u : Nat)] w fun e w' => e = .returned (.int .i64 2) ∧ Fr [] w w' := by
  obtain ⟨mb, vr, vw, ts, h⟩ := h
  have H := hid (p := _) (refused_any h)
  have H34 := hid (p := _) (fun W => ends_any q u W)
  rw [show (u != 0) = true from by simpa using hu] at H34
  obtain ⟨_, c1, _⟩ := h.cells
  have hsl := lt_of_heap h.blk
  clear h
  by_cases h1 : u ≤ now
  · have h1' : (u : Int) ≤ (now : Int) := by omega
    go_enter Try.func20, Try.ntmps20
    go_wp2_with (first | (go_at_call 43; refine H.out.mono ?_; rintro e w' ⟨rfl, rfl⟩) | (go_at_call 34; refine (H34.out _).mono ?_; rintro e w' ⟨rfl, rfl⟩))
    go_ret
    exact ⟨rfl, ((Fr.refl _ _).alloc _).alloc _⟩
  · have h1' : ¬ (u : Int) ≤ (now : Int) := by omega
    have h2 : (4611686018427387904 : Int) ≤ (u : Int) := by omega
    go_enter Try.func20, Try.ntmps20
    go_wp2_with (first | (go_at_call 43; refine H.out.mono ?_; rintro e w' ⟨rfl, rfl⟩) | (go_at_call 34; refine (H34.out _).mono ?_; rintro e w' ⟨rfl, rfl⟩))
    go_ret
    exact ⟨rfl, ((Fr.refl _ _).alloc _).alloc _⟩
/-- A task under way is written. -/
theorem SI.float {t t' : Tk} (h : SI w B sb mb vr vw p now R W X [t] ts) (hF : Fr [t.b] w w') (ht : TkAt w' t') (hb : t'.b = t.b) (hi : t'.id = t.id) (hr : t'.qu < 4294967296 ∧ t'.un < 4611686018427387904) : SI w' B sb mb vr vw p now R W X [t'] ts := by
  have htm : t ∈ all R W X [t] := by simp [all]
  have hall : ∀ F, all R W X F = all R W X [] ++ F := fun F => by simp [all]
  have hnob := h.nob
  rw [hall [t], List.map_append] at hnob
  have hoth : ∀ u ∈ all R W X [], u.b ∉ [t.b] := fun u hu e => by
    simp at e
    exact (List.nodup_append.1 hnob).2.2 u.b (List.mem_map.2 ⟨u, hu, rfl⟩) t.b (by simp) e
  have hsub : ∀ u ∈ all R W X [], u ∈ all R W X [t] := fun u hu => by rw [hall]; simp [hu]
  have hm : ∀ u ∈ all R W X [t'], u ∈ all R W X [] ∨ u = t' := fun u hu => by rw [hall] at hu; simpa using hu
  have hT := h.tk t htm
  refine ⟨hF.heap h.blk (by simpa using (blk_ne hT h.blk (by decide)).symm), h.row.fr hF (fun g hg => ?_), h.wai.fr hF (fun g hg => ?_), h.apt, h.map.fr hF (by simpa using (h.map.ne hT).symm), fun u hu => ?_, ?_, ⟨h.low.1, h.low.2.1, fun u hu => ?_⟩, ?_, fun u hu => ?_, h.stR, h.stW, h.stX, h.num.1, h.num.2.1, h.num.2.2.1, ?_⟩
  · obtain ⟨_, c, hc⟩ := h.row.blk g hg; simpa using blk_ne hc hT (by decide)
  · obtain ⟨_, c, hc⟩ := h.wai.blk g hg; simpa using blk_ne hc hT (by decide)
  · rcases hm u hu with h1 | rfl
    · exact (h.tk u (hsub u h1)).fr hF (hoth u h1)
    · exact ht
  · have := h.per
    rw [hall, List.map_append] at this ⊢
    simpa [hb, hi] using this
  · rcases hm u hu with h1 | rfl
    · exact h.low.2.2 u (hsub u h1)
    · rw [hb]; exact h.low.2.2 t htm
  · have := h.nod
    rw [hall, List.map_append] at this ⊢
    simpa [hi] using this
  · rcases hm u hu with h1 | rfl
    · exact h.rng u (hsub u h1)
    · exact ⟨by rw [hi]; exact (h.rng t htm).1, hr⟩
  · have := h.num.2.2.2
    rw [hall] at this ⊢; simpa using this
/-- A task under way stands behind those that wait. -/
theorem SI.parked {t : Tk} {W' : World} {v' : Value} (h : SI w B sb mb vr vw p now R W none [t] ts) (hst : t.st = 3) (h1 : Own W' B v' (W.map Tk.b ++ [t.b])) (hF : Fr vw.ownBlock.toList w W') (h2 : ∀ g', v'.ownBlock = some g' → vw.ownBlock = some g' ∨ w.heap.size ≤ g') :
    SS (W'.setCell ⟨sb, 4, none⟩ v') B sb p now R (W ++ [t]) none ∧ Kq B w (W'.setCell ⟨sb, 4, none⟩ v') := by
  have hF5 : Fr [sb] W' (W'.setCell ⟨sb, 4, none⟩ v') := (Fr.refl _ _).setCell (by simp) _
  have hlt : sb < w.heap.size := lt_of_heap h.blk
  have hwb : ∀ k c ty f, w.heap[k]? = some (.cells c ty f) → ty ≠ 61 → k ∉ vw.ownBlock.toList := fun k c ty f hk hne hm => by
    obtain ⟨_, c', hc⟩ := h.wai.blk k (by simpa using hm)
    rw [hk] at hc; simp at hc; exact hne hc.2.1
  have hP : (all R (W ++ [t]) none []).Perm (all R W none [t]) := by simp [all]
  have hmb : mb ∉ vw.ownBlock.toList := fun hm => by
    obtain ⟨_, c', hc⟩ := h.wai.blk mb (by simpa using hm)
    exact h.map.ne hc rfl
  have hb2 := hF.heap h.blk (hwb _ _ _ _ h.blk (by decide))
  have hTot : Fr (sb :: vw.ownBlock.toList) w (W'.setCell ⟨sb, 4, none⟩ v') := (hF.mono (by simp; exact fun t ht => .inr ht)).trans hF5 (fun k hk => .inl (by simp at hk; simp [hk]))
  refine ⟨⟨mb, vr, v', ts, ?_, (h.row.fr hF (fun g hg hm => h.apt g hg (by simpa using hm))).fr hF5 (fun g hg => ?_), ?_, fun g hg hg2 => ?_, (h.map.fr hF hmb).fr hF5 (by simpa using (h.map.ne h.blk).symm), fun u hu => ?_, h.per.trans (List.Perm.map _ hP).symm, ⟨h.low.1, h.low.2.1, fun u hu => h.low.2.2 u (hP.subset hu)⟩, ((List.Perm.map _ hP).nodup_iff).2 h.nod, fun u hu => h.rng u (hP.subset hu), h.stR, fun u hu => ?_, by simp, h.num.1, h.num.2.1, h.num.2.2.1, by rw [hP.length_eq]; exact h.num.2.2.2⟩, hTot.kq (fun k hk => ?_)⟩
  · simp [World.setCell, Array.getElem?_modify, hb2]
  · obtain ⟨_, c, hc⟩ := h.row.blk g hg; simpa using blk_ne hc h.blk (by decide)
  · rw [List.map_append]
    refine h1.fr hF5 (fun g hg => ?_)
    simp
    rcases h2 g hg with h3 | h3
    · obtain ⟨_, c, hc⟩ := h.wai.blk g h3; exact blk_ne hc h.blk (by decide)
    · omega
  · rcases h2 g hg2 with h3 | h3
    · exact h.apt g hg h3
    · obtain ⟨_, c, hc⟩ := h.row.blk g hg
      have := lt_of_heap hc; omega
  · have hT := h.tk u (hP.subset hu)
    exact (hT.fr hF (hwb _ _ _ _ hT (by decide))).fr hF5 (by simpa using blk_ne hT h.blk (by decide))
  · rcases List.mem_append.1 hu with h3 | h3
    · exact h.stW u h3
    · simp at h3; subst h3; exact hst
  · rcases List.mem_cons.1 hk with rfl | hk
    · exact h.sob.1
    · exact h.sob.2.2.2.1 k (by simpa using hk)
theorem TkAt.park {t : Tk} (h : TkAt w t) (q u : Nat) : TkAt (((w.setCell ⟨t.b, 1, none⟩ (.int .u8 3)).setCell ⟨t.b, 4, none⟩ (.int .u32 (q : Nat))).setCell ⟨t.b, 5, none⟩ (.int .u64 (u : Nat))) { t with st := 3, qu := q, un := u } := by
  unfold TkAt at h ⊢
  simp [World.setCell, Array.getElem?_modify, h, Tk.cells]
theorem wait_ok {t : Tk} (h : SS w B sb p now R W (some t)) (q u : Nat) (hq : q < 4294967296) (hu : u = 0 ∨ (now < u ∧ u < 4611686018427387904)) : Calls Try.prog 20 #[.pointer (some ⟨sb, 0, none⟩), .int .u32 (q : Nat), .int .u64 (u : Nat)] w fun e w' => e = .returned (.int .i64 0) ∧ SS w' B sb p now R (W ++ [{ t with st := 3, qu := q, un := u }]) none ∧ Kq B w w' := by
  obtain ⟨mb, vr, vw, ts, h⟩ := h
  have H := hid (p := _) (refused_any h)
  have H34 := hid (p := _) (fun W => ends_any q u W)
  obtain ⟨_, c1, _⟩ := h.cells
  have hsl := lt_of_heap h.blk
  have F0 : Fr [] w ((w.alloc (.cells #[.int .u32 (q : Nat), .int .u64 (u : Nat)] 65)).alloc (.cells #[.int .u32 (q : Nat), .int .u64 (u : Nat)] 65)) := ((Fr.refl _ _).alloc _).alloc _
  have hB0 : ((w.alloc (.cells #[.int .u32 (q : Nat), .int .u64 (u : Nat)] 65)).alloc (.cells #[.int .u32 (q : Nat), .int .u64 (u : Nat)] 65)).heap[w.heap.size]? = some (.cells #[.int .u32 (q : Nat), .int .u64 (u : Nat)] 65) := (Below.heap_alloc _ _ _ (by simp)).trans (heap_alloc_new w _)
  have H44 := hid (p := _) (show Calls Try.prog 44 #[.pointer (some ⟨sb, 0, none⟩)] ((w.alloc (.cells #[.int .u32 (q : Nat), .int .u64 (u : Nat)] 65)).alloc (.cells #[.int .u32 (q : Nat), .int .u64 (u : Nat)] 65)) fun e w' => e = .returned (.pointer (some ⟨t.b, 0, none⟩)) ∧ Hid (SI w' B sb mb vr vw p now R W none [t] ts ∧ Kq B w w' ∧ w'.heap[w.heap.size]? = some (.cells #[.int .u32 (q : Nat), .int .u64 (u : Nat)] 65)) from
    (stop_any (h.fr0 F0)).mono fun e w' ⟨q1, q2⟩ => ⟨q1, by
      subst q2
      exact ⟨(h.fr0 F0).stopped, F0.kq0.trans ((h.fr0 F0).kqStop _ _), ((Fr.refl [sb] _).setCell (by simp) _).heap hB0 (by simp; omega)⟩⟩)
  have hu' : u < 4611686018427387904 := by omega
  clear h F0 hB0
  have HRest := hid (p := _) (fun (w5 : World) (K5 : Hid (SI w5 B sb mb vr vw p now R W none [t] ts ∧ Kq B w w5 ∧ w5.heap[w.heap.size]? = some (.cells #[.int .u32 (q : Nat), .int .u64 (u : Nat)] 65))) => (show
      SI ((((w5.setCell ⟨t.b, 1, none⟩ (.int .u8 3)).setCell ⟨t.b, 4, none⟩ (.int .u32 (q : Nat))).setCell ⟨t.b, 5, none⟩ (.int .u64 (u : Nat))).drew) B sb mb vr vw p now R W none [{ t with st := 3, qu := q, un := u }] ts ∧ Kq B w ((((w5.setCell ⟨t.b, 1, none⟩ (.int .u8 3)).setCell ⟨t.b, 4, none⟩ (.int .u32 (q : Nat))).setCell ⟨t.b, 5, none⟩ (.int .u64 (u : Nat))).drew) ∧ ((((w5.setCell ⟨t.b, 1, none⟩ (.int .u8 3)).setCell ⟨t.b, 4, none⟩ (.int .u32 (q : Nat))).setCell ⟨t.b, 5, none⟩ (.int .u64 (u : Nat))).drew).heap.size = w5.heap.size from by
    obtain ⟨a1, a2, a3⟩ := K5.out
    have hF : Fr [t.b] w5 ((((w5.setCell ⟨t.b, 1, none⟩ (.int .u8 3)).setCell ⟨t.b, 4, none⟩ (.int .u32 (q : Nat))).setCell ⟨t.b, 5, none⟩ (.int .u64 (u : Nat))).drew) := ((((Fr.refl _ _).setCell (by simp) _).setCell (by simp) _).setCell (by simp) _).drew
    exact ⟨a1.float hF (((a1.tk t (by simp [all])).park q u).fr (Fr.refl [] _).drew (by simp)) rfl rfl ⟨hq, hu'⟩, a2.trans (hF.kq (fun k hk => by simp at hk; subst hk; exact a1.sob.2.2.2.2 t (by simp [all]))), by simp [World.setCell]⟩))
  have HApp := hid (p := _) (fun (w6 : World) (K6 : SI w6 B sb mb vr vw p now R W none [{ t with st := 3, qu := q, un := u }] ts) => (show ∃ v' W', (Builtin.append_ #[60, 60] 60 #[vw, .slice (some ⟨w6.heap.size, 0, none⟩) 1 1]).run Try.prog (w6.alloc (.cells #[.pointer (some ⟨t.b, 0, none⟩)] 61)) = .ok v' W' ∧ (∃ pr cr n, v' = .slice pr n cr) ∧ W'.cell? ⟨sb, 4, none⟩ = some vw ∧ W'.frozen? ⟨sb, 4, none⟩ = false ∧ SS (W'.setCell ⟨sb, 4, none⟩ v') B sb p now R (W ++ [{ t with st := 3, qu := q, un := u }]) none ∧ Kq B w6 (W'.setCell ⟨sb, 4, none⟩ v') from by
    have hF : Fr [] w6 (w6.alloc (.cells #[.pointer (some ⟨t.b, 0, none⟩)] 61)) := (Fr.refl _ _).alloc _
    have K7 := K6.fr0 hF
    have hn := heap_alloc_new w6 (.cells #[.pointer (some ⟨t.b, 0, none⟩)] 61)
    have hl := K6.num.2.2.2
    obtain ⟨v', W', q1, q2, q3, q4⟩ := run_app (w6.alloc (.cells #[.pointer (some ⟨t.b, 0, none⟩)] 61)) 60 B vw (W.map Tk.b) K7.wai ⟨w6.heap.size, 0, none⟩ 1 1 [t.b] rfl (fun j v hj => by
      have : j = 0 := by
        rcases j with _ | j
        · rfl
        · simp [pvs] at hj
      subst this
      simp [pvs, pv] at hj
      subst hj
      exact cell_of_heap (by simpa using hn) rfl) (by simp [all] at hl ⊢; omega) (by have := K7.low.1; have := lt_of_heap K7.blk; omega)
    have hfin := K7.parked (t := { t with st := 3, qu := q, un := u }) rfl q2 q3 q4
    have hwb : sb ∉ vw.ownBlock.toList := fun hm => by
      obtain ⟨_, c', hc⟩ := K7.wai.blk sb (by simpa using hm)
      have := K7.blk
      rw [this] at hc; simp at hc
    obtain ⟨pr, cr, e⟩ := ownsRow.form q2
    exact ⟨v', W', q1, ⟨pr, cr, _, e⟩, q3.cell K7.cells.2.2.2.2.1 hwb, frozen_of_heap (q3.heap K7.blk hwb), hfin.1, hF.kq0.trans hfin.2⟩))
  rcases hu with h1 | ⟨h1, h2⟩
  · rw [show (u != 0) = false from by simp [h1]] at H34
    clear h1 hu' hq
    go_enter Try.func20, Try.ntmps20
    go_wp2_with (first | (go_at_call 43; refine H.out.mono ?_; rintro e w' ⟨rfl, rfl⟩) | (go_at_call 34; refine (H34.out _).mono ?_; rintro e w' ⟨rfl, rfl⟩) | (go_at_call 44; refine H44.out.mono ?_; rintro e w5 ⟨rfl, K5⟩))
    have d0 := cell_of_heap (o := 0) K5.out.2.2 rfl
    have d1 := cell_of_heap (o := 1) K5.out.2.2 rfl
    obtain ⟨_, k1, _, _, k4, k5, kf⟩ := (K5.out.1.tk t (by simp [all])).cells
    have hne := (blk_ne (K5.out.1.tk t (by simp [all])) K5.out.2.2 (by decide)).symm
    have hne2 := hne.symm
    have hne3 := blk_ne (K5.out.1.tk t (by simp [all])) K5.out.1.blk (by decide)
    have hne4 := hne3.symm
    have HR6 := hid (p := _) (HRest.out w5 K5)
    obtain ⟨pw, cw, hvw⟩ := ownsRow.form K5.out.1.wai
    have c4 := K5.out.1.cells.2.2.2.2.1
    have cf := K5.out.1.cells.2.2.2.2.2.2
    obtain ⟨v', W', a1, ⟨pr, cr, n, rfl⟩, a3, a4, HA⟩ := HApp.out _ HR6.out.1
    rw [HR6.out.2.2] at a1
    have HAA := hid (p := _) HA
    clear HA H44 H34 H HApp HRest
    subst hvw
    generalize (List.map Tk.b W).length = nw at *
    generalize w'.heap.size = n0 at *
    generalize htb : t.b = tb at *
    have HTB := hid (p := _) htb
    clear htb
    go_region_held (fun W => W.cell? ⟨n0, 0, none⟩ = some (.int .u32 (q : Nat)) ∧ W.cell? ⟨n0, 1, none⟩ = some (.int .u64 (u : Nat))) (go_keep) (fail)
    go_wp2_with (first | (at_builtin; refine wpList_app rfl _ _ 60 rfl rfl rfl a1 ?_) | go_in)
    go_ret
    have e := HTB.out
    subst e
    exact ⟨rfl, HAA.out.1, HR6.out.2.1.trans HAA.out.2⟩
  · have g1 : ¬ (u : Int) ≤ (now : Int) := by omega
    have g2 : decide ((4611686018427387904 : Int) ≤ (u : Int)) = false := by simp; omega
    rw [show (u != 0) = true from by simp; omega] at H34
    clear h1 h2 hu' hq
    go_enter Try.func20, Try.ntmps20
    go_wp2_with (first | (go_at_call 43; refine H.out.mono ?_; rintro e w' ⟨rfl, rfl⟩) | (go_at_call 34; refine (H34.out _).mono ?_; rintro e w' ⟨rfl, rfl⟩) | (go_at_call 44; refine H44.out.mono ?_; rintro e w5 ⟨rfl, K5⟩))
    have d0 := cell_of_heap (o := 0) K5.out.2.2 rfl
    have d1 := cell_of_heap (o := 1) K5.out.2.2 rfl
    obtain ⟨_, k1, _, _, k4, k5, kf⟩ := (K5.out.1.tk t (by simp [all])).cells
    have hne := (blk_ne (K5.out.1.tk t (by simp [all])) K5.out.2.2 (by decide)).symm
    have hne2 := hne.symm
    have hne3 := blk_ne (K5.out.1.tk t (by simp [all])) K5.out.1.blk (by decide)
    have hne4 := hne3.symm
    have HR6 := hid (p := _) (HRest.out w5 K5)
    obtain ⟨pw, cw, hvw⟩ := ownsRow.form K5.out.1.wai
    have c4 := K5.out.1.cells.2.2.2.2.1
    have cf := K5.out.1.cells.2.2.2.2.2.2
    obtain ⟨v', W', a1, ⟨pr, cr, n, rfl⟩, a3, a4, HA⟩ := HApp.out _ HR6.out.1
    rw [HR6.out.2.2] at a1
    have HAA := hid (p := _) HA
    clear HA H44 H34 H HApp HRest
    subst hvw
    generalize (List.map Tk.b W).length = nw at *
    generalize w'.heap.size = n0 at *
    generalize htb : t.b = tb at *
    have HTB := hid (p := _) htb
    clear htb
    go_region_held (fun W => W.cell? ⟨n0, 0, none⟩ = some (.int .u32 (q : Nat)) ∧ W.cell? ⟨n0, 1, none⟩ = some (.int .u64 (u : Nat))) (go_keep) (fail)
    go_wp2_with (first | (at_builtin; refine wpList_app rfl _ _ 60 rfl rfl rfl a1 ?_) | go_in)
    go_ret
    have e := HTB.out
    subst e
    exact ⟨rfl, HAA.out.1, HR6.out.2.1.trans HAA.out.2⟩
end
end Go.Proofs.Ytenphgpmdigdcaa
