/-
  The document's points (pharosref09): walks. No statement is proved here.
-/
import Derived.Test.YtpdagpjjlnncbaaDoorValD
namespace Go.Proofs.YtpdagpjjlnncbaaDoor
open Go.RowKit Go.Lib Go.BigFrame
set_option linter.unusedVariables false
set_option linter.unusedSimpArgs false
set_option maxRecDepth 1000000
set_option maxHeartbeats 4000000

theorem given_r {Z : World → Prop} (hZ : Keeps Z) {v1 : Nat} (H1 : Ret Z 35 #[.string ⟨#[163, 120, 89, 19, 202, 77, 235, 117, 171, 216, 65, 65, 77, 10, 112, 0, 152, 232, 121, 119, 121, 64, 199, 140, 115, 254, 111, 43, 238, 108, 3, 82]⟩] (nd v1)) : Ret Z 11 #[] (nd v1) := by
  intro w hw
  have S := St.refl hw
  go_enter Tryd.func11, Tryd.ntmps11
  refine wp_seq_k fun K hK => ?_
  refine wr_list ?_
  refine wl_alloc S (wc (dts 0)) 34 rfl (fun _ => by kernel_rfl) ?_
  intro b1 W2 a' S3 ha
  simp only [Act.put, List.setIfInBounds_toArray, List.set_cons_zero, List.set_cons_succ] at ha
  subst ha
  refine wl_nil (hK _ _ ?_)
  clear hK K
  refine wp_seq_k fun K hK => ?_
  refine wr_list ?_
  refine wl_call hZ S3 H1 rfl (fun _ => by kernel_rfl) ?_
  intro W4 a' S5 ha
  simp only [Act.put, List.setIfInBounds_toArray, List.set_cons_zero, List.set_cons_succ] at ha
  subst ha
  refine wl_store S5 0 b1 34 9 (.tmp 0) (.tmp 1) (wc (dts 0)) (wc (dts v1)) rfl rfl rfl rfl rfl row34 (n9_size _) (n9_size _) (wc_one _) ?_
  intro W6 a' S7 ha
  simp only [Act.put, List.setIfInBounds_toArray, List.set_cons_zero, List.set_cons_succ] at ha
  subst ha
  refine wl_nil (hK _ _ ?_)
  clear hK K
  refine wp_ret ?_
  exact fin_cell (k := 0) S7 rfl rfl rfl row34 (n9_size _) rfl
theorem d_r {Z : World → Prop} (hZ : Keeps Z) {v1 v2 v3 v4 v5 : Nat} (H1 : Ret Z 37 #[.int .u32 121665] (nd v1)) (H2 : Ret Z 38 #[nd 0, nd v1] (nd v2)) (H3 : Ret Z 37 #[.int .u32 121666] (nd v3)) (H4 : Ret Z 40 #[nd v3] (nd v4)) (H5 : Ret Z 36 #[nd v2, nd v4] (nd v5)) : Ret Z 12 #[] (nd v5) := by
  intro w hw
  have S := St.refl hw
  go_enter Tryd.func12, Tryd.ntmps12
  refine wp_seq_k fun K hK => ?_
  refine wr_list ?_
  refine wl_alloc S (wc (dts 0)) 34 rfl (fun _ => by kernel_rfl) ?_
  intro b1 W2 a' S3 ha
  simp only [Act.put, List.setIfInBounds_toArray, List.set_cons_zero, List.set_cons_succ] at ha
  subst ha
  refine wl_nil (hK _ _ ?_)
  clear hK K
  refine wp_seq_k fun K hK => ?_
  refine wr_list ?_
  refine wl_pure (.agg (wc (dts 0))) rfl (fun _ => by kernel_rfl) ?_
  intro a' ha
  simp only [Act.put, List.setIfInBounds_toArray, List.set_cons_zero, List.set_cons_succ] at ha
  subst ha
  refine wl_call hZ S3 H1 rfl (fun _ => by kernel_rfl) ?_
  intro W4 a' S5 ha
  simp only [Act.put, List.setIfInBounds_toArray, List.set_cons_zero, List.set_cons_succ] at ha
  subst ha
  refine wl_call hZ S5 H2 rfl (fun _ => by kernel_rfl) ?_
  intro W6 a' S7 ha
  simp only [Act.put, List.setIfInBounds_toArray, List.set_cons_zero, List.set_cons_succ] at ha
  subst ha
  refine wl_call hZ S7 H3 rfl (fun _ => by kernel_rfl) ?_
  intro W8 a' S9 ha
  simp only [Act.put, List.setIfInBounds_toArray, List.set_cons_zero, List.set_cons_succ] at ha
  subst ha
  refine wl_call hZ S9 H4 rfl (fun _ => by kernel_rfl) ?_
  intro W10 a' S11 ha
  simp only [Act.put, List.setIfInBounds_toArray, List.set_cons_zero, List.set_cons_succ] at ha
  subst ha
  refine wl_call hZ S11 H5 rfl (fun _ => by kernel_rfl) ?_
  intro W12 a' S13 ha
  simp only [Act.put, List.setIfInBounds_toArray, List.set_cons_zero, List.set_cons_succ] at ha
  subst ha
  refine wl_store S13 0 b1 34 9 (.tmp 0) (.tmp 6) (wc (dts 0)) (wc (dts v5)) rfl rfl rfl rfl rfl row34 (n9_size _) (n9_size _) (wc_one _) ?_
  intro W14 a' S15 ha
  simp only [Act.put, List.setIfInBounds_toArray, List.set_cons_zero, List.set_cons_succ] at ha
  subst ha
  refine wl_nil (hK _ _ ?_)
  clear hK K
  refine wp_ret ?_
  exact fin_cell (k := 0) S15 rfl rfl rfl row34 (n9_size _) rfl
theorem rzero_r {Z : World → Prop} (hZ : Keeps Z) {v1 : Nat} (H1 : Ret Z 37 #[.int .u32 1] (nd v1)) : Ret Z 83 #[] (rp 0 v1 v1) := by
  intro w hw
  have S := St.refl hw
  go_enter Tryd.func83, Tryd.ntmps83
  refine wp_seq_k fun K hK => ?_
  refine wr_list ?_
  refine wl_alloc S (n27 0 0 0) 36 rfl (fun _ => by kernel_rfl) ?_
  intro b1 W2 a' S3 ha
  simp only [Act.put, List.setIfInBounds_toArray, List.set_cons_zero, List.set_cons_succ] at ha
  subst ha
  refine wl_nil (hK _ _ ?_)
  clear hK K
  refine wp_seq_k fun K hK => ?_
  refine wr_list ?_
  refine wl_call hZ S3 H1 rfl (fun _ => by kernel_rfl) ?_
  intro W4 a' S5 ha
  simp only [Act.put, List.setIfInBounds_toArray, List.set_cons_zero, List.set_cons_succ] at ha
  subst ha
  refine wl_call hZ S5 H1 rfl (fun _ => by kernel_rfl) ?_
  intro W6 a' S7 ha
  simp only [Act.put, List.setIfInBounds_toArray, List.set_cons_zero, List.set_cons_succ] at ha
  subst ha
  refine wl_pure (.agg (n27 0 v1 v1)) rfl (fun _ => by kernel_rfl) ?_
  intro a' ha
  simp only [Act.put, List.setIfInBounds_toArray, List.set_cons_zero, List.set_cons_succ] at ha
  subst ha
  refine wl_store S7 0 b1 36 27 (.tmp 0) (.tmp 3) (n27 0 0 0) (n27 0 v1 v1) rfl rfl rfl rfl rfl row36 (n27_size _ _ _) (n27_size _ _ _) (n27_one _ _ _) ?_
  intro W8 a' S9 ha
  simp only [Act.put, List.setIfInBounds_toArray, List.set_cons_zero, List.set_cons_succ] at ha
  subst ha
  refine wl_nil (hK _ _ ?_)
  clear hK K
  refine wp_ret ?_
  exact fin_cell (k := 0) S9 rfl rfl rfl row36 (n27_size _ _ _) rfl
theorem radd_r {Z : World → Prop} (hZ : Keeps Z) {x1 y1 z1 x2 y2 z2 v1 v2 v3 v4 v5 v6 v7 v8 v9 v10 v11 v12 v13 v14 v15 v16 v17 v18 v19 v20 : Nat} (H1 : Ret Z 36 #[nd z1, nd z2] (nd v1)) (H2 : Ret Z 36 #[nd v1, nd v1] (nd v2)) (H3 : Ret Z 36 #[nd x1, nd x2] (nd v3)) (H4 : Ret Z 36 #[nd y1, nd y2] (nd v4)) (H5 : Ret Z 11 #[] (nd v5)) (H6 : Ret Z 36 #[nd v5, nd v3] (nd v6)) (H7 : Ret Z 36 #[nd v6, nd v4] (nd v7)) (H8 : Ret Z 38 #[nd v2, nd v7] (nd v8)) (H9 : Ret Z 39 #[nd v2, nd v7] (nd v9)) (H10 : Ret Z 39 #[nd x1, nd y1] (nd v10)) (H11 : Ret Z 39 #[nd x2, nd y2] (nd v11)) (H12 : Ret Z 36 #[nd v10, nd v11] (nd v12)) (H13 : Ret Z 38 #[nd v12, nd v3] (nd v13)) (H14 : Ret Z 38 #[nd v13, nd v4] (nd v14)) (H15 : Ret Z 36 #[nd v1, nd v8] (nd v15)) (H16 : Ret Z 36 #[nd v15, nd v14] (nd v16)) (H17 : Ret Z 36 #[nd v1, nd v9] (nd v17)) (H18 : Ret Z 39 #[nd v4, nd v3] (nd v18)) (H19 : Ret Z 36 #[nd v17, nd v18] (nd v19)) (H20 : Ret Z 36 #[nd v8, nd v9] (nd v20)) : Ret Z 19 #[rp x1 y1 z1, rp x2 y2 z2] (rp v16 v19 v20) := by
  intro w hw
  have S := St.refl hw
  go_enter Tryd.func19, Tryd.ntmps19
  refine wp_seq_k fun K hK => ?_
  refine wr_list ?_
  refine wl_alloc S (n27 x1 y1 z1) 36 rfl (fun _ => by kernel_rfl) ?_
  intro b1 W2 a' S3 ha
  simp only [Act.put, List.setIfInBounds_toArray, List.set_cons_zero, List.set_cons_succ] at ha
  subst ha
  refine wl_alloc S3 (n27 x2 y2 z2) 36 rfl (fun _ => by kernel_rfl) ?_
  intro b4 W5 a' S6 ha
  simp only [Act.put, List.setIfInBounds_toArray, List.set_cons_zero, List.set_cons_succ] at ha
  subst ha
  refine wl_alloc S6 (n27 0 0 0) 36 rfl (fun _ => by kernel_rfl) ?_
  intro b7 W8 a' S9 ha
  simp only [Act.put, List.setIfInBounds_toArray, List.set_cons_zero, List.set_cons_succ] at ha
  subst ha
  refine wl_nil (hK _ _ ?_)
  clear hK K
  refine wp_seq_k fun K hK => ?_
  refine wr_list ?_
  refine wl_pure (.pointer (some ⟨b1, 18, none⟩)) rfl (fun _ => by kernel_rfl) ?_
  intro a' ha
  simp only [Act.put, List.setIfInBounds_toArray, List.set_cons_zero, List.set_cons_succ] at ha
  subst ha
  refine wl_load S9 2 b1 18 34 9 (.tmp 13) (n27 x1 y1 z1) (wc (dts z1)) rfl rfl rfl rfl (sub_n2 _ _ _) row34 (n9_size _) ?_
  intro a' ha
  simp only [Act.put, List.setIfInBounds_toArray, List.set_cons_zero, List.set_cons_succ] at ha
  subst ha
  refine wl_pure (.pointer (some ⟨b4, 18, none⟩)) rfl (fun _ => by kernel_rfl) ?_
  intro a' ha
  simp only [Act.put, List.setIfInBounds_toArray, List.set_cons_zero, List.set_cons_succ] at ha
  subst ha
  refine wl_load S9 1 b4 18 34 9 (.tmp 15) (n27 x2 y2 z2) (wc (dts z2)) rfl rfl rfl rfl (sub_n2 _ _ _) row34 (n9_size _) ?_
  intro a' ha
  simp only [Act.put, List.setIfInBounds_toArray, List.set_cons_zero, List.set_cons_succ] at ha
  subst ha
  refine wl_call hZ S9 H1 rfl (fun _ => by kernel_rfl) ?_
  intro W10 a' S11 ha
  simp only [Act.put, List.setIfInBounds_toArray, List.set_cons_zero, List.set_cons_succ] at ha
  subst ha
  refine wl_alloc S11 (wc (dts 0)) 34 rfl (fun _ => by kernel_rfl) ?_
  intro b12 W13 a' S14 ha
  simp only [Act.put, List.setIfInBounds_toArray, List.set_cons_zero, List.set_cons_succ] at ha
  subst ha
  refine wl_store S14 0 b12 34 9 (.tmp 5) (.tmp 17) (wc (dts 0)) (wc (dts v1)) rfl rfl rfl rfl rfl row34 (n9_size _) (n9_size _) (wc_one _) ?_
  intro W15 a' S16 ha
  simp only [Act.put, List.setIfInBounds_toArray, List.set_cons_zero, List.set_cons_succ] at ha
  subst ha
  refine wl_nil (hK _ _ ?_)
  clear hK K
  refine wp_seq_k fun K hK => ?_
  refine wr_list ?_
  refine wl_load S16 0 b12 0 34 9 (.tmp 5) (wc (dts v1)) (wc (dts v1)) rfl rfl rfl rfl (Sub.self _) row34 (n9_size _) ?_
  intro a' ha
  simp only [Act.put, List.setIfInBounds_toArray, List.set_cons_zero, List.set_cons_succ] at ha
  subst ha
  refine wl_load S16 0 b12 0 34 9 (.tmp 5) (wc (dts v1)) (wc (dts v1)) rfl rfl rfl rfl (Sub.self _) row34 (n9_size _) ?_
  intro a' ha
  simp only [Act.put, List.setIfInBounds_toArray, List.set_cons_zero, List.set_cons_succ] at ha
  subst ha
  refine wl_call hZ S16 H2 rfl (fun _ => by kernel_rfl) ?_
  intro W17 a' S18 ha
  simp only [Act.put, List.setIfInBounds_toArray, List.set_cons_zero, List.set_cons_succ] at ha
  subst ha
  refine wl_alloc S18 (wc (dts 0)) 34 rfl (fun _ => by kernel_rfl) ?_
  intro b19 W20 a' S21 ha
  simp only [Act.put, List.setIfInBounds_toArray, List.set_cons_zero, List.set_cons_succ] at ha
  subst ha
  refine wl_store S21 0 b19 34 9 (.tmp 6) (.tmp 20) (wc (dts 0)) (wc (dts v2)) rfl rfl rfl rfl rfl row34 (n9_size _) (n9_size _) (wc_one _) ?_
  intro W22 a' S23 ha
  simp only [Act.put, List.setIfInBounds_toArray, List.set_cons_zero, List.set_cons_succ] at ha
  subst ha
  refine wl_nil (hK _ _ ?_)
  clear hK K
  refine wp_seq_k fun K hK => ?_
  refine wr_list ?_
  refine wl_pure (.pointer (some ⟨b1, 0, none⟩)) rfl (fun _ => by kernel_rfl) ?_
  intro a' ha
  simp only [Act.put, List.setIfInBounds_toArray, List.set_cons_zero, List.set_cons_succ] at ha
  subst ha
  refine wl_load S23 4 b1 0 34 9 (.tmp 21) (n27 x1 y1 z1) (wc (dts x1)) rfl rfl rfl rfl (sub_n0 _ _ _) row34 (n9_size _) ?_
  intro a' ha
  simp only [Act.put, List.setIfInBounds_toArray, List.set_cons_zero, List.set_cons_succ] at ha
  subst ha
  refine wl_pure (.pointer (some ⟨b4, 0, none⟩)) rfl (fun _ => by kernel_rfl) ?_
  intro a' ha
  simp only [Act.put, List.setIfInBounds_toArray, List.set_cons_zero, List.set_cons_succ] at ha
  subst ha
  refine wl_load S23 3 b4 0 34 9 (.tmp 23) (n27 x2 y2 z2) (wc (dts x2)) rfl rfl rfl rfl (sub_n0 _ _ _) row34 (n9_size _) ?_
  intro a' ha
  simp only [Act.put, List.setIfInBounds_toArray, List.set_cons_zero, List.set_cons_succ] at ha
  subst ha
  refine wl_call hZ S23 H3 rfl (fun _ => by kernel_rfl) ?_
  intro W24 a' S25 ha
  simp only [Act.put, List.setIfInBounds_toArray, List.set_cons_zero, List.set_cons_succ] at ha
  subst ha
  refine wl_alloc S25 (wc (dts 0)) 34 rfl (fun _ => by kernel_rfl) ?_
  intro b26 W27 a' S28 ha
  simp only [Act.put, List.setIfInBounds_toArray, List.set_cons_zero, List.set_cons_succ] at ha
  subst ha
  refine wl_store S28 0 b26 34 9 (.tmp 7) (.tmp 25) (wc (dts 0)) (wc (dts v3)) rfl rfl rfl rfl rfl row34 (n9_size _) (n9_size _) (wc_one _) ?_
  intro W29 a' S30 ha
  simp only [Act.put, List.setIfInBounds_toArray, List.set_cons_zero, List.set_cons_succ] at ha
  subst ha
  refine wl_nil (hK _ _ ?_)
  clear hK K
  refine wp_seq_k fun K hK => ?_
  refine wr_list ?_
  refine wl_pure (.pointer (some ⟨b1, 9, none⟩)) rfl (fun _ => by kernel_rfl) ?_
  intro a' ha
  simp only [Act.put, List.setIfInBounds_toArray, List.set_cons_zero, List.set_cons_succ] at ha
  subst ha
  refine wl_load S30 5 b1 9 34 9 (.tmp 26) (n27 x1 y1 z1) (wc (dts y1)) rfl rfl rfl rfl (sub_n1 _ _ _) row34 (n9_size _) ?_
  intro a' ha
  simp only [Act.put, List.setIfInBounds_toArray, List.set_cons_zero, List.set_cons_succ] at ha
  subst ha
  refine wl_pure (.pointer (some ⟨b4, 9, none⟩)) rfl (fun _ => by kernel_rfl) ?_
  intro a' ha
  simp only [Act.put, List.setIfInBounds_toArray, List.set_cons_zero, List.set_cons_succ] at ha
  subst ha
  refine wl_load S30 4 b4 9 34 9 (.tmp 28) (n27 x2 y2 z2) (wc (dts y2)) rfl rfl rfl rfl (sub_n1 _ _ _) row34 (n9_size _) ?_
  intro a' ha
  simp only [Act.put, List.setIfInBounds_toArray, List.set_cons_zero, List.set_cons_succ] at ha
  subst ha
  refine wl_call hZ S30 H4 rfl (fun _ => by kernel_rfl) ?_
  intro W31 a' S32 ha
  simp only [Act.put, List.setIfInBounds_toArray, List.set_cons_zero, List.set_cons_succ] at ha
  subst ha
  refine wl_alloc S32 (wc (dts 0)) 34 rfl (fun _ => by kernel_rfl) ?_
  intro b33 W34 a' S35 ha
  simp only [Act.put, List.setIfInBounds_toArray, List.set_cons_zero, List.set_cons_succ] at ha
  subst ha
  refine wl_store S35 0 b33 34 9 (.tmp 8) (.tmp 30) (wc (dts 0)) (wc (dts v4)) rfl rfl rfl rfl rfl row34 (n9_size _) (n9_size _) (wc_one _) ?_
  intro W36 a' S37 ha
  simp only [Act.put, List.setIfInBounds_toArray, List.set_cons_zero, List.set_cons_succ] at ha
  subst ha
  refine wl_nil (hK _ _ ?_)
  clear hK K
  refine wp_seq_k fun K hK => ?_
  apply wr_news [(9, 34, (wc (dts 0)))] [_, _, _, _, _, _] [_] S37 (by simp) (by kernel_rfl) (by kernel_rfl) (by kernel_rfl) (by kernel_rfl) (by kernel_rfl) (by kernel_rfl) (by decide) (by intro x hx; simp only [List.mem_cons, List.not_mem_nil, or_false] at hx; subst hx; intro W; kernel_rfl)
  · intro V38 S39
    simp only [List.cons_append, List.nil_append, List.map_cons, List.map_nil, still, isNew, idle, if_true, Bool.false_eq_true, if_false]
    refine wq_call hZ S39 H5 rfl (fun _ => by kernel_rfl) ?_
    intro a' ha
    simp only [Act.put, List.setIfInBounds_toArray, List.set_cons_zero, List.set_cons_succ] at ha
    subst ha
    refine wq_load S39 1 b26 0 34 9 (.tmp 7) (wc (dts v3)) (wc (dts v3)) rfl rfl rfl rfl (Sub.self _) row34 (n9_size _) ?_
    intro a' ha
    simp only [Act.put, List.setIfInBounds_toArray, List.set_cons_zero, List.set_cons_succ] at ha
    subst ha
    refine wq_call hZ S39 H6 rfl (fun _ => by kernel_rfl) ?_
    intro a' ha
    simp only [Act.put, List.setIfInBounds_toArray, List.set_cons_zero, List.set_cons_succ] at ha
    subst ha
    refine wq_load S39 0 b33 0 34 9 (.tmp 8) (wc (dts v4)) (wc (dts v4)) rfl rfl rfl rfl (Sub.self _) row34 (n9_size _) ?_
    intro a' ha
    simp only [Act.put, List.setIfInBounds_toArray, List.set_cons_zero, List.set_cons_succ] at ha
    subst ha
    refine wq_call hZ S39 H7 rfl (fun _ => by kernel_rfl) ?_
    intro a' ha
    simp only [Act.put, List.setIfInBounds_toArray, List.set_cons_zero, List.set_cons_succ] at ha
    subst ha
    refine wq_pure undef rfl (fun _ => by kernel_rfl) ?_
    intro a' ha
    simp only [Act.put, List.setIfInBounds_toArray, List.set_cons_zero, List.set_cons_succ] at ha
    subst ha
    refine wq_nil ?_
    rfl
  intro W40 p S41
  simp only [putAll, Act.put, List.setIfInBounds_toArray, List.set_cons_zero, List.set_cons_succ]
  have S43 : St Z w W40 [(p 9, .row (wc (dts 0)) 34), (b33, .row (wc (dts v4)) 34), (b26, .row (wc (dts v3)) 34), (b19, .row (wc (dts v2)) 34), (b12, .row (wc (dts v1)) 34), (b7, .row (n27 0 0 0) 36), (b4, .row (n27 x2 y2 z2) 36), (b1, .row (n27 x1 y1 z1) 36)] := S41
  clear S41
  generalize p 9 = b42 at S43 ⊢
  refine wt_store S43 0 b42 34 9 (.tmp 9) (.tmp 35) (wc (dts 0)) (wc (dts v7)) rfl rfl rfl rfl row34 (n9_size _) (n9_size _) (wc_one _) ?_
  intro W44 a' S45 ha
  simp only [Act.put, List.setIfInBounds_toArray, List.set_cons_zero, List.set_cons_succ] at ha
  subst ha
  refine wt_nil (hK _ _ ?_)
  clear hK K
  refine wp_seq_k fun K hK => ?_
  refine wr_list ?_
  refine wl_load S45 3 b19 0 34 9 (.tmp 6) (wc (dts v2)) (wc (dts v2)) rfl rfl rfl rfl (Sub.self _) row34 (n9_size _) ?_
  intro a' ha
  simp only [Act.put, List.setIfInBounds_toArray, List.set_cons_zero, List.set_cons_succ] at ha
  subst ha
  refine wl_load S45 0 b42 0 34 9 (.tmp 9) (wc (dts v7)) (wc (dts v7)) rfl rfl rfl rfl (Sub.self _) row34 (n9_size _) ?_
  intro a' ha
  simp only [Act.put, List.setIfInBounds_toArray, List.set_cons_zero, List.set_cons_succ] at ha
  subst ha
  refine wl_call hZ S45 H8 rfl (fun _ => by kernel_rfl) ?_
  intro W46 a' S47 ha
  simp only [Act.put, List.setIfInBounds_toArray, List.set_cons_zero, List.set_cons_succ] at ha
  subst ha
  refine wl_alloc S47 (wc (dts 0)) 34 rfl (fun _ => by kernel_rfl) ?_
  intro b48 W49 a' S50 ha
  simp only [Act.put, List.setIfInBounds_toArray, List.set_cons_zero, List.set_cons_succ] at ha
  subst ha
  refine wl_store S50 0 b48 34 9 (.tmp 10) (.tmp 38) (wc (dts 0)) (wc (dts v8)) rfl rfl rfl rfl rfl row34 (n9_size _) (n9_size _) (wc_one _) ?_
  intro W51 a' S52 ha
  simp only [Act.put, List.setIfInBounds_toArray, List.set_cons_zero, List.set_cons_succ] at ha
  subst ha
  refine wl_nil (hK _ _ ?_)
  clear hK K
  refine wp_seq_k fun K hK => ?_
  refine wr_list ?_
  refine wl_load S52 4 b19 0 34 9 (.tmp 6) (wc (dts v2)) (wc (dts v2)) rfl rfl rfl rfl (Sub.self _) row34 (n9_size _) ?_
  intro a' ha
  simp only [Act.put, List.setIfInBounds_toArray, List.set_cons_zero, List.set_cons_succ] at ha
  subst ha
  refine wl_load S52 1 b42 0 34 9 (.tmp 9) (wc (dts v7)) (wc (dts v7)) rfl rfl rfl rfl (Sub.self _) row34 (n9_size _) ?_
  intro a' ha
  simp only [Act.put, List.setIfInBounds_toArray, List.set_cons_zero, List.set_cons_succ] at ha
  subst ha
  refine wl_call hZ S52 H9 rfl (fun _ => by kernel_rfl) ?_
  intro W53 a' S54 ha
  simp only [Act.put, List.setIfInBounds_toArray, List.set_cons_zero, List.set_cons_succ] at ha
  subst ha
  refine wl_alloc S54 (wc (dts 0)) 34 rfl (fun _ => by kernel_rfl) ?_
  intro b55 W56 a' S57 ha
  simp only [Act.put, List.setIfInBounds_toArray, List.set_cons_zero, List.set_cons_succ] at ha
  subst ha
  refine wl_store S57 0 b55 34 9 (.tmp 11) (.tmp 41) (wc (dts 0)) (wc (dts v9)) rfl rfl rfl rfl rfl row34 (n9_size _) (n9_size _) (wc_one _) ?_
  intro W58 a' S59 ha
  simp only [Act.put, List.setIfInBounds_toArray, List.set_cons_zero, List.set_cons_succ] at ha
  subst ha
  refine wl_nil (hK _ _ ?_)
  clear hK K
  refine wp_seq_k fun K hK => ?_
  apply wr_news [(12, 34, (wc (dts 0)))] [_, _, _, _, _, _, _, _, _, _, _, _, _, _, _, _] [_] S59 (by simp) (by kernel_rfl) (by kernel_rfl) (by kernel_rfl) (by kernel_rfl) (by kernel_rfl) (by kernel_rfl) (by decide) (by intro x hx; simp only [List.mem_cons, List.not_mem_nil, or_false] at hx; subst hx; intro W; kernel_rfl)
  · intro V60 S61
    simp only [List.cons_append, List.nil_append, List.map_cons, List.map_nil, still, isNew, idle, if_true, Bool.false_eq_true, if_false]
    refine wq_pure (.pointer (some ⟨b1, 0, none⟩)) rfl (fun _ => by kernel_rfl) ?_
    intro a' ha
    simp only [Act.put, List.setIfInBounds_toArray, List.set_cons_zero, List.set_cons_succ] at ha
    subst ha
    refine wq_load S61 9 b1 0 34 9 (.tmp 42) (n27 x1 y1 z1) (wc (dts x1)) rfl rfl rfl rfl (sub_n0 _ _ _) row34 (n9_size _) ?_
    intro a' ha
    simp only [Act.put, List.setIfInBounds_toArray, List.set_cons_zero, List.set_cons_succ] at ha
    subst ha
    refine wq_pure (.pointer (some ⟨b1, 9, none⟩)) rfl (fun _ => by kernel_rfl) ?_
    intro a' ha
    simp only [Act.put, List.setIfInBounds_toArray, List.set_cons_zero, List.set_cons_succ] at ha
    subst ha
    refine wq_load S61 9 b1 9 34 9 (.tmp 44) (n27 x1 y1 z1) (wc (dts y1)) rfl rfl rfl rfl (sub_n1 _ _ _) row34 (n9_size _) ?_
    intro a' ha
    simp only [Act.put, List.setIfInBounds_toArray, List.set_cons_zero, List.set_cons_succ] at ha
    subst ha
    refine wq_call hZ S61 H10 rfl (fun _ => by kernel_rfl) ?_
    intro a' ha
    simp only [Act.put, List.setIfInBounds_toArray, List.set_cons_zero, List.set_cons_succ] at ha
    subst ha
    refine wq_pure (.pointer (some ⟨b4, 0, none⟩)) rfl (fun _ => by kernel_rfl) ?_
    intro a' ha
    simp only [Act.put, List.setIfInBounds_toArray, List.set_cons_zero, List.set_cons_succ] at ha
    subst ha
    refine wq_load S61 8 b4 0 34 9 (.tmp 47) (n27 x2 y2 z2) (wc (dts x2)) rfl rfl rfl rfl (sub_n0 _ _ _) row34 (n9_size _) ?_
    intro a' ha
    simp only [Act.put, List.setIfInBounds_toArray, List.set_cons_zero, List.set_cons_succ] at ha
    subst ha
    refine wq_pure (.pointer (some ⟨b4, 9, none⟩)) rfl (fun _ => by kernel_rfl) ?_
    intro a' ha
    simp only [Act.put, List.setIfInBounds_toArray, List.set_cons_zero, List.set_cons_succ] at ha
    subst ha
    refine wq_load S61 8 b4 9 34 9 (.tmp 49) (n27 x2 y2 z2) (wc (dts y2)) rfl rfl rfl rfl (sub_n1 _ _ _) row34 (n9_size _) ?_
    intro a' ha
    simp only [Act.put, List.setIfInBounds_toArray, List.set_cons_zero, List.set_cons_succ] at ha
    subst ha
    refine wq_call hZ S61 H11 rfl (fun _ => by kernel_rfl) ?_
    intro a' ha
    simp only [Act.put, List.setIfInBounds_toArray, List.set_cons_zero, List.set_cons_succ] at ha
    subst ha
    refine wq_call hZ S61 H12 rfl (fun _ => by kernel_rfl) ?_
    intro a' ha
    simp only [Act.put, List.setIfInBounds_toArray, List.set_cons_zero, List.set_cons_succ] at ha
    subst ha
    refine wq_load S61 4 b26 0 34 9 (.tmp 7) (wc (dts v3)) (wc (dts v3)) rfl rfl rfl rfl (Sub.self _) row34 (n9_size _) ?_
    intro a' ha
    simp only [Act.put, List.setIfInBounds_toArray, List.set_cons_zero, List.set_cons_succ] at ha
    subst ha
    refine wq_call hZ S61 H13 rfl (fun _ => by kernel_rfl) ?_
    intro a' ha
    simp only [Act.put, List.setIfInBounds_toArray, List.set_cons_zero, List.set_cons_succ] at ha
    subst ha
    refine wq_load S61 3 b33 0 34 9 (.tmp 8) (wc (dts v4)) (wc (dts v4)) rfl rfl rfl rfl (Sub.self _) row34 (n9_size _) ?_
    intro a' ha
    simp only [Act.put, List.setIfInBounds_toArray, List.set_cons_zero, List.set_cons_succ] at ha
    subst ha
    refine wq_call hZ S61 H14 rfl (fun _ => by kernel_rfl) ?_
    intro a' ha
    simp only [Act.put, List.setIfInBounds_toArray, List.set_cons_zero, List.set_cons_succ] at ha
    subst ha
    refine wq_pure undef rfl (fun _ => by kernel_rfl) ?_
    intro a' ha
    simp only [Act.put, List.setIfInBounds_toArray, List.set_cons_zero, List.set_cons_succ] at ha
    subst ha
    refine wq_nil ?_
    rfl
  intro W62 p S63
  simp only [putAll, Act.put, List.setIfInBounds_toArray, List.set_cons_zero, List.set_cons_succ]
  have S65 : St Z w W62 [(p 12, .row (wc (dts 0)) 34), (b55, .row (wc (dts v9)) 34), (b48, .row (wc (dts v8)) 34), (b42, .row (wc (dts v7)) 34), (b33, .row (wc (dts v4)) 34), (b26, .row (wc (dts v3)) 34), (b19, .row (wc (dts v2)) 34), (b12, .row (wc (dts v1)) 34), (b7, .row (n27 0 0 0) 36), (b4, .row (n27 x2 y2 z2) 36), (b1, .row (n27 x1 y1 z1) 36)] := S63
  clear S63
  generalize p 12 = b64 at S65 ⊢
  refine wt_store S65 0 b64 34 9 (.tmp 12) (.tmp 56) (wc (dts 0)) (wc (dts v14)) rfl rfl rfl rfl row34 (n9_size _) (n9_size _) (wc_one _) ?_
  intro W66 a' S67 ha
  simp only [Act.put, List.setIfInBounds_toArray, List.set_cons_zero, List.set_cons_succ] at ha
  subst ha
  refine wt_nil (hK _ _ ?_)
  clear hK K
  refine wp_seq_k fun K hK => ?_
  refine wr_tail [_, _, _, _, _, _, _, _, _, _, _, _, _, _, _, _] [_] S67 (by simp) (by kernel_rfl) (by kernel_rfl) (by kernel_rfl) (by kernel_rfl) (by kernel_rfl) ?_
  refine wq_load S67 7 b12 0 34 9 (.tmp 5) (wc (dts v1)) (wc (dts v1)) rfl rfl rfl rfl (Sub.self _) row34 (n9_size _) ?_
  intro a' ha
  simp only [Act.put, List.setIfInBounds_toArray, List.set_cons_zero, List.set_cons_succ] at ha
  subst ha
  refine wq_load S67 2 b48 0 34 9 (.tmp 10) (wc (dts v8)) (wc (dts v8)) rfl rfl rfl rfl (Sub.self _) row34 (n9_size _) ?_
  intro a' ha
  simp only [Act.put, List.setIfInBounds_toArray, List.set_cons_zero, List.set_cons_succ] at ha
  subst ha
  refine wq_call hZ S67 H15 rfl (fun _ => by kernel_rfl) ?_
  intro a' ha
  simp only [Act.put, List.setIfInBounds_toArray, List.set_cons_zero, List.set_cons_succ] at ha
  subst ha
  refine wq_load S67 0 b64 0 34 9 (.tmp 12) (wc (dts v14)) (wc (dts v14)) rfl rfl rfl rfl (Sub.self _) row34 (n9_size _) ?_
  intro a' ha
  simp only [Act.put, List.setIfInBounds_toArray, List.set_cons_zero, List.set_cons_succ] at ha
  subst ha
  refine wq_call hZ S67 H16 rfl (fun _ => by kernel_rfl) ?_
  intro a' ha
  simp only [Act.put, List.setIfInBounds_toArray, List.set_cons_zero, List.set_cons_succ] at ha
  subst ha
  refine wq_load S67 7 b12 0 34 9 (.tmp 5) (wc (dts v1)) (wc (dts v1)) rfl rfl rfl rfl (Sub.self _) row34 (n9_size _) ?_
  intro a' ha
  simp only [Act.put, List.setIfInBounds_toArray, List.set_cons_zero, List.set_cons_succ] at ha
  subst ha
  refine wq_load S67 1 b55 0 34 9 (.tmp 11) (wc (dts v9)) (wc (dts v9)) rfl rfl rfl rfl (Sub.self _) row34 (n9_size _) ?_
  intro a' ha
  simp only [Act.put, List.setIfInBounds_toArray, List.set_cons_zero, List.set_cons_succ] at ha
  subst ha
  refine wq_call hZ S67 H17 rfl (fun _ => by kernel_rfl) ?_
  intro a' ha
  simp only [Act.put, List.setIfInBounds_toArray, List.set_cons_zero, List.set_cons_succ] at ha
  subst ha
  refine wq_load S67 4 b33 0 34 9 (.tmp 8) (wc (dts v4)) (wc (dts v4)) rfl rfl rfl rfl (Sub.self _) row34 (n9_size _) ?_
  intro a' ha
  simp only [Act.put, List.setIfInBounds_toArray, List.set_cons_zero, List.set_cons_succ] at ha
  subst ha
  refine wq_load S67 5 b26 0 34 9 (.tmp 7) (wc (dts v3)) (wc (dts v3)) rfl rfl rfl rfl (Sub.self _) row34 (n9_size _) ?_
  intro a' ha
  simp only [Act.put, List.setIfInBounds_toArray, List.set_cons_zero, List.set_cons_succ] at ha
  subst ha
  refine wq_call hZ S67 H18 rfl (fun _ => by kernel_rfl) ?_
  intro a' ha
  simp only [Act.put, List.setIfInBounds_toArray, List.set_cons_zero, List.set_cons_succ] at ha
  subst ha
  refine wq_call hZ S67 H19 rfl (fun _ => by kernel_rfl) ?_
  intro a' ha
  simp only [Act.put, List.setIfInBounds_toArray, List.set_cons_zero, List.set_cons_succ] at ha
  subst ha
  refine wq_load S67 2 b48 0 34 9 (.tmp 10) (wc (dts v8)) (wc (dts v8)) rfl rfl rfl rfl (Sub.self _) row34 (n9_size _) ?_
  intro a' ha
  simp only [Act.put, List.setIfInBounds_toArray, List.set_cons_zero, List.set_cons_succ] at ha
  subst ha
  refine wq_load S67 1 b55 0 34 9 (.tmp 11) (wc (dts v9)) (wc (dts v9)) rfl rfl rfl rfl (Sub.self _) row34 (n9_size _) ?_
  intro a' ha
  simp only [Act.put, List.setIfInBounds_toArray, List.set_cons_zero, List.set_cons_succ] at ha
  subst ha
  refine wq_call hZ S67 H20 rfl (fun _ => by kernel_rfl) ?_
  intro a' ha
  simp only [Act.put, List.setIfInBounds_toArray, List.set_cons_zero, List.set_cons_succ] at ha
  subst ha
  refine wq_pure (.agg (n27 v16 v19 v20)) rfl (fun _ => by kernel_rfl) ?_
  intro a' ha
  simp only [Act.put, List.setIfInBounds_toArray, List.set_cons_zero, List.set_cons_succ] at ha
  subst ha
  refine wq_nil ?_
  intro W68 S69
  refine wt_store S69 8 b7 36 27 (.tmp 4) (.tmp 72) (n27 0 0 0) (n27 v16 v19 v20) rfl rfl rfl rfl row36 (n27_size _ _ _) (n27_size _ _ _) (n27_one _ _ _) ?_
  intro W70 a' S71 ha
  simp only [Act.put, List.setIfInBounds_toArray, List.set_cons_zero, List.set_cons_succ] at ha
  subst ha
  refine wt_nil (hK _ _ ?_)
  clear hK K
  refine wp_ret ?_
  exact fin_cell (k := 8) S71 rfl rfl rfl row36 (n27_size _ _ _) rfl
theorem rsame_f {Z : World → Prop} (hZ : Keeps Z) {x1 y1 z1 x2 y2 z2 v1 v2 : Nat} (H1 : Ret Z 36 #[nd x1, nd z2] (nd v1)) (H2 : Ret Z 36 #[nd x2, nd z1] (nd v2)) (hq1 : decide (dts v1 = dts v2) = false) : Ret Z 24 #[rp x1 y1 z1, rp x2 y2 z2] (.bool false) := by
  intro w hw
  have S := St.refl hw
  go_enter Tryd.func24, Tryd.ntmps24
  refine wp_seq_k fun K hK => ?_
  refine wr_list ?_
  refine wl_alloc S (n27 x1 y1 z1) 36 rfl (fun _ => by kernel_rfl) ?_
  intro b1 W2 a' S3 ha
  simp only [Act.put, List.setIfInBounds_toArray, List.set_cons_zero, List.set_cons_succ] at ha
  subst ha
  refine wl_alloc S3 (n27 x2 y2 z2) 36 rfl (fun _ => by kernel_rfl) ?_
  intro b4 W5 a' S6 ha
  simp only [Act.put, List.setIfInBounds_toArray, List.set_cons_zero, List.set_cons_succ] at ha
  subst ha
  refine wl_pure (.bool false) rfl (fun _ => by kernel_rfl) ?_
  intro a' ha
  simp only [Act.put, List.setIfInBounds_toArray, List.set_cons_zero, List.set_cons_succ] at ha
  subst ha
  refine wl_nil (hK _ _ ?_)
  clear hK K
  refine wp_seq_k fun K hK => ?_
  refine wr_ext S6 (by kernel_rfl) (by kernel_rfl) ?_
  refine wq_pure (.pointer (some ⟨b1, 0, none⟩)) rfl (fun _ => by kernel_rfl) ?_
  intro a' ha
  simp only [Act.put, List.setIfInBounds_toArray, List.set_cons_zero, List.set_cons_succ] at ha
  subst ha
  refine wq_load S6 1 b1 0 34 9 (.tmp 5) (n27 x1 y1 z1) (wc (dts x1)) rfl rfl rfl rfl (sub_n0 _ _ _) row34 (n9_size _) ?_
  intro a' ha
  simp only [Act.put, List.setIfInBounds_toArray, List.set_cons_zero, List.set_cons_succ] at ha
  subst ha
  refine wq_pure (.pointer (some ⟨b4, 18, none⟩)) rfl (fun _ => by kernel_rfl) ?_
  intro a' ha
  simp only [Act.put, List.setIfInBounds_toArray, List.set_cons_zero, List.set_cons_succ] at ha
  subst ha
  refine wq_load S6 0 b4 18 34 9 (.tmp 7) (n27 x2 y2 z2) (wc (dts z2)) rfl rfl rfl rfl (sub_n2 _ _ _) row34 (n9_size _) ?_
  intro a' ha
  simp only [Act.put, List.setIfInBounds_toArray, List.set_cons_zero, List.set_cons_succ] at ha
  subst ha
  refine wq_call hZ S6 H1 rfl (fun _ => by kernel_rfl) ?_
  intro a' ha
  simp only [Act.put, List.setIfInBounds_toArray, List.set_cons_zero, List.set_cons_succ] at ha
  subst ha
  refine wq_pure (.pointer (some ⟨b4, 0, none⟩)) rfl (fun _ => by kernel_rfl) ?_
  intro a' ha
  simp only [Act.put, List.setIfInBounds_toArray, List.set_cons_zero, List.set_cons_succ] at ha
  subst ha
  refine wq_load S6 0 b4 0 34 9 (.tmp 10) (n27 x2 y2 z2) (wc (dts x2)) rfl rfl rfl rfl (sub_n0 _ _ _) row34 (n9_size _) ?_
  intro a' ha
  simp only [Act.put, List.setIfInBounds_toArray, List.set_cons_zero, List.set_cons_succ] at ha
  subst ha
  refine wq_pure (.pointer (some ⟨b1, 18, none⟩)) rfl (fun _ => by kernel_rfl) ?_
  intro a' ha
  simp only [Act.put, List.setIfInBounds_toArray, List.set_cons_zero, List.set_cons_succ] at ha
  subst ha
  refine wq_load S6 1 b1 18 34 9 (.tmp 12) (n27 x1 y1 z1) (wc (dts z1)) rfl rfl rfl rfl (sub_n2 _ _ _) row34 (n9_size _) ?_
  intro a' ha
  simp only [Act.put, List.setIfInBounds_toArray, List.set_cons_zero, List.set_cons_succ] at ha
  subst ha
  refine wq_call hZ S6 H2 rfl (fun _ => by kernel_rfl) ?_
  intro a' ha
  simp only [Act.put, List.setIfInBounds_toArray, List.set_cons_zero, List.set_cons_succ] at ha
  subst ha
  refine wq_pure (.bool false) rfl (run_eq34 (.tmp 9) (.tmp 14) _ rfl v1 v2 rfl rfl hq1) ?_
  intro a' ha
  simp only [Act.put, List.setIfInBounds_toArray, List.set_cons_zero, List.set_cons_succ] at ha
  subst ha
  refine wq_pure (.bool false) rfl (fun _ => by kernel_rfl) ?_
  intro a' ha
  simp only [Act.put, List.setIfInBounds_toArray, List.set_cons_zero, List.set_cons_succ] at ha
  subst ha
  refine wq_skip (by kernel_rfl) ?_
  intro a' ha
  simp only [Act.put, List.setIfInBounds_toArray, List.set_cons_zero, List.set_cons_succ] at ha
  subst ha
  refine wq_skip (by kernel_rfl) ?_
  intro a' ha
  simp only [Act.put, List.setIfInBounds_toArray, List.set_cons_zero, List.set_cons_succ] at ha
  subst ha
  refine wq_skip (by kernel_rfl) ?_
  intro a' ha
  simp only [Act.put, List.setIfInBounds_toArray, List.set_cons_zero, List.set_cons_succ] at ha
  subst ha
  refine wq_skip (by kernel_rfl) ?_
  intro a' ha
  simp only [Act.put, List.setIfInBounds_toArray, List.set_cons_zero, List.set_cons_succ] at ha
  subst ha
  refine wq_skip (by kernel_rfl) ?_
  intro a' ha
  simp only [Act.put, List.setIfInBounds_toArray, List.set_cons_zero, List.set_cons_succ] at ha
  subst ha
  refine wq_skip (by kernel_rfl) ?_
  intro a' ha
  simp only [Act.put, List.setIfInBounds_toArray, List.set_cons_zero, List.set_cons_succ] at ha
  subst ha
  refine wq_skip (by kernel_rfl) ?_
  intro a' ha
  simp only [Act.put, List.setIfInBounds_toArray, List.set_cons_zero, List.set_cons_succ] at ha
  subst ha
  refine wq_skip (by kernel_rfl) ?_
  intro a' ha
  simp only [Act.put, List.setIfInBounds_toArray, List.set_cons_zero, List.set_cons_succ] at ha
  subst ha
  refine wq_skip (by kernel_rfl) ?_
  intro a' ha
  simp only [Act.put, List.setIfInBounds_toArray, List.set_cons_zero, List.set_cons_succ] at ha
  subst ha
  refine wq_skip (by kernel_rfl) ?_
  intro a' ha
  simp only [Act.put, List.setIfInBounds_toArray, List.set_cons_zero, List.set_cons_succ] at ha
  subst ha
  refine wq_skip (by kernel_rfl) ?_
  intro a' ha
  simp only [Act.put, List.setIfInBounds_toArray, List.set_cons_zero, List.set_cons_succ] at ha
  subst ha
  refine wq_pure (.bool false) rfl (fun _ => by kernel_rfl) ?_
  intro a' ha
  simp only [Act.put, List.setIfInBounds_toArray, List.set_cons_zero, List.set_cons_succ] at ha
  subst ha
  refine wq_pure (.bool false) rfl (fun _ => by kernel_rfl) ?_
  intro a' ha
  simp only [Act.put, List.setIfInBounds_toArray, List.set_cons_zero, List.set_cons_succ] at ha
  subst ha
  refine wq_nil ?_
  intro W7 S8
  refine hK _ _ ?_
  clear hK K
  refine wp_ret ?_
  exact fin_tmp S8 rfl rfl rfl
theorem rsame_t {Z : World → Prop} (hZ : Keeps Z) {x1 y1 z1 x2 y2 z2 v1 v2 v3 v4 : Nat} {q : Bool} (H1 : Ret Z 36 #[nd x1, nd z2] (nd v1)) (H2 : Ret Z 36 #[nd x2, nd z1] (nd v2)) (H3 : Ret Z 36 #[nd y1, nd z2] (nd v3)) (H4 : Ret Z 36 #[nd y2, nd z1] (nd v4)) (hq1 : decide (dts v1 = dts v2) = true) (hq2 : decide (dts v3 = dts v4) = q) : Ret Z 24 #[rp x1 y1 z1, rp x2 y2 z2] (.bool q) := by
  intro w hw
  have S := St.refl hw
  go_enter Tryd.func24, Tryd.ntmps24
  refine wp_seq_k fun K hK => ?_
  refine wr_list ?_
  refine wl_alloc S (n27 x1 y1 z1) 36 rfl (fun _ => by kernel_rfl) ?_
  intro b1 W2 a' S3 ha
  simp only [Act.put, List.setIfInBounds_toArray, List.set_cons_zero, List.set_cons_succ] at ha
  subst ha
  refine wl_alloc S3 (n27 x2 y2 z2) 36 rfl (fun _ => by kernel_rfl) ?_
  intro b4 W5 a' S6 ha
  simp only [Act.put, List.setIfInBounds_toArray, List.set_cons_zero, List.set_cons_succ] at ha
  subst ha
  refine wl_pure (.bool false) rfl (fun _ => by kernel_rfl) ?_
  intro a' ha
  simp only [Act.put, List.setIfInBounds_toArray, List.set_cons_zero, List.set_cons_succ] at ha
  subst ha
  refine wl_nil (hK _ _ ?_)
  clear hK K
  refine wp_seq_k fun K hK => ?_
  refine wr_ext S6 (by kernel_rfl) (by kernel_rfl) ?_
  refine wq_pure (.pointer (some ⟨b1, 0, none⟩)) rfl (fun _ => by kernel_rfl) ?_
  intro a' ha
  simp only [Act.put, List.setIfInBounds_toArray, List.set_cons_zero, List.set_cons_succ] at ha
  subst ha
  refine wq_load S6 1 b1 0 34 9 (.tmp 5) (n27 x1 y1 z1) (wc (dts x1)) rfl rfl rfl rfl (sub_n0 _ _ _) row34 (n9_size _) ?_
  intro a' ha
  simp only [Act.put, List.setIfInBounds_toArray, List.set_cons_zero, List.set_cons_succ] at ha
  subst ha
  refine wq_pure (.pointer (some ⟨b4, 18, none⟩)) rfl (fun _ => by kernel_rfl) ?_
  intro a' ha
  simp only [Act.put, List.setIfInBounds_toArray, List.set_cons_zero, List.set_cons_succ] at ha
  subst ha
  refine wq_load S6 0 b4 18 34 9 (.tmp 7) (n27 x2 y2 z2) (wc (dts z2)) rfl rfl rfl rfl (sub_n2 _ _ _) row34 (n9_size _) ?_
  intro a' ha
  simp only [Act.put, List.setIfInBounds_toArray, List.set_cons_zero, List.set_cons_succ] at ha
  subst ha
  refine wq_call hZ S6 H1 rfl (fun _ => by kernel_rfl) ?_
  intro a' ha
  simp only [Act.put, List.setIfInBounds_toArray, List.set_cons_zero, List.set_cons_succ] at ha
  subst ha
  refine wq_pure (.pointer (some ⟨b4, 0, none⟩)) rfl (fun _ => by kernel_rfl) ?_
  intro a' ha
  simp only [Act.put, List.setIfInBounds_toArray, List.set_cons_zero, List.set_cons_succ] at ha
  subst ha
  refine wq_load S6 0 b4 0 34 9 (.tmp 10) (n27 x2 y2 z2) (wc (dts x2)) rfl rfl rfl rfl (sub_n0 _ _ _) row34 (n9_size _) ?_
  intro a' ha
  simp only [Act.put, List.setIfInBounds_toArray, List.set_cons_zero, List.set_cons_succ] at ha
  subst ha
  refine wq_pure (.pointer (some ⟨b1, 18, none⟩)) rfl (fun _ => by kernel_rfl) ?_
  intro a' ha
  simp only [Act.put, List.setIfInBounds_toArray, List.set_cons_zero, List.set_cons_succ] at ha
  subst ha
  refine wq_load S6 1 b1 18 34 9 (.tmp 12) (n27 x1 y1 z1) (wc (dts z1)) rfl rfl rfl rfl (sub_n2 _ _ _) row34 (n9_size _) ?_
  intro a' ha
  simp only [Act.put, List.setIfInBounds_toArray, List.set_cons_zero, List.set_cons_succ] at ha
  subst ha
  refine wq_call hZ S6 H2 rfl (fun _ => by kernel_rfl) ?_
  intro a' ha
  simp only [Act.put, List.setIfInBounds_toArray, List.set_cons_zero, List.set_cons_succ] at ha
  subst ha
  refine wq_pure (.bool true) rfl (run_eq34 (.tmp 9) (.tmp 14) _ rfl v1 v2 rfl rfl hq1) ?_
  intro a' ha
  simp only [Act.put, List.setIfInBounds_toArray, List.set_cons_zero, List.set_cons_succ] at ha
  subst ha
  refine wq_pure (.bool true) rfl (fun _ => by kernel_rfl) ?_
  intro a' ha
  simp only [Act.put, List.setIfInBounds_toArray, List.set_cons_zero, List.set_cons_succ] at ha
  subst ha
  refine wq_pure (.pointer (some ⟨b1, 9, none⟩)) (by kernel_rfl) (fun _ => by kernel_rfl) ?_
  intro a' ha
  simp only [Act.put, List.setIfInBounds_toArray, List.set_cons_zero, List.set_cons_succ] at ha
  subst ha
  refine wq_load S6 1 b1 9 34 9 (.tmp 17) (n27 x1 y1 z1) (wc (dts y1)) (by kernel_rfl) rfl rfl rfl (sub_n1 _ _ _) row34 (n9_size _) ?_
  intro a' ha
  simp only [Act.put, List.setIfInBounds_toArray, List.set_cons_zero, List.set_cons_succ] at ha
  subst ha
  refine wq_pure (.pointer (some ⟨b4, 18, none⟩)) (by kernel_rfl) (fun _ => by kernel_rfl) ?_
  intro a' ha
  simp only [Act.put, List.setIfInBounds_toArray, List.set_cons_zero, List.set_cons_succ] at ha
  subst ha
  refine wq_load S6 0 b4 18 34 9 (.tmp 19) (n27 x2 y2 z2) (wc (dts z2)) (by kernel_rfl) rfl rfl rfl (sub_n2 _ _ _) row34 (n9_size _) ?_
  intro a' ha
  simp only [Act.put, List.setIfInBounds_toArray, List.set_cons_zero, List.set_cons_succ] at ha
  subst ha
  refine wq_call hZ S6 H3 (by kernel_rfl) (fun _ => by kernel_rfl) ?_
  intro a' ha
  simp only [Act.put, List.setIfInBounds_toArray, List.set_cons_zero, List.set_cons_succ] at ha
  subst ha
  refine wq_pure (.pointer (some ⟨b4, 9, none⟩)) (by kernel_rfl) (fun _ => by kernel_rfl) ?_
  intro a' ha
  simp only [Act.put, List.setIfInBounds_toArray, List.set_cons_zero, List.set_cons_succ] at ha
  subst ha
  refine wq_load S6 0 b4 9 34 9 (.tmp 22) (n27 x2 y2 z2) (wc (dts y2)) (by kernel_rfl) rfl rfl rfl (sub_n1 _ _ _) row34 (n9_size _) ?_
  intro a' ha
  simp only [Act.put, List.setIfInBounds_toArray, List.set_cons_zero, List.set_cons_succ] at ha
  subst ha
  refine wq_pure (.pointer (some ⟨b1, 18, none⟩)) (by kernel_rfl) (fun _ => by kernel_rfl) ?_
  intro a' ha
  simp only [Act.put, List.setIfInBounds_toArray, List.set_cons_zero, List.set_cons_succ] at ha
  subst ha
  refine wq_load S6 1 b1 18 34 9 (.tmp 24) (n27 x1 y1 z1) (wc (dts z1)) (by kernel_rfl) rfl rfl rfl (sub_n2 _ _ _) row34 (n9_size _) ?_
  intro a' ha
  simp only [Act.put, List.setIfInBounds_toArray, List.set_cons_zero, List.set_cons_succ] at ha
  subst ha
  refine wq_call hZ S6 H4 (by kernel_rfl) (fun _ => by kernel_rfl) ?_
  intro a' ha
  simp only [Act.put, List.setIfInBounds_toArray, List.set_cons_zero, List.set_cons_succ] at ha
  subst ha
  refine wq_pure (.bool q) (by kernel_rfl) (run_eq34 (.tmp 21) (.tmp 26) _ rfl v3 v4 rfl rfl hq2) ?_
  intro a' ha
  simp only [Act.put, List.setIfInBounds_toArray, List.set_cons_zero, List.set_cons_succ] at ha
  subst ha
  refine wq_pure (.bool q) rfl (fun _ => by kernel_rfl) ?_
  intro a' ha
  simp only [Act.put, List.setIfInBounds_toArray, List.set_cons_zero, List.set_cons_succ] at ha
  subst ha
  refine wq_pure (.bool q) rfl (fun _ => by kernel_rfl) ?_
  intro a' ha
  simp only [Act.put, List.setIfInBounds_toArray, List.set_cons_zero, List.set_cons_succ] at ha
  subst ha
  refine wq_nil ?_
  intro W7 S8
  refine hK _ _ ?_
  clear hK K
  refine wp_ret ?_
  exact fin_tmp S8 rfl rfl rfl
theorem on_r {Z : World → Prop} (hZ : Keeps Z) {x1 y1 z1 v1 v2 v3 v4 v5 v6 v7 v8 v9 v10 : Nat} {q : Bool} (H1 : Ret Z 36 #[nd x1, nd x1] (nd v1)) (H2 : Ret Z 36 #[nd y1, nd y1] (nd v2)) (H3 : Ret Z 36 #[nd z1, nd z1] (nd v3)) (H4 : Ret Z 38 #[nd v2, nd v1] (nd v4)) (H5 : Ret Z 36 #[nd v4, nd v3] (nd v5)) (H6 : Ret Z 36 #[nd v3, nd v3] (nd v6)) (H7 : Ret Z 11 #[] (nd v7)) (H8 : Ret Z 36 #[nd v7, nd v1] (nd v8)) (H9 : Ret Z 36 #[nd v8, nd v2] (nd v9)) (H10 : Ret Z 39 #[nd v6, nd v9] (nd v10)) (hq1 : decide (dts v5 = dts v10) = q) : Ret Z 16 #[rp x1 y1 z1] (.bool q) := by
  intro w hw
  have S := St.refl hw
  go_enter Tryd.func16, Tryd.ntmps16
  refine wp_seq_k fun K hK => ?_
  refine wr_list ?_
  refine wl_alloc S (n27 x1 y1 z1) 36 rfl (fun _ => by kernel_rfl) ?_
  intro b1 W2 a' S3 ha
  simp only [Act.put, List.setIfInBounds_toArray, List.set_cons_zero, List.set_cons_succ] at ha
  subst ha
  refine wl_pure (.bool false) rfl (fun _ => by kernel_rfl) ?_
  intro a' ha
  simp only [Act.put, List.setIfInBounds_toArray, List.set_cons_zero, List.set_cons_succ] at ha
  subst ha
  refine wl_nil (hK _ _ ?_)
  clear hK K
  refine wp_seq_k fun K hK => ?_
  refine wr_list ?_
  refine wl_pure (.pointer (some ⟨b1, 0, none⟩)) rfl (fun _ => by kernel_rfl) ?_
  intro a' ha
  simp only [Act.put, List.setIfInBounds_toArray, List.set_cons_zero, List.set_cons_succ] at ha
  subst ha
  refine wl_load S3 0 b1 0 34 9 (.tmp 6) (n27 x1 y1 z1) (wc (dts x1)) rfl rfl rfl rfl (sub_n0 _ _ _) row34 (n9_size _) ?_
  intro a' ha
  simp only [Act.put, List.setIfInBounds_toArray, List.set_cons_zero, List.set_cons_succ] at ha
  subst ha
  refine wl_pure (.pointer (some ⟨b1, 0, none⟩)) rfl (fun _ => by kernel_rfl) ?_
  intro a' ha
  simp only [Act.put, List.setIfInBounds_toArray, List.set_cons_zero, List.set_cons_succ] at ha
  subst ha
  refine wl_load S3 0 b1 0 34 9 (.tmp 8) (n27 x1 y1 z1) (wc (dts x1)) rfl rfl rfl rfl (sub_n0 _ _ _) row34 (n9_size _) ?_
  intro a' ha
  simp only [Act.put, List.setIfInBounds_toArray, List.set_cons_zero, List.set_cons_succ] at ha
  subst ha
  refine wl_call hZ S3 H1 rfl (fun _ => by kernel_rfl) ?_
  intro W4 a' S5 ha
  simp only [Act.put, List.setIfInBounds_toArray, List.set_cons_zero, List.set_cons_succ] at ha
  subst ha
  refine wl_alloc S5 (wc (dts 0)) 34 rfl (fun _ => by kernel_rfl) ?_
  intro b6 W7 a' S8 ha
  simp only [Act.put, List.setIfInBounds_toArray, List.set_cons_zero, List.set_cons_succ] at ha
  subst ha
  refine wl_store S8 0 b6 34 9 (.tmp 3) (.tmp 10) (wc (dts 0)) (wc (dts v1)) rfl rfl rfl rfl rfl row34 (n9_size _) (n9_size _) (wc_one _) ?_
  intro W9 a' S10 ha
  simp only [Act.put, List.setIfInBounds_toArray, List.set_cons_zero, List.set_cons_succ] at ha
  subst ha
  refine wl_nil (hK _ _ ?_)
  clear hK K
  refine wp_seq_k fun K hK => ?_
  refine wr_list ?_
  refine wl_pure (.pointer (some ⟨b1, 9, none⟩)) rfl (fun _ => by kernel_rfl) ?_
  intro a' ha
  simp only [Act.put, List.setIfInBounds_toArray, List.set_cons_zero, List.set_cons_succ] at ha
  subst ha
  refine wl_load S10 1 b1 9 34 9 (.tmp 11) (n27 x1 y1 z1) (wc (dts y1)) rfl rfl rfl rfl (sub_n1 _ _ _) row34 (n9_size _) ?_
  intro a' ha
  simp only [Act.put, List.setIfInBounds_toArray, List.set_cons_zero, List.set_cons_succ] at ha
  subst ha
  refine wl_pure (.pointer (some ⟨b1, 9, none⟩)) rfl (fun _ => by kernel_rfl) ?_
  intro a' ha
  simp only [Act.put, List.setIfInBounds_toArray, List.set_cons_zero, List.set_cons_succ] at ha
  subst ha
  refine wl_load S10 1 b1 9 34 9 (.tmp 13) (n27 x1 y1 z1) (wc (dts y1)) rfl rfl rfl rfl (sub_n1 _ _ _) row34 (n9_size _) ?_
  intro a' ha
  simp only [Act.put, List.setIfInBounds_toArray, List.set_cons_zero, List.set_cons_succ] at ha
  subst ha
  refine wl_call hZ S10 H2 rfl (fun _ => by kernel_rfl) ?_
  intro W11 a' S12 ha
  simp only [Act.put, List.setIfInBounds_toArray, List.set_cons_zero, List.set_cons_succ] at ha
  subst ha
  refine wl_alloc S12 (wc (dts 0)) 34 rfl (fun _ => by kernel_rfl) ?_
  intro b13 W14 a' S15 ha
  simp only [Act.put, List.setIfInBounds_toArray, List.set_cons_zero, List.set_cons_succ] at ha
  subst ha
  refine wl_store S15 0 b13 34 9 (.tmp 4) (.tmp 15) (wc (dts 0)) (wc (dts v2)) rfl rfl rfl rfl rfl row34 (n9_size _) (n9_size _) (wc_one _) ?_
  intro W16 a' S17 ha
  simp only [Act.put, List.setIfInBounds_toArray, List.set_cons_zero, List.set_cons_succ] at ha
  subst ha
  refine wl_nil (hK _ _ ?_)
  clear hK K
  refine wp_seq_k fun K hK => ?_
  refine wr_list ?_
  refine wl_pure (.pointer (some ⟨b1, 18, none⟩)) rfl (fun _ => by kernel_rfl) ?_
  intro a' ha
  simp only [Act.put, List.setIfInBounds_toArray, List.set_cons_zero, List.set_cons_succ] at ha
  subst ha
  refine wl_load S17 2 b1 18 34 9 (.tmp 16) (n27 x1 y1 z1) (wc (dts z1)) rfl rfl rfl rfl (sub_n2 _ _ _) row34 (n9_size _) ?_
  intro a' ha
  simp only [Act.put, List.setIfInBounds_toArray, List.set_cons_zero, List.set_cons_succ] at ha
  subst ha
  refine wl_pure (.pointer (some ⟨b1, 18, none⟩)) rfl (fun _ => by kernel_rfl) ?_
  intro a' ha
  simp only [Act.put, List.setIfInBounds_toArray, List.set_cons_zero, List.set_cons_succ] at ha
  subst ha
  refine wl_load S17 2 b1 18 34 9 (.tmp 18) (n27 x1 y1 z1) (wc (dts z1)) rfl rfl rfl rfl (sub_n2 _ _ _) row34 (n9_size _) ?_
  intro a' ha
  simp only [Act.put, List.setIfInBounds_toArray, List.set_cons_zero, List.set_cons_succ] at ha
  subst ha
  refine wl_call hZ S17 H3 rfl (fun _ => by kernel_rfl) ?_
  intro W18 a' S19 ha
  simp only [Act.put, List.setIfInBounds_toArray, List.set_cons_zero, List.set_cons_succ] at ha
  subst ha
  refine wl_alloc S19 (wc (dts 0)) 34 rfl (fun _ => by kernel_rfl) ?_
  intro b20 W21 a' S22 ha
  simp only [Act.put, List.setIfInBounds_toArray, List.set_cons_zero, List.set_cons_succ] at ha
  subst ha
  refine wl_store S22 0 b20 34 9 (.tmp 5) (.tmp 20) (wc (dts 0)) (wc (dts v3)) rfl rfl rfl rfl rfl row34 (n9_size _) (n9_size _) (wc_one _) ?_
  intro W23 a' S24 ha
  simp only [Act.put, List.setIfInBounds_toArray, List.set_cons_zero, List.set_cons_succ] at ha
  subst ha
  refine wl_nil (hK _ _ ?_)
  clear hK K
  refine wp_seq_k fun K hK => ?_
  refine wr_ext S24 (by kernel_rfl) (by kernel_rfl) ?_
  refine wq_load S24 1 b13 0 34 9 (.tmp 4) (wc (dts v2)) (wc (dts v2)) rfl rfl rfl rfl (Sub.self _) row34 (n9_size _) ?_
  intro a' ha
  simp only [Act.put, List.setIfInBounds_toArray, List.set_cons_zero, List.set_cons_succ] at ha
  subst ha
  refine wq_load S24 2 b6 0 34 9 (.tmp 3) (wc (dts v1)) (wc (dts v1)) rfl rfl rfl rfl (Sub.self _) row34 (n9_size _) ?_
  intro a' ha
  simp only [Act.put, List.setIfInBounds_toArray, List.set_cons_zero, List.set_cons_succ] at ha
  subst ha
  refine wq_call hZ S24 H4 rfl (fun _ => by kernel_rfl) ?_
  intro a' ha
  simp only [Act.put, List.setIfInBounds_toArray, List.set_cons_zero, List.set_cons_succ] at ha
  subst ha
  refine wq_load S24 0 b20 0 34 9 (.tmp 5) (wc (dts v3)) (wc (dts v3)) rfl rfl rfl rfl (Sub.self _) row34 (n9_size _) ?_
  intro a' ha
  simp only [Act.put, List.setIfInBounds_toArray, List.set_cons_zero, List.set_cons_succ] at ha
  subst ha
  refine wq_call hZ S24 H5 rfl (fun _ => by kernel_rfl) ?_
  intro a' ha
  simp only [Act.put, List.setIfInBounds_toArray, List.set_cons_zero, List.set_cons_succ] at ha
  subst ha
  refine wq_load S24 0 b20 0 34 9 (.tmp 5) (wc (dts v3)) (wc (dts v3)) rfl rfl rfl rfl (Sub.self _) row34 (n9_size _) ?_
  intro a' ha
  simp only [Act.put, List.setIfInBounds_toArray, List.set_cons_zero, List.set_cons_succ] at ha
  subst ha
  refine wq_load S24 0 b20 0 34 9 (.tmp 5) (wc (dts v3)) (wc (dts v3)) rfl rfl rfl rfl (Sub.self _) row34 (n9_size _) ?_
  intro a' ha
  simp only [Act.put, List.setIfInBounds_toArray, List.set_cons_zero, List.set_cons_succ] at ha
  subst ha
  refine wq_call hZ S24 H6 rfl (fun _ => by kernel_rfl) ?_
  intro a' ha
  simp only [Act.put, List.setIfInBounds_toArray, List.set_cons_zero, List.set_cons_succ] at ha
  subst ha
  refine wq_call hZ S24 H7 rfl (fun _ => by kernel_rfl) ?_
  intro a' ha
  simp only [Act.put, List.setIfInBounds_toArray, List.set_cons_zero, List.set_cons_succ] at ha
  subst ha
  refine wq_load S24 2 b6 0 34 9 (.tmp 3) (wc (dts v1)) (wc (dts v1)) rfl rfl rfl rfl (Sub.self _) row34 (n9_size _) ?_
  intro a' ha
  simp only [Act.put, List.setIfInBounds_toArray, List.set_cons_zero, List.set_cons_succ] at ha
  subst ha
  refine wq_call hZ S24 H8 rfl (fun _ => by kernel_rfl) ?_
  intro a' ha
  simp only [Act.put, List.setIfInBounds_toArray, List.set_cons_zero, List.set_cons_succ] at ha
  subst ha
  refine wq_load S24 1 b13 0 34 9 (.tmp 4) (wc (dts v2)) (wc (dts v2)) rfl rfl rfl rfl (Sub.self _) row34 (n9_size _) ?_
  intro a' ha
  simp only [Act.put, List.setIfInBounds_toArray, List.set_cons_zero, List.set_cons_succ] at ha
  subst ha
  refine wq_call hZ S24 H9 rfl (fun _ => by kernel_rfl) ?_
  intro a' ha
  simp only [Act.put, List.setIfInBounds_toArray, List.set_cons_zero, List.set_cons_succ] at ha
  subst ha
  refine wq_call hZ S24 H10 rfl (fun _ => by kernel_rfl) ?_
  intro a' ha
  simp only [Act.put, List.setIfInBounds_toArray, List.set_cons_zero, List.set_cons_succ] at ha
  subst ha
  refine wq_pure (.bool q) rfl (run_eq34 (.tmp 25) (.tmp 34) _ rfl v5 v10 rfl rfl hq1) ?_
  intro a' ha
  simp only [Act.put, List.setIfInBounds_toArray, List.set_cons_zero, List.set_cons_succ] at ha
  subst ha
  refine wq_pure (.bool q) rfl (fun _ => by kernel_rfl) ?_
  intro a' ha
  simp only [Act.put, List.setIfInBounds_toArray, List.set_cons_zero, List.set_cons_succ] at ha
  subst ha
  refine wq_nil ?_
  intro W25 S26
  refine hK _ _ ?_
  clear hK K
  refine wp_ret ?_
  exact fin_tmp S26 rfl rfl rfl
theorem rbytes_even {Z : World → Prop} (hZ : Keeps Z) {x1 y1 z1 v1 v2 v3 : Nat} {s : ByteArray} (hs : s.size = 32) (H1 : Ret Z 40 #[nd z1] (nd v1)) (H2 : Ret Z 36 #[nd y1, nd v1] (nd v2)) (H3 : Ret Z 61 #[nd v2] (.string s)) (H4 : Ret Z 36 #[nd x1, nd v1] (nd v3)) (hq1 : decide ((bits .and .u64 ((dt v3 0 : Nat) : Int) 1) = 1) = false) : Ret Z 29 #[rp x1 y1 z1] (.string (sbi (bys s))) := by
  intro w hw
  have S := St.refl hw
  go_enter Tryd.func29, Tryd.ntmps29
  refine wp_seq_k fun K hK => ?_
  refine wr_list ?_
  refine wl_alloc S (n27 x1 y1 z1) 36 rfl (fun _ => by kernel_rfl) ?_
  intro b1 W2 a' S3 ha
  simp only [Act.put, List.setIfInBounds_toArray, List.set_cons_zero, List.set_cons_succ] at ha
  subst ha
  refine wl_pure (.string ⟨#[]⟩) rfl (fun _ => by kernel_rfl) ?_
  intro a' ha
  simp only [Act.put, List.setIfInBounds_toArray, List.set_cons_zero, List.set_cons_succ] at ha
  subst ha
  refine wl_nil (hK _ _ ?_)
  clear hK K
  refine wp_seq_k fun K hK => ?_
  refine wr_list ?_
  refine wl_pure (.pointer (some ⟨b1, 18, none⟩)) rfl (fun _ => by kernel_rfl) ?_
  intro a' ha
  simp only [Act.put, List.setIfInBounds_toArray, List.set_cons_zero, List.set_cons_succ] at ha
  subst ha
  refine wl_load S3 0 b1 18 34 9 (.tmp 5) (n27 x1 y1 z1) (wc (dts z1)) rfl rfl rfl rfl (sub_n2 _ _ _) row34 (n9_size _) ?_
  intro a' ha
  simp only [Act.put, List.setIfInBounds_toArray, List.set_cons_zero, List.set_cons_succ] at ha
  subst ha
  refine wl_call hZ S3 H1 rfl (fun _ => by kernel_rfl) ?_
  intro W4 a' S5 ha
  simp only [Act.put, List.setIfInBounds_toArray, List.set_cons_zero, List.set_cons_succ] at ha
  subst ha
  refine wl_alloc S5 (wc (dts 0)) 34 rfl (fun _ => by kernel_rfl) ?_
  intro b6 W7 a' S8 ha
  simp only [Act.put, List.setIfInBounds_toArray, List.set_cons_zero, List.set_cons_succ] at ha
  subst ha
  refine wl_store S8 0 b6 34 9 (.tmp 3) (.tmp 7) (wc (dts 0)) (wc (dts v1)) rfl rfl rfl rfl rfl row34 (n9_size _) (n9_size _) (wc_one _) ?_
  intro W9 a' S10 ha
  simp only [Act.put, List.setIfInBounds_toArray, List.set_cons_zero, List.set_cons_succ] at ha
  subst ha
  refine wl_nil (hK _ _ ?_)
  clear hK K
  refine wp_seq_k fun K hK => ?_
  refine wr_list ?_
  refine wl_pure (.pointer (some ⟨b1, 9, none⟩)) rfl (fun _ => by kernel_rfl) ?_
  intro a' ha
  simp only [Act.put, List.setIfInBounds_toArray, List.set_cons_zero, List.set_cons_succ] at ha
  subst ha
  refine wl_load S10 1 b1 9 34 9 (.tmp 8) (n27 x1 y1 z1) (wc (dts y1)) rfl rfl rfl rfl (sub_n1 _ _ _) row34 (n9_size _) ?_
  intro a' ha
  simp only [Act.put, List.setIfInBounds_toArray, List.set_cons_zero, List.set_cons_succ] at ha
  subst ha
  refine wl_load S10 0 b6 0 34 9 (.tmp 3) (wc (dts v1)) (wc (dts v1)) rfl rfl rfl rfl (Sub.self _) row34 (n9_size _) ?_
  intro a' ha
  simp only [Act.put, List.setIfInBounds_toArray, List.set_cons_zero, List.set_cons_succ] at ha
  subst ha
  refine wl_call hZ S10 H2 rfl (fun _ => by kernel_rfl) ?_
  intro W11 a' S12 ha
  simp only [Act.put, List.setIfInBounds_toArray, List.set_cons_zero, List.set_cons_succ] at ha
  subst ha
  refine wl_call hZ S12 H3 rfl (fun _ => by kernel_rfl) ?_
  intro W13 a' S14 ha
  simp only [Act.put, List.setIfInBounds_toArray, List.set_cons_zero, List.set_cons_succ] at ha
  subst ha
  refine wl_bytes S14 s (.tmp 12) hs rfl rfl rfl ?_
  intro b15 c16 W17 a' S18 ha
  simp only [Act.put, List.setIfInBounds_toArray, List.set_cons_zero, List.set_cons_succ] at ha
  subst ha
  refine wl_pure (.slice (some ⟨b15, 0, none⟩) 32 c16) rfl (fun _ => by kernel_rfl) ?_
  intro a' ha
  simp only [Act.put, List.setIfInBounds_toArray, List.set_cons_zero, List.set_cons_succ] at ha
  subst ha
  refine wl_nil (hK _ _ ?_)
  clear hK K
  refine wp_seq_k fun K hK => ?_
  refine wp_seq_k fun K hK => ?_
  refine wr_list ?_
  refine wl_pure (.pointer (some ⟨b1, 0, none⟩)) rfl (fun _ => by kernel_rfl) ?_
  intro a' ha
  simp only [Act.put, List.setIfInBounds_toArray, List.set_cons_zero, List.set_cons_succ] at ha
  subst ha
  refine wl_load S18 2 b1 0 34 9 (.tmp 14) (n27 x1 y1 z1) (wc (dts x1)) rfl rfl rfl rfl (sub_n0 _ _ _) row34 (n9_size _) ?_
  intro a' ha
  simp only [Act.put, List.setIfInBounds_toArray, List.set_cons_zero, List.set_cons_succ] at ha
  subst ha
  refine wl_load S18 1 b6 0 34 9 (.tmp 3) (wc (dts v1)) (wc (dts v1)) rfl rfl rfl rfl (Sub.self _) row34 (n9_size _) ?_
  intro a' ha
  simp only [Act.put, List.setIfInBounds_toArray, List.set_cons_zero, List.set_cons_succ] at ha
  subst ha
  refine wl_call hZ S18 H4 rfl (fun _ => by kernel_rfl) ?_
  intro W19 a' S20 ha
  simp only [Act.put, List.setIfInBounds_toArray, List.set_cons_zero, List.set_cons_succ] at ha
  subst ha
  refine wl_pure (.int .u64 ((dt v3 0 : Nat) : Int)) rfl (fun _ => by kernel_rfl) ?_
  intro a' ha
  simp only [Act.put, List.setIfInBounds_toArray, List.set_cons_zero, List.set_cons_succ] at ha
  subst ha
  refine wl_pure (.int .u64 (bits .and .u64 ((dt v3 0 : Nat) : Int) 1)) rfl (fun _ => by kernel_rfl) ?_
  intro a' ha
  simp only [Act.put, List.setIfInBounds_toArray, List.set_cons_zero, List.set_cons_succ] at ha
  subst ha
  refine wl_pure (.bool false) rfl (fun _ => (show (execOp _ _).run Tryd.prog _ = .ok (.value (.bool (decide ((bits .and .u64 ((dt v3 0 : Nat) : Int) 1) = 1)))) _ from by kernel_rfl).trans (by rw [hq1])) ?_
  intro a' ha
  simp only [Act.put, List.setIfInBounds_toArray, List.set_cons_zero, List.set_cons_succ] at ha
  subst ha
  refine wl_nil (hK _ _ ?_)
  clear hK K
  refine wp_cond_false rfl ?_
  refine wp_skip (hK _ _ ?_)
  clear hK K
  refine wp_seq_k fun K hK => ?_
  refine wr_list ?_
  refine wl_pure (.slice (some ⟨b15, 0, none⟩) 32 c16) rfl (fun _ => by kernel_rfl) ?_
  intro a' ha
  simp only [Act.put, List.setIfInBounds_toArray, List.set_cons_zero, List.set_cons_succ] at ha
  subst ha
  refine wl_text S20 0 b15 c16 (bys s) (.tmp 27) rfl rfl rfl rfl ?_
  intro a' ha
  simp only [Act.put, List.setIfInBounds_toArray, List.set_cons_zero, List.set_cons_succ] at ha
  subst ha
  refine wl_pure (.string (sbi (bys s))) rfl (fun _ => by kernel_rfl) ?_
  intro a' ha
  simp only [Act.put, List.setIfInBounds_toArray, List.set_cons_zero, List.set_cons_succ] at ha
  subst ha
  refine wl_nil (hK _ _ ?_)
  clear hK K
  refine wp_ret ?_
  exact fin_tmp S20 rfl rfl rfl
theorem rbytes_odd {Z : World → Prop} (hZ : Keeps Z) {x1 y1 z1 v1 v2 v3 : Nat} {s : ByteArray} (hs : s.size = 32) (H1 : Ret Z 40 #[nd z1] (nd v1)) (H2 : Ret Z 36 #[nd y1, nd v1] (nd v2)) (H3 : Ret Z 61 #[nd v2] (.string s)) (H4 : Ret Z 36 #[nd x1, nd v1] (nd v3)) (hq1 : decide ((bits .and .u64 ((dt v3 0 : Nat) : Int) 1) = 1) = true) : Ret Z 29 #[rp x1 y1 z1] (.string (sbi (fun j => if j = 31 then (bits .or .u8 ((bys s) 31) 128) else (bys s) j))) := by
  intro w hw
  have S := St.refl hw
  go_enter Tryd.func29, Tryd.ntmps29
  refine wp_seq_k fun K hK => ?_
  refine wr_list ?_
  refine wl_alloc S (n27 x1 y1 z1) 36 rfl (fun _ => by kernel_rfl) ?_
  intro b1 W2 a' S3 ha
  simp only [Act.put, List.setIfInBounds_toArray, List.set_cons_zero, List.set_cons_succ] at ha
  subst ha
  refine wl_pure (.string ⟨#[]⟩) rfl (fun _ => by kernel_rfl) ?_
  intro a' ha
  simp only [Act.put, List.setIfInBounds_toArray, List.set_cons_zero, List.set_cons_succ] at ha
  subst ha
  refine wl_nil (hK _ _ ?_)
  clear hK K
  refine wp_seq_k fun K hK => ?_
  refine wr_list ?_
  refine wl_pure (.pointer (some ⟨b1, 18, none⟩)) rfl (fun _ => by kernel_rfl) ?_
  intro a' ha
  simp only [Act.put, List.setIfInBounds_toArray, List.set_cons_zero, List.set_cons_succ] at ha
  subst ha
  refine wl_load S3 0 b1 18 34 9 (.tmp 5) (n27 x1 y1 z1) (wc (dts z1)) rfl rfl rfl rfl (sub_n2 _ _ _) row34 (n9_size _) ?_
  intro a' ha
  simp only [Act.put, List.setIfInBounds_toArray, List.set_cons_zero, List.set_cons_succ] at ha
  subst ha
  refine wl_call hZ S3 H1 rfl (fun _ => by kernel_rfl) ?_
  intro W4 a' S5 ha
  simp only [Act.put, List.setIfInBounds_toArray, List.set_cons_zero, List.set_cons_succ] at ha
  subst ha
  refine wl_alloc S5 (wc (dts 0)) 34 rfl (fun _ => by kernel_rfl) ?_
  intro b6 W7 a' S8 ha
  simp only [Act.put, List.setIfInBounds_toArray, List.set_cons_zero, List.set_cons_succ] at ha
  subst ha
  refine wl_store S8 0 b6 34 9 (.tmp 3) (.tmp 7) (wc (dts 0)) (wc (dts v1)) rfl rfl rfl rfl rfl row34 (n9_size _) (n9_size _) (wc_one _) ?_
  intro W9 a' S10 ha
  simp only [Act.put, List.setIfInBounds_toArray, List.set_cons_zero, List.set_cons_succ] at ha
  subst ha
  refine wl_nil (hK _ _ ?_)
  clear hK K
  refine wp_seq_k fun K hK => ?_
  refine wr_list ?_
  refine wl_pure (.pointer (some ⟨b1, 9, none⟩)) rfl (fun _ => by kernel_rfl) ?_
  intro a' ha
  simp only [Act.put, List.setIfInBounds_toArray, List.set_cons_zero, List.set_cons_succ] at ha
  subst ha
  refine wl_load S10 1 b1 9 34 9 (.tmp 8) (n27 x1 y1 z1) (wc (dts y1)) rfl rfl rfl rfl (sub_n1 _ _ _) row34 (n9_size _) ?_
  intro a' ha
  simp only [Act.put, List.setIfInBounds_toArray, List.set_cons_zero, List.set_cons_succ] at ha
  subst ha
  refine wl_load S10 0 b6 0 34 9 (.tmp 3) (wc (dts v1)) (wc (dts v1)) rfl rfl rfl rfl (Sub.self _) row34 (n9_size _) ?_
  intro a' ha
  simp only [Act.put, List.setIfInBounds_toArray, List.set_cons_zero, List.set_cons_succ] at ha
  subst ha
  refine wl_call hZ S10 H2 rfl (fun _ => by kernel_rfl) ?_
  intro W11 a' S12 ha
  simp only [Act.put, List.setIfInBounds_toArray, List.set_cons_zero, List.set_cons_succ] at ha
  subst ha
  refine wl_call hZ S12 H3 rfl (fun _ => by kernel_rfl) ?_
  intro W13 a' S14 ha
  simp only [Act.put, List.setIfInBounds_toArray, List.set_cons_zero, List.set_cons_succ] at ha
  subst ha
  refine wl_bytes S14 s (.tmp 12) hs rfl rfl rfl ?_
  intro b15 c16 W17 a' S18 ha
  simp only [Act.put, List.setIfInBounds_toArray, List.set_cons_zero, List.set_cons_succ] at ha
  subst ha
  refine wl_pure (.slice (some ⟨b15, 0, none⟩) 32 c16) rfl (fun _ => by kernel_rfl) ?_
  intro a' ha
  simp only [Act.put, List.setIfInBounds_toArray, List.set_cons_zero, List.set_cons_succ] at ha
  subst ha
  refine wl_nil (hK _ _ ?_)
  clear hK K
  refine wp_seq_k fun K hK => ?_
  refine wp_seq_k fun K hK => ?_
  refine wr_list ?_
  refine wl_pure (.pointer (some ⟨b1, 0, none⟩)) rfl (fun _ => by kernel_rfl) ?_
  intro a' ha
  simp only [Act.put, List.setIfInBounds_toArray, List.set_cons_zero, List.set_cons_succ] at ha
  subst ha
  refine wl_load S18 2 b1 0 34 9 (.tmp 14) (n27 x1 y1 z1) (wc (dts x1)) rfl rfl rfl rfl (sub_n0 _ _ _) row34 (n9_size _) ?_
  intro a' ha
  simp only [Act.put, List.setIfInBounds_toArray, List.set_cons_zero, List.set_cons_succ] at ha
  subst ha
  refine wl_load S18 1 b6 0 34 9 (.tmp 3) (wc (dts v1)) (wc (dts v1)) rfl rfl rfl rfl (Sub.self _) row34 (n9_size _) ?_
  intro a' ha
  simp only [Act.put, List.setIfInBounds_toArray, List.set_cons_zero, List.set_cons_succ] at ha
  subst ha
  refine wl_call hZ S18 H4 rfl (fun _ => by kernel_rfl) ?_
  intro W19 a' S20 ha
  simp only [Act.put, List.setIfInBounds_toArray, List.set_cons_zero, List.set_cons_succ] at ha
  subst ha
  refine wl_pure (.int .u64 ((dt v3 0 : Nat) : Int)) rfl (fun _ => by kernel_rfl) ?_
  intro a' ha
  simp only [Act.put, List.setIfInBounds_toArray, List.set_cons_zero, List.set_cons_succ] at ha
  subst ha
  refine wl_pure (.int .u64 (bits .and .u64 ((dt v3 0 : Nat) : Int) 1)) rfl (fun _ => by kernel_rfl) ?_
  intro a' ha
  simp only [Act.put, List.setIfInBounds_toArray, List.set_cons_zero, List.set_cons_succ] at ha
  subst ha
  refine wl_pure (.bool true) rfl (fun _ => (show (execOp _ _).run Tryd.prog _ = .ok (.value (.bool (decide ((bits .and .u64 ((dt v3 0 : Nat) : Int) 1) = 1)))) _ from by kernel_rfl).trans (by rw [hq1])) ?_
  intro a' ha
  simp only [Act.put, List.setIfInBounds_toArray, List.set_cons_zero, List.set_cons_succ] at ha
  subst ha
  refine wl_nil (hK _ _ ?_)
  clear hK K
  refine wp_cond_true rfl ?_
  refine wr_list ?_
  refine wl_pure (.slice (some ⟨b15, 0, none⟩) 32 c16) rfl (fun _ => by kernel_rfl) ?_
  intro a' ha
  simp only [Act.put, List.setIfInBounds_toArray, List.set_cons_zero, List.set_cons_succ] at ha
  subst ha
  refine wl_pure (.slice (some ⟨b15, 0, none⟩) 32 c16) rfl (fun _ => by kernel_rfl) ?_
  intro a' ha
  simp only [Act.put, List.setIfInBounds_toArray, List.set_cons_zero, List.set_cons_succ] at ha
  subst ha
  refine wl_pure (.pointer (some ⟨b15, 31, none⟩)) rfl (fun _ => by kernel_rfl) ?_
  intro a' ha
  simp only [Act.put, List.setIfInBounds_toArray, List.set_cons_zero, List.set_cons_succ] at ha
  subst ha
  refine wl_ldb S20 0 b15 31 (bys s) (.tmp 23) rfl rfl rfl rfl (by decide) ?_
  intro a' ha
  simp only [Act.put, List.setIfInBounds_toArray, List.set_cons_zero, List.set_cons_succ] at ha
  subst ha
  refine wl_pure (.int .u8 (bits .or .u8 ((bys s) 31) 128)) rfl (fun _ => by kernel_rfl) ?_
  intro a' ha
  simp only [Act.put, List.setIfInBounds_toArray, List.set_cons_zero, List.set_cons_succ] at ha
  subst ha
  refine wl_pure (.pointer (some ⟨b15, 31, none⟩)) rfl (fun _ => by kernel_rfl) ?_
  intro a' ha
  simp only [Act.put, List.setIfInBounds_toArray, List.set_cons_zero, List.set_cons_succ] at ha
  subst ha
  refine wl_stb S20 0 b15 31 (bys s) (bits .or .u8 ((bys s) 31) 128) (.tmp 26) (.tmp 25) rfl rfl rfl rfl rfl (by decide) ?_
  intro W21 a' S22 ha
  simp only [Act.put, List.setIfInBounds_toArray, List.set_cons_zero, List.set_cons_succ] at ha
  subst ha
  refine wl_nil (hK _ _ ?_)
  clear hK K
  refine wp_seq_k fun K hK => ?_
  refine wr_list ?_
  refine wl_pure (.slice (some ⟨b15, 0, none⟩) 32 c16) rfl (fun _ => by kernel_rfl) ?_
  intro a' ha
  simp only [Act.put, List.setIfInBounds_toArray, List.set_cons_zero, List.set_cons_succ] at ha
  subst ha
  refine wl_text S22 0 b15 c16 (fun j => if j = 31 then (bits .or .u8 ((bys s) 31) 128) else (bys s) j) (.tmp 27) rfl rfl rfl rfl ?_
  intro a' ha
  simp only [Act.put, List.setIfInBounds_toArray, List.set_cons_zero, List.set_cons_succ] at ha
  subst ha
  refine wl_pure (.string (sbi (fun j => if j = 31 then (bits .or .u8 ((bys s) 31) 128) else (bys s) j))) rfl (fun _ => by kernel_rfl) ?_
  intro a' ha
  simp only [Act.put, List.setIfInBounds_toArray, List.set_cons_zero, List.set_cons_succ] at ha
  subst ha
  refine wl_nil (hK _ _ ?_)
  clear hK K
  refine wp_ret ?_
  exact fin_tmp S22 rfl rfl rfl
theorem rdecode_no {Z : World → Prop} (hZ : Keeps Z)  {s : ByteArray} (hd : decide ((s.size : Int) = 32) = false)  : Ret Z 10 #[.string s] (.tuple #[rp 0 0 0, .int .i64 2]) := by
  intro w hw
  have S := St.refl hw
  go_enter Tryd.func10, Tryd.ntmps10
  refine wp_seq_k fun K hK => ?_
  refine wr_list ?_
  refine wl_alloc S (n27 0 0 0) 36 rfl (fun _ => by kernel_rfl) ?_
  intro b1 W2 a' S3 ha
  simp only [Act.put, List.setIfInBounds_toArray, List.set_cons_zero, List.set_cons_succ] at ha
  subst ha
  refine wl_pure (.int .i64 0) rfl (fun _ => by kernel_rfl) ?_
  intro a' ha
  simp only [Act.put, List.setIfInBounds_toArray, List.set_cons_zero, List.set_cons_succ] at ha
  subst ha
  refine wl_nil (hK _ _ ?_)
  clear hK K
  refine wp_seq_k fun K hK => ?_
  refine wp_seq_k fun K hK => ?_
  refine wr_list ?_
  refine wl_pure (.string s) rfl (fun _ => by kernel_rfl) ?_
  intro a' ha
  simp only [Act.put, List.setIfInBounds_toArray, List.set_cons_zero, List.set_cons_succ] at ha
  subst ha
  refine wl_pure (.int .i64 (s.size : Int)) rfl (fun _ => by kernel_rfl) ?_
  intro a' ha
  simp only [Act.put, List.setIfInBounds_toArray, List.set_cons_zero, List.set_cons_succ] at ha
  subst ha
  refine wl_pure (.bool true) rfl (fun _ => (show (execOp _ _).run Tryd.prog _ = .ok (.value (.bool (!decide ((s.size : Int) = 32)))) _ from by kernel_rfl).trans (by rw [hd]; rfl)) ?_
  intro a' ha
  simp only [Act.put, List.setIfInBounds_toArray, List.set_cons_zero, List.set_cons_succ] at ha
  subst ha
  refine wl_nil (hK _ _ ?_)
  clear hK K
  refine wp_cond_true rfl ?_
  refine wp_seq_k fun K hK => ?_
  refine wr_list ?_
  refine wl_pure (.agg (n27 0 0 0)) rfl (fun _ => by kernel_rfl) ?_
  intro a' ha
  simp only [Act.put, List.setIfInBounds_toArray, List.set_cons_zero, List.set_cons_succ] at ha
  subst ha
  refine wl_store S3 0 b1 36 27 (.tmp 2) (.tmp 14) (n27 0 0 0) (n27 0 0 0) rfl rfl rfl rfl rfl row36 (n27_size _ _ _) (n27_size _ _ _) (n27_one _ _ _) ?_
  intro W4 a' S5 ha
  simp only [Act.put, List.setIfInBounds_toArray, List.set_cons_zero, List.set_cons_succ] at ha
  subst ha
  refine wl_pure (.int .i64 2) rfl (fun _ => by kernel_rfl) ?_
  intro a' ha
  simp only [Act.put, List.setIfInBounds_toArray, List.set_cons_zero, List.set_cons_succ] at ha
  subst ha
  refine wl_nil (hK _ _ ?_)
  clear hK K
  refine wp_ret ?_
  exact fin_cell_tmp (k := 0) S5 rfl rfl rfl rfl row36 (n27_size _ _ _) rfl
theorem rdecode_nc {Z : World → Prop} (hZ : Keeps Z)  {s : ByteArray} (hs : s.size = 32) (hd : decide ((s.size : Int) = 32) = true) (H1 : Ret Z 34 #[.string (sbi (fun j => if j = 31 then (bits .andNot .u8 ((bys s) 31) 128) else (bys s) j))] (.bool false)) : Ret Z 10 #[.string s] (.tuple #[rp 0 0 0, .int .i64 90]) := by
  intro w hw
  have S := St.refl hw
  go_enter Tryd.func10, Tryd.ntmps10
  refine wp_seq_k fun K hK => ?_
  refine wr_list ?_
  refine wl_alloc S (n27 0 0 0) 36 rfl (fun _ => by kernel_rfl) ?_
  intro b1 W2 a' S3 ha
  simp only [Act.put, List.setIfInBounds_toArray, List.set_cons_zero, List.set_cons_succ] at ha
  subst ha
  refine wl_pure (.int .i64 0) rfl (fun _ => by kernel_rfl) ?_
  intro a' ha
  simp only [Act.put, List.setIfInBounds_toArray, List.set_cons_zero, List.set_cons_succ] at ha
  subst ha
  refine wl_nil (hK _ _ ?_)
  clear hK K
  refine wp_seq_k fun K hK => ?_
  refine wp_seq_k fun K hK => ?_
  refine wr_list ?_
  refine wl_pure (.string s) rfl (fun _ => by kernel_rfl) ?_
  intro a' ha
  simp only [Act.put, List.setIfInBounds_toArray, List.set_cons_zero, List.set_cons_succ] at ha
  subst ha
  refine wl_pure (.int .i64 (s.size : Int)) rfl (fun _ => by kernel_rfl) ?_
  intro a' ha
  simp only [Act.put, List.setIfInBounds_toArray, List.set_cons_zero, List.set_cons_succ] at ha
  subst ha
  refine wl_pure (.bool false) rfl (fun _ => (show (execOp _ _).run Tryd.prog _ = .ok (.value (.bool (!decide ((s.size : Int) = 32)))) _ from by kernel_rfl).trans (by rw [hd]; rfl)) ?_
  intro a' ha
  simp only [Act.put, List.setIfInBounds_toArray, List.set_cons_zero, List.set_cons_succ] at ha
  subst ha
  refine wl_nil (hK _ _ ?_)
  clear hK K
  refine wp_cond_false rfl ?_
  refine wp_skip (hK _ _ ?_)
  clear hK K
  refine wp_seq_k fun K hK => ?_
  refine wr_list ?_
  refine wl_pure (.string s) rfl (fun _ => by kernel_rfl) ?_
  intro a' ha
  simp only [Act.put, List.setIfInBounds_toArray, List.set_cons_zero, List.set_cons_succ] at ha
  subst ha
  refine wl_bytes S3 s (.tmp 15) hs rfl rfl rfl ?_
  intro b4 c5 W6 a' S7 ha
  simp only [Act.put, List.setIfInBounds_toArray, List.set_cons_zero, List.set_cons_succ] at ha
  subst ha
  refine wl_pure (.slice (some ⟨b4, 0, none⟩) 32 c5) rfl (fun _ => by kernel_rfl) ?_
  intro a' ha
  simp only [Act.put, List.setIfInBounds_toArray, List.set_cons_zero, List.set_cons_succ] at ha
  subst ha
  refine wl_nil (hK _ _ ?_)
  clear hK K
  refine wp_seq_k fun K hK => ?_
  refine wr_list ?_
  refine wl_pure (.slice (some ⟨b4, 0, none⟩) 32 c5) rfl (fun _ => by kernel_rfl) ?_
  intro a' ha
  simp only [Act.put, List.setIfInBounds_toArray, List.set_cons_zero, List.set_cons_succ] at ha
  subst ha
  refine wl_pure (.pointer (some ⟨b4, 31, none⟩)) rfl (fun _ => by kernel_rfl) ?_
  intro a' ha
  simp only [Act.put, List.setIfInBounds_toArray, List.set_cons_zero, List.set_cons_succ] at ha
  subst ha
  refine wl_ldb S7 0 b4 31 (bys s) (.tmp 18) rfl rfl rfl rfl (by decide) ?_
  intro a' ha
  simp only [Act.put, List.setIfInBounds_toArray, List.set_cons_zero, List.set_cons_succ] at ha
  subst ha
  refine wl_pure (.bool (decide (128 ≤ ((bys s) 31)))) rfl (fun _ => by kernel_rfl) ?_
  intro a' ha
  simp only [Act.put, List.setIfInBounds_toArray, List.set_cons_zero, List.set_cons_succ] at ha
  subst ha
  refine wl_pure (.bool (decide (128 ≤ ((bys s) 31)))) rfl (fun _ => by kernel_rfl) ?_
  intro a' ha
  simp only [Act.put, List.setIfInBounds_toArray, List.set_cons_zero, List.set_cons_succ] at ha
  subst ha
  refine wl_nil (hK _ _ ?_)
  clear hK K
  refine wp_seq_k fun K hK => ?_
  refine wr_list ?_
  refine wl_pure (.slice (some ⟨b4, 0, none⟩) 32 c5) rfl (fun _ => by kernel_rfl) ?_
  intro a' ha
  simp only [Act.put, List.setIfInBounds_toArray, List.set_cons_zero, List.set_cons_succ] at ha
  subst ha
  refine wl_pure (.slice (some ⟨b4, 0, none⟩) 32 c5) rfl (fun _ => by kernel_rfl) ?_
  intro a' ha
  simp only [Act.put, List.setIfInBounds_toArray, List.set_cons_zero, List.set_cons_succ] at ha
  subst ha
  refine wl_pure (.pointer (some ⟨b4, 31, none⟩)) rfl (fun _ => by kernel_rfl) ?_
  intro a' ha
  simp only [Act.put, List.setIfInBounds_toArray, List.set_cons_zero, List.set_cons_succ] at ha
  subst ha
  refine wl_ldb S7 0 b4 31 (bys s) (.tmp 23) rfl rfl rfl rfl (by decide) ?_
  intro a' ha
  simp only [Act.put, List.setIfInBounds_toArray, List.set_cons_zero, List.set_cons_succ] at ha
  subst ha
  refine wl_pure (.int .u8 (bits .andNot .u8 ((bys s) 31) 128)) rfl (fun _ => by kernel_rfl) ?_
  intro a' ha
  simp only [Act.put, List.setIfInBounds_toArray, List.set_cons_zero, List.set_cons_succ] at ha
  subst ha
  refine wl_pure (.pointer (some ⟨b4, 31, none⟩)) rfl (fun _ => by kernel_rfl) ?_
  intro a' ha
  simp only [Act.put, List.setIfInBounds_toArray, List.set_cons_zero, List.set_cons_succ] at ha
  subst ha
  refine wl_stb S7 0 b4 31 (bys s) (bits .andNot .u8 ((bys s) 31) 128) (.tmp 26) (.tmp 25) rfl rfl rfl rfl rfl (by decide) ?_
  intro W8 a' S9 ha
  simp only [Act.put, List.setIfInBounds_toArray, List.set_cons_zero, List.set_cons_succ] at ha
  subst ha
  refine wl_nil (hK _ _ ?_)
  clear hK K
  refine wp_seq_k fun K hK => ?_
  refine wp_seq_k fun K hK => ?_
  refine wr_list ?_
  refine wl_pure (.slice (some ⟨b4, 0, none⟩) 32 c5) rfl (fun _ => by kernel_rfl) ?_
  intro a' ha
  simp only [Act.put, List.setIfInBounds_toArray, List.set_cons_zero, List.set_cons_succ] at ha
  subst ha
  refine wl_text S9 0 b4 c5 (fun j => if j = 31 then (bits .andNot .u8 ((bys s) 31) 128) else (bys s) j) (.tmp 27) rfl rfl rfl rfl ?_
  intro a' ha
  simp only [Act.put, List.setIfInBounds_toArray, List.set_cons_zero, List.set_cons_succ] at ha
  subst ha
  refine wl_call hZ S9 H1 rfl (fun _ => by kernel_rfl) ?_
  intro W10 a' S11 ha
  simp only [Act.put, List.setIfInBounds_toArray, List.set_cons_zero, List.set_cons_succ] at ha
  subst ha
  refine wl_pure (.bool true) rfl (fun _ => by kernel_rfl) ?_
  intro a' ha
  simp only [Act.put, List.setIfInBounds_toArray, List.set_cons_zero, List.set_cons_succ] at ha
  subst ha
  refine wl_nil (hK _ _ ?_)
  clear hK K
  refine wp_cond_true rfl ?_
  refine wp_seq_k fun K hK => ?_
  refine wr_list ?_
  refine wl_pure (.agg (n27 0 0 0)) rfl (fun _ => by kernel_rfl) ?_
  intro a' ha
  simp only [Act.put, List.setIfInBounds_toArray, List.set_cons_zero, List.set_cons_succ] at ha
  subst ha
  refine wl_store S11 1 b1 36 27 (.tmp 2) (.tmp 31) (n27 0 0 0) (n27 0 0 0) rfl rfl rfl rfl rfl row36 (n27_size _ _ _) (n27_size _ _ _) (n27_one _ _ _) ?_
  intro W12 a' S13 ha
  simp only [Act.put, List.setIfInBounds_toArray, List.set_cons_zero, List.set_cons_succ] at ha
  subst ha
  refine wl_pure (.int .i64 90) rfl (fun _ => by kernel_rfl) ?_
  intro a' ha
  simp only [Act.put, List.setIfInBounds_toArray, List.set_cons_zero, List.set_cons_succ] at ha
  subst ha
  refine wl_nil (hK _ _ ?_)
  clear hK K
  refine wp_ret ?_
  exact fin_cell_tmp (k := 1) S13 rfl rfl rfl rfl row36 (n27_size _ _ _) rfl
theorem rdecode_nr {Z : World → Prop} (hZ : Keeps Z) {r v1 v2 v3 v4 v5 v6 v7 v8 v9 : Nat} {s : ByteArray} (hs : s.size = 32) (hd : decide ((s.size : Int) = 32) = true) (H1 : Ret Z 34 #[.string (sbi (fun j => if j = 31 then (bits .andNot .u8 ((bys s) 31) 128) else (bys s) j))] (.bool true)) (H2 : Ret Z 35 #[.string (sbi (fun j => if j = 31 then (bits .andNot .u8 ((bys s) 31) 128) else (bys s) j))] (nd v1)) (H3 : Ret Z 36 #[nd v1, nd v1] (nd v2)) (H4 : Ret Z 37 #[.int .u32 1] (nd v3)) (H5 : Ret Z 38 #[nd v2, nd v3] (nd v4)) (H6 : Ret Z 11 #[] (nd v5)) (H7 : Ret Z 36 #[nd v5, nd v2] (nd v6)) (H8 : Ret Z 39 #[nd v6, nd v3] (nd v7)) (H9 : Ret Z 40 #[nd v7] (nd v8)) (H10 : Ret Z 36 #[nd v4, nd v8] (nd v9)) (H11 : Ret Z 41 #[nd v9, .bool (decide (128 ≤ ((bys s) 31)))] (.tuple #[nd r, .bool false])) : Ret Z 10 #[.string s] (.tuple #[rp 0 0 0, .int .i64 90]) := by
  intro w hw
  have S := St.refl hw
  go_enter Tryd.func10, Tryd.ntmps10
  refine wp_seq_k fun K hK => ?_
  refine wr_list ?_
  refine wl_alloc S (n27 0 0 0) 36 rfl (fun _ => by kernel_rfl) ?_
  intro b1 W2 a' S3 ha
  simp only [Act.put, List.setIfInBounds_toArray, List.set_cons_zero, List.set_cons_succ] at ha
  subst ha
  refine wl_pure (.int .i64 0) rfl (fun _ => by kernel_rfl) ?_
  intro a' ha
  simp only [Act.put, List.setIfInBounds_toArray, List.set_cons_zero, List.set_cons_succ] at ha
  subst ha
  refine wl_nil (hK _ _ ?_)
  clear hK K
  refine wp_seq_k fun K hK => ?_
  refine wp_seq_k fun K hK => ?_
  refine wr_list ?_
  refine wl_pure (.string s) rfl (fun _ => by kernel_rfl) ?_
  intro a' ha
  simp only [Act.put, List.setIfInBounds_toArray, List.set_cons_zero, List.set_cons_succ] at ha
  subst ha
  refine wl_pure (.int .i64 (s.size : Int)) rfl (fun _ => by kernel_rfl) ?_
  intro a' ha
  simp only [Act.put, List.setIfInBounds_toArray, List.set_cons_zero, List.set_cons_succ] at ha
  subst ha
  refine wl_pure (.bool false) rfl (fun _ => (show (execOp _ _).run Tryd.prog _ = .ok (.value (.bool (!decide ((s.size : Int) = 32)))) _ from by kernel_rfl).trans (by rw [hd]; rfl)) ?_
  intro a' ha
  simp only [Act.put, List.setIfInBounds_toArray, List.set_cons_zero, List.set_cons_succ] at ha
  subst ha
  refine wl_nil (hK _ _ ?_)
  clear hK K
  refine wp_cond_false rfl ?_
  refine wp_skip (hK _ _ ?_)
  clear hK K
  refine wp_seq_k fun K hK => ?_
  refine wr_list ?_
  refine wl_pure (.string s) rfl (fun _ => by kernel_rfl) ?_
  intro a' ha
  simp only [Act.put, List.setIfInBounds_toArray, List.set_cons_zero, List.set_cons_succ] at ha
  subst ha
  refine wl_bytes S3 s (.tmp 15) hs rfl rfl rfl ?_
  intro b4 c5 W6 a' S7 ha
  simp only [Act.put, List.setIfInBounds_toArray, List.set_cons_zero, List.set_cons_succ] at ha
  subst ha
  refine wl_pure (.slice (some ⟨b4, 0, none⟩) 32 c5) rfl (fun _ => by kernel_rfl) ?_
  intro a' ha
  simp only [Act.put, List.setIfInBounds_toArray, List.set_cons_zero, List.set_cons_succ] at ha
  subst ha
  refine wl_nil (hK _ _ ?_)
  clear hK K
  refine wp_seq_k fun K hK => ?_
  refine wr_list ?_
  refine wl_pure (.slice (some ⟨b4, 0, none⟩) 32 c5) rfl (fun _ => by kernel_rfl) ?_
  intro a' ha
  simp only [Act.put, List.setIfInBounds_toArray, List.set_cons_zero, List.set_cons_succ] at ha
  subst ha
  refine wl_pure (.pointer (some ⟨b4, 31, none⟩)) rfl (fun _ => by kernel_rfl) ?_
  intro a' ha
  simp only [Act.put, List.setIfInBounds_toArray, List.set_cons_zero, List.set_cons_succ] at ha
  subst ha
  refine wl_ldb S7 0 b4 31 (bys s) (.tmp 18) rfl rfl rfl rfl (by decide) ?_
  intro a' ha
  simp only [Act.put, List.setIfInBounds_toArray, List.set_cons_zero, List.set_cons_succ] at ha
  subst ha
  refine wl_pure (.bool (decide (128 ≤ ((bys s) 31)))) rfl (fun _ => by kernel_rfl) ?_
  intro a' ha
  simp only [Act.put, List.setIfInBounds_toArray, List.set_cons_zero, List.set_cons_succ] at ha
  subst ha
  refine wl_pure (.bool (decide (128 ≤ ((bys s) 31)))) rfl (fun _ => by kernel_rfl) ?_
  intro a' ha
  simp only [Act.put, List.setIfInBounds_toArray, List.set_cons_zero, List.set_cons_succ] at ha
  subst ha
  refine wl_nil (hK _ _ ?_)
  clear hK K
  refine wp_seq_k fun K hK => ?_
  refine wr_list ?_
  refine wl_pure (.slice (some ⟨b4, 0, none⟩) 32 c5) rfl (fun _ => by kernel_rfl) ?_
  intro a' ha
  simp only [Act.put, List.setIfInBounds_toArray, List.set_cons_zero, List.set_cons_succ] at ha
  subst ha
  refine wl_pure (.slice (some ⟨b4, 0, none⟩) 32 c5) rfl (fun _ => by kernel_rfl) ?_
  intro a' ha
  simp only [Act.put, List.setIfInBounds_toArray, List.set_cons_zero, List.set_cons_succ] at ha
  subst ha
  refine wl_pure (.pointer (some ⟨b4, 31, none⟩)) rfl (fun _ => by kernel_rfl) ?_
  intro a' ha
  simp only [Act.put, List.setIfInBounds_toArray, List.set_cons_zero, List.set_cons_succ] at ha
  subst ha
  refine wl_ldb S7 0 b4 31 (bys s) (.tmp 23) rfl rfl rfl rfl (by decide) ?_
  intro a' ha
  simp only [Act.put, List.setIfInBounds_toArray, List.set_cons_zero, List.set_cons_succ] at ha
  subst ha
  refine wl_pure (.int .u8 (bits .andNot .u8 ((bys s) 31) 128)) rfl (fun _ => by kernel_rfl) ?_
  intro a' ha
  simp only [Act.put, List.setIfInBounds_toArray, List.set_cons_zero, List.set_cons_succ] at ha
  subst ha
  refine wl_pure (.pointer (some ⟨b4, 31, none⟩)) rfl (fun _ => by kernel_rfl) ?_
  intro a' ha
  simp only [Act.put, List.setIfInBounds_toArray, List.set_cons_zero, List.set_cons_succ] at ha
  subst ha
  refine wl_stb S7 0 b4 31 (bys s) (bits .andNot .u8 ((bys s) 31) 128) (.tmp 26) (.tmp 25) rfl rfl rfl rfl rfl (by decide) ?_
  intro W8 a' S9 ha
  simp only [Act.put, List.setIfInBounds_toArray, List.set_cons_zero, List.set_cons_succ] at ha
  subst ha
  refine wl_nil (hK _ _ ?_)
  clear hK K
  refine wp_seq_k fun K hK => ?_
  refine wp_seq_k fun K hK => ?_
  refine wr_list ?_
  refine wl_pure (.slice (some ⟨b4, 0, none⟩) 32 c5) rfl (fun _ => by kernel_rfl) ?_
  intro a' ha
  simp only [Act.put, List.setIfInBounds_toArray, List.set_cons_zero, List.set_cons_succ] at ha
  subst ha
  refine wl_text S9 0 b4 c5 (fun j => if j = 31 then (bits .andNot .u8 ((bys s) 31) 128) else (bys s) j) (.tmp 27) rfl rfl rfl rfl ?_
  intro a' ha
  simp only [Act.put, List.setIfInBounds_toArray, List.set_cons_zero, List.set_cons_succ] at ha
  subst ha
  refine wl_call hZ S9 H1 rfl (fun _ => by kernel_rfl) ?_
  intro W10 a' S11 ha
  simp only [Act.put, List.setIfInBounds_toArray, List.set_cons_zero, List.set_cons_succ] at ha
  subst ha
  refine wl_pure (.bool false) rfl (fun _ => by kernel_rfl) ?_
  intro a' ha
  simp only [Act.put, List.setIfInBounds_toArray, List.set_cons_zero, List.set_cons_succ] at ha
  subst ha
  refine wl_nil (hK _ _ ?_)
  clear hK K
  refine wp_cond_false rfl ?_
  refine wp_skip (hK _ _ ?_)
  clear hK K
  refine wp_seq_k fun K hK => ?_
  refine wr_list ?_
  refine wl_pure (.slice (some ⟨b4, 0, none⟩) 32 c5) rfl (fun _ => by kernel_rfl) ?_
  intro a' ha
  simp only [Act.put, List.setIfInBounds_toArray, List.set_cons_zero, List.set_cons_succ] at ha
  subst ha
  refine wl_text S11 0 b4 c5 (fun j => if j = 31 then (bits .andNot .u8 ((bys s) 31) 128) else (bys s) j) (.tmp 32) rfl rfl rfl rfl ?_
  intro a' ha
  simp only [Act.put, List.setIfInBounds_toArray, List.set_cons_zero, List.set_cons_succ] at ha
  subst ha
  refine wl_call hZ S11 H2 rfl (fun _ => by kernel_rfl) ?_
  intro W12 a' S13 ha
  simp only [Act.put, List.setIfInBounds_toArray, List.set_cons_zero, List.set_cons_succ] at ha
  subst ha
  refine wl_alloc S13 (wc (dts 0)) 34 rfl (fun _ => by kernel_rfl) ?_
  intro b14 W15 a' S16 ha
  simp only [Act.put, List.setIfInBounds_toArray, List.set_cons_zero, List.set_cons_succ] at ha
  subst ha
  refine wl_store S16 0 b14 34 9 (.tmp 6) (.tmp 34) (wc (dts 0)) (wc (dts v1)) rfl rfl rfl rfl rfl row34 (n9_size _) (n9_size _) (wc_one _) ?_
  intro W17 a' S18 ha
  simp only [Act.put, List.setIfInBounds_toArray, List.set_cons_zero, List.set_cons_succ] at ha
  subst ha
  refine wl_nil (hK _ _ ?_)
  clear hK K
  refine wp_seq_k fun K hK => ?_
  refine wr_list ?_
  refine wl_load S18 0 b14 0 34 9 (.tmp 6) (wc (dts v1)) (wc (dts v1)) rfl rfl rfl rfl (Sub.self _) row34 (n9_size _) ?_
  intro a' ha
  simp only [Act.put, List.setIfInBounds_toArray, List.set_cons_zero, List.set_cons_succ] at ha
  subst ha
  refine wl_load S18 0 b14 0 34 9 (.tmp 6) (wc (dts v1)) (wc (dts v1)) rfl rfl rfl rfl (Sub.self _) row34 (n9_size _) ?_
  intro a' ha
  simp only [Act.put, List.setIfInBounds_toArray, List.set_cons_zero, List.set_cons_succ] at ha
  subst ha
  refine wl_call hZ S18 H3 rfl (fun _ => by kernel_rfl) ?_
  intro W19 a' S20 ha
  simp only [Act.put, List.setIfInBounds_toArray, List.set_cons_zero, List.set_cons_succ] at ha
  subst ha
  refine wl_alloc S20 (wc (dts 0)) 34 rfl (fun _ => by kernel_rfl) ?_
  intro b21 W22 a' S23 ha
  simp only [Act.put, List.setIfInBounds_toArray, List.set_cons_zero, List.set_cons_succ] at ha
  subst ha
  refine wl_store S23 0 b21 34 9 (.tmp 7) (.tmp 37) (wc (dts 0)) (wc (dts v2)) rfl rfl rfl rfl rfl row34 (n9_size _) (n9_size _) (wc_one _) ?_
  intro W24 a' S25 ha
  simp only [Act.put, List.setIfInBounds_toArray, List.set_cons_zero, List.set_cons_succ] at ha
  subst ha
  refine wl_nil (hK _ _ ?_)
  clear hK K
  refine wp_seq_k fun K hK => ?_
  refine wr_list ?_
  refine wl_call hZ S25 H4 rfl (fun _ => by kernel_rfl) ?_
  intro W26 a' S27 ha
  simp only [Act.put, List.setIfInBounds_toArray, List.set_cons_zero, List.set_cons_succ] at ha
  subst ha
  refine wl_alloc S27 (wc (dts 0)) 34 rfl (fun _ => by kernel_rfl) ?_
  intro b28 W29 a' S30 ha
  simp only [Act.put, List.setIfInBounds_toArray, List.set_cons_zero, List.set_cons_succ] at ha
  subst ha
  refine wl_store S30 0 b28 34 9 (.tmp 8) (.tmp 38) (wc (dts 0)) (wc (dts v3)) rfl rfl rfl rfl rfl row34 (n9_size _) (n9_size _) (wc_one _) ?_
  intro W31 a' S32 ha
  simp only [Act.put, List.setIfInBounds_toArray, List.set_cons_zero, List.set_cons_succ] at ha
  subst ha
  refine wl_nil (hK _ _ ?_)
  clear hK K
  refine wp_seq_k fun K hK => ?_
  refine wr_all [_, _, _, _, _, _, _, _, _, _, _, _, _, _, _, _, _] _ S32 (fun p => [(.agg (wc (dts v2))), (.agg (wc (dts v3))), (nd v4), (nd v5), (.agg (wc (dts v2))), (nd v6), (.agg (wc (dts v3))), (nd v7), (nd v8), (nd v9), (.bool (decide (128 ≤ ((bys s) 31)))), (.tuple #[nd r, .bool false]), (.tuple #[nd r, .bool false]), (nd r), (.bool false), (.pointer (some ⟨(p 9), 0, none⟩)), undef, (.bool false)]) (fun p f => (if f 15 then [(p 9, .row (if f 16 then (wc (dts r)) else (wc (dts 0))) 34)] else []) ++ [(b28, .row (wc (dts v3)) 34), (b21, .row (wc (dts v2)) 34), (b14, .row (wc (dts v1)) 34), (b4, .bytes (fun j => if j = 31 then (bits .andNot .u8 ((bys s) 31) 128) else (bys s) j)), (b1, .row (n27 0 0 0) 36)]) (by kernel_rfl) (by kernel_rfl) (by kernel_rfl) (by kernel_rfl) rfl ?_ ?_
  · intro p f W i x S hsh hf hx hdep
    have S0 := S.tail
    rcases i with _ | _ | _ | _ | _ | _ | _ | _ | _ | _ | _ | _ | _ | _ | _ | _ | _ | _ | i
    · obtain rfl := Option.some.inj hx
      exact ⟨p, (fun _ _ _ => rfl), Yields.load S S0 1 b21 0 34 9 (.tmp 7) (wc (dts v2)) (wc (dts v2)) (by kernel_rfl) (by kernel_rfl) rfl (Sub.self _) row34 (n9_size _)⟩
    · obtain rfl := Option.some.inj hx
      exact ⟨p, (fun _ _ _ => rfl), Yields.load S S0 0 b28 0 34 9 (.tmp 8) (wc (dts v3)) (wc (dts v3)) (by kernel_rfl) (by kernel_rfl) rfl (Sub.self _) row34 (n9_size _)⟩
    · obtain rfl := Option.some.inj hx
      exact ⟨p, (fun _ _ _ => rfl), Yields.call hZ S H5 (by kernel_rfl)⟩
    · obtain rfl := Option.some.inj hx
      exact ⟨p, (fun _ _ _ => rfl), Yields.call hZ S H6 (by kernel_rfl)⟩
    · obtain rfl := Option.some.inj hx
      exact ⟨p, (fun _ _ _ => rfl), Yields.load S S0 1 b21 0 34 9 (.tmp 7) (wc (dts v2)) (wc (dts v2)) (by kernel_rfl) (by kernel_rfl) rfl (Sub.self _) row34 (n9_size _)⟩
    · obtain rfl := Option.some.inj hx
      exact ⟨p, (fun _ _ _ => rfl), Yields.call hZ S H7 (by kernel_rfl)⟩
    · obtain rfl := Option.some.inj hx
      exact ⟨p, (fun _ _ _ => rfl), Yields.load S S0 0 b28 0 34 9 (.tmp 8) (wc (dts v3)) (wc (dts v3)) (by kernel_rfl) (by kernel_rfl) rfl (Sub.self _) row34 (n9_size _)⟩
    · obtain rfl := Option.some.inj hx
      exact ⟨p, (fun _ _ _ => rfl), Yields.call hZ S H8 (by kernel_rfl)⟩
    · obtain rfl := Option.some.inj hx
      exact ⟨p, (fun _ _ _ => rfl), Yields.call hZ S H9 (by kernel_rfl)⟩
    · obtain rfl := Option.some.inj hx
      exact ⟨p, (fun _ _ _ => rfl), Yields.call hZ S H10 (by kernel_rfl)⟩
    · obtain rfl := Option.some.inj hx
      exact ⟨p, (fun _ _ _ => rfl), Yields.pure (by kernel_rfl) S⟩
    · obtain rfl := Option.some.inj hx
      exact ⟨p, (fun _ _ _ => rfl), Yields.call hZ S H11 (by kernel_rfl)⟩
    · obtain rfl := Option.some.inj hx
      exact ⟨p, (fun _ _ _ => rfl), Yields.pure (by kernel_rfl) S⟩
    · obtain rfl := Option.some.inj hx
      exact ⟨p, (fun _ _ _ => rfl), Yields.pure (by kernel_rfl) S⟩
    · obtain rfl := Option.some.inj hx
      exact ⟨p, (fun _ _ _ => rfl), Yields.pure (by kernel_rfl) S⟩
    · obtain rfl := Option.some.inj hx
      have hj : f 16 = false := by
        cases h : f 16
        · rfl
        · have h2 := hsh 16 _ rfl h ⟨15, .data⟩ (by simp) rfl
          exact absurd (h2.symm.trans hf) (by decide)
      refine ⟨fun k => if k = 9 then W.heap.size else p k, fun j hj hfj => ?_, .inl ⟨W.alloc (.cells (wc (dts 0)) 34), by kernel_rfl, ?_⟩⟩
      · rcases j with _ | _ | _ | _ | _ | _ | _ | _ | _ | _ | _ | _ | _ | _ | _ | _ | _ | _ | j
        · rfl
        · rfl
        · rfl
        · rfl
        · rfl
        · rfl
        · rfl
        · rfl
        · rfl
        · rfl
        · rfl
        · rfl
        · rfl
        · rfl
        · rfl
        · exact absurd (hfj.symm.trans hf) (by decide)
        · rfl
        · rfl
        · rfl
      · have S1 := S0.alloc (wc (dts 0)) 34
        show St Z w _ ([(W.heap.size, .row (if f 16 then (wc (dts r)) else (wc (dts 0))) 34)] ++ [(b28, .row (wc (dts v3)) 34), (b21, .row (wc (dts v2)) 34), (b14, .row (wc (dts v1)) 34), (b4, .bytes (fun j => if j = 31 then (bits .andNot .u8 ((bys s) 31) 128) else (bys s) j)), (b1, .row (n27 0 0 0) 36)])
        rw [hj]
        exact S1
    · obtain rfl := Option.some.inj hx
      have hi : f 15 = true := hdep ⟨15, .data⟩ (by simp) rfl
      have S1 : St Z w W ((p 9, .row (wc (dts 0)) 34) :: [(b28, .row (wc (dts v3)) 34), (b21, .row (wc (dts v2)) 34), (b14, .row (wc (dts v1)) 34), (b4, .bytes (fun j => if j = 31 then (bits .andNot .u8 ((bys s) 31) 128) else (bys s) j)), (b1, .row (n27 0 0 0) 36)]) := by
        have h : St Z w W ((if f 15 then [(p 9, .row (if f 16 then (wc (dts r)) else (wc (dts 0))) 34)] else []) ++ [(b28, .row (wc (dts v3)) 34), (b21, .row (wc (dts v2)) 34), (b14, .row (wc (dts v1)) 34), (b4, .bytes (fun j => if j = 31 then (bits .andNot .u8 ((bys s) 31) 128) else (bys s) j)), (b1, .row (n27 0 0 0) 36)]) := S
        have hf2 : f 16 = false := hf
        rw [hi, hf2] at h
        exact h
      refine ⟨p, (fun _ _ _ => rfl), .inr (.inl ⟨rfl, _, run_store S1 0 (p 9) 34 9 (.tmp 9) (.tmp 52) (wc (dts 0)) (wc (dts r)) (by kernel_rfl) (by kernel_rfl) (by kernel_rfl) rfl row34 (n9_size _) (n9_size _) (wc_one _), ?_⟩)⟩
      have S2 := S1.set 0 rfl (wc (dts r))
      show St Z w _ ((if f 15 then [(p 9, .row (wc (dts r)) 34)] else []) ++ [(b28, .row (wc (dts v3)) 34), (b21, .row (wc (dts v2)) 34), (b14, .row (wc (dts v1)) 34), (b4, .bytes (fun j => if j = 31 then (bits .andNot .u8 ((bys s) 31) 128) else (bys s) j)), (b1, .row (n27 0 0 0) 36)])
      rw [hi]
      exact S2
    · obtain rfl := Option.some.inj hx
      exact ⟨p, (fun _ _ _ => rfl), Yields.pure (by kernel_rfl) S⟩
    · cases hx
  · intro p f W33 hf S
    have S34 : St Z w W33 ((p 9, .row (wc (dts r)) 34) :: [(b28, .row (wc (dts v3)) 34), (b21, .row (wc (dts v2)) 34), (b14, .row (wc (dts v1)) 34), (b4, .bytes (fun j => if j = 31 then (bits .andNot .u8 ((bys s) 31) 128) else (bys s) j)), (b1, .row (n27 0 0 0) 36)]) := by
      have h : St Z w W33 ((if f 15 then [(p 9, .row (if f 16 then (wc (dts r)) else (wc (dts 0))) 34)] else []) ++ [(b28, .row (wc (dts v3)) 34), (b21, .row (wc (dts v2)) 34), (b14, .row (wc (dts v1)) 34), (b4, .bytes (fun j => if j = 31 then (bits .andNot .u8 ((bys s) 31) 128) else (bys s) j)), (b1, .row (n27 0 0 0) 36)]) := S
      rw [hf 15 (by decide), hf 16 (by decide)] at h
      exact h
    clear S hf
    refine hK _ _ ?_
    clear hK K
    simp only [List.cons_append, List.nil_append, puts, List.tail_cons, List.headD_cons, if_true, Act.put, List.setIfInBounds_toArray, List.set_cons_zero, List.set_cons_succ]
    generalize p 9 = b35 at S34 ⊢
    refine wp_seq_k fun K hK => ?_
    refine wp_seq_k fun K hK => ?_
    refine wr_list ?_
    refine wl_pure (.bool false) rfl (fun _ => by kernel_rfl) ?_
    intro a' ha
    simp only [Act.put, List.setIfInBounds_toArray, List.set_cons_zero, List.set_cons_succ] at ha
    subst ha
    refine wl_pure (.bool true) rfl (fun _ => by kernel_rfl) ?_
    intro a' ha
    simp only [Act.put, List.setIfInBounds_toArray, List.set_cons_zero, List.set_cons_succ] at ha
    subst ha
    refine wl_nil (hK _ _ ?_)
    clear hK K
    refine wp_cond_true rfl ?_
    refine wp_seq_k fun K hK => ?_
    refine wr_list ?_
    refine wl_pure (.agg (n27 0 0 0)) rfl (fun _ => by kernel_rfl) ?_
    intro a' ha
    simp only [Act.put, List.setIfInBounds_toArray, List.set_cons_zero, List.set_cons_succ] at ha
    subst ha
    refine wl_store S34 5 b1 36 27 (.tmp 2) (.tmp 56) (n27 0 0 0) (n27 0 0 0) rfl rfl rfl rfl rfl row36 (n27_size _ _ _) (n27_size _ _ _) (n27_one _ _ _) ?_
    intro W36 a' S37 ha
    simp only [Act.put, List.setIfInBounds_toArray, List.set_cons_zero, List.set_cons_succ] at ha
    subst ha
    refine wl_pure (.int .i64 90) rfl (fun _ => by kernel_rfl) ?_
    intro a' ha
    simp only [Act.put, List.setIfInBounds_toArray, List.set_cons_zero, List.set_cons_succ] at ha
    subst ha
    refine wl_nil (hK _ _ ?_)
    clear hK K
    refine wp_ret ?_
    exact fin_cell_tmp (k := 5) S37 rfl rfl rfl rfl row36 (n27_size _ _ _) rfl
theorem rdecode_r {Z : World → Prop} (hZ : Keeps Z) {r v1 v2 v3 v4 v5 v6 v7 v8 v9 : Nat} {s : ByteArray} (hs : s.size = 32) (hd : decide ((s.size : Int) = 32) = true) (H1 : Ret Z 34 #[.string (sbi (fun j => if j = 31 then (bits .andNot .u8 ((bys s) 31) 128) else (bys s) j))] (.bool true)) (H2 : Ret Z 35 #[.string (sbi (fun j => if j = 31 then (bits .andNot .u8 ((bys s) 31) 128) else (bys s) j))] (nd v1)) (H3 : Ret Z 36 #[nd v1, nd v1] (nd v2)) (H4 : Ret Z 37 #[.int .u32 1] (nd v3)) (H5 : Ret Z 38 #[nd v2, nd v3] (nd v4)) (H6 : Ret Z 11 #[] (nd v5)) (H7 : Ret Z 36 #[nd v5, nd v2] (nd v6)) (H8 : Ret Z 39 #[nd v6, nd v3] (nd v7)) (H9 : Ret Z 40 #[nd v7] (nd v8)) (H10 : Ret Z 36 #[nd v4, nd v8] (nd v9)) (H11 : Ret Z 41 #[nd v9, .bool (decide (128 ≤ ((bys s) 31)))] (.tuple #[nd r, .bool true])) : Ret Z 10 #[.string s] (.tuple #[rp r v1 v3, .int .i64 0]) := by
  intro w hw
  have S := St.refl hw
  go_enter Tryd.func10, Tryd.ntmps10
  refine wp_seq_k fun K hK => ?_
  refine wr_list ?_
  refine wl_alloc S (n27 0 0 0) 36 rfl (fun _ => by kernel_rfl) ?_
  intro b1 W2 a' S3 ha
  simp only [Act.put, List.setIfInBounds_toArray, List.set_cons_zero, List.set_cons_succ] at ha
  subst ha
  refine wl_pure (.int .i64 0) rfl (fun _ => by kernel_rfl) ?_
  intro a' ha
  simp only [Act.put, List.setIfInBounds_toArray, List.set_cons_zero, List.set_cons_succ] at ha
  subst ha
  refine wl_nil (hK _ _ ?_)
  clear hK K
  refine wp_seq_k fun K hK => ?_
  refine wp_seq_k fun K hK => ?_
  refine wr_list ?_
  refine wl_pure (.string s) rfl (fun _ => by kernel_rfl) ?_
  intro a' ha
  simp only [Act.put, List.setIfInBounds_toArray, List.set_cons_zero, List.set_cons_succ] at ha
  subst ha
  refine wl_pure (.int .i64 (s.size : Int)) rfl (fun _ => by kernel_rfl) ?_
  intro a' ha
  simp only [Act.put, List.setIfInBounds_toArray, List.set_cons_zero, List.set_cons_succ] at ha
  subst ha
  refine wl_pure (.bool false) rfl (fun _ => (show (execOp _ _).run Tryd.prog _ = .ok (.value (.bool (!decide ((s.size : Int) = 32)))) _ from by kernel_rfl).trans (by rw [hd]; rfl)) ?_
  intro a' ha
  simp only [Act.put, List.setIfInBounds_toArray, List.set_cons_zero, List.set_cons_succ] at ha
  subst ha
  refine wl_nil (hK _ _ ?_)
  clear hK K
  refine wp_cond_false rfl ?_
  refine wp_skip (hK _ _ ?_)
  clear hK K
  refine wp_seq_k fun K hK => ?_
  refine wr_list ?_
  refine wl_pure (.string s) rfl (fun _ => by kernel_rfl) ?_
  intro a' ha
  simp only [Act.put, List.setIfInBounds_toArray, List.set_cons_zero, List.set_cons_succ] at ha
  subst ha
  refine wl_bytes S3 s (.tmp 15) hs rfl rfl rfl ?_
  intro b4 c5 W6 a' S7 ha
  simp only [Act.put, List.setIfInBounds_toArray, List.set_cons_zero, List.set_cons_succ] at ha
  subst ha
  refine wl_pure (.slice (some ⟨b4, 0, none⟩) 32 c5) rfl (fun _ => by kernel_rfl) ?_
  intro a' ha
  simp only [Act.put, List.setIfInBounds_toArray, List.set_cons_zero, List.set_cons_succ] at ha
  subst ha
  refine wl_nil (hK _ _ ?_)
  clear hK K
  refine wp_seq_k fun K hK => ?_
  refine wr_list ?_
  refine wl_pure (.slice (some ⟨b4, 0, none⟩) 32 c5) rfl (fun _ => by kernel_rfl) ?_
  intro a' ha
  simp only [Act.put, List.setIfInBounds_toArray, List.set_cons_zero, List.set_cons_succ] at ha
  subst ha
  refine wl_pure (.pointer (some ⟨b4, 31, none⟩)) rfl (fun _ => by kernel_rfl) ?_
  intro a' ha
  simp only [Act.put, List.setIfInBounds_toArray, List.set_cons_zero, List.set_cons_succ] at ha
  subst ha
  refine wl_ldb S7 0 b4 31 (bys s) (.tmp 18) rfl rfl rfl rfl (by decide) ?_
  intro a' ha
  simp only [Act.put, List.setIfInBounds_toArray, List.set_cons_zero, List.set_cons_succ] at ha
  subst ha
  refine wl_pure (.bool (decide (128 ≤ ((bys s) 31)))) rfl (fun _ => by kernel_rfl) ?_
  intro a' ha
  simp only [Act.put, List.setIfInBounds_toArray, List.set_cons_zero, List.set_cons_succ] at ha
  subst ha
  refine wl_pure (.bool (decide (128 ≤ ((bys s) 31)))) rfl (fun _ => by kernel_rfl) ?_
  intro a' ha
  simp only [Act.put, List.setIfInBounds_toArray, List.set_cons_zero, List.set_cons_succ] at ha
  subst ha
  refine wl_nil (hK _ _ ?_)
  clear hK K
  refine wp_seq_k fun K hK => ?_
  refine wr_list ?_
  refine wl_pure (.slice (some ⟨b4, 0, none⟩) 32 c5) rfl (fun _ => by kernel_rfl) ?_
  intro a' ha
  simp only [Act.put, List.setIfInBounds_toArray, List.set_cons_zero, List.set_cons_succ] at ha
  subst ha
  refine wl_pure (.slice (some ⟨b4, 0, none⟩) 32 c5) rfl (fun _ => by kernel_rfl) ?_
  intro a' ha
  simp only [Act.put, List.setIfInBounds_toArray, List.set_cons_zero, List.set_cons_succ] at ha
  subst ha
  refine wl_pure (.pointer (some ⟨b4, 31, none⟩)) rfl (fun _ => by kernel_rfl) ?_
  intro a' ha
  simp only [Act.put, List.setIfInBounds_toArray, List.set_cons_zero, List.set_cons_succ] at ha
  subst ha
  refine wl_ldb S7 0 b4 31 (bys s) (.tmp 23) rfl rfl rfl rfl (by decide) ?_
  intro a' ha
  simp only [Act.put, List.setIfInBounds_toArray, List.set_cons_zero, List.set_cons_succ] at ha
  subst ha
  refine wl_pure (.int .u8 (bits .andNot .u8 ((bys s) 31) 128)) rfl (fun _ => by kernel_rfl) ?_
  intro a' ha
  simp only [Act.put, List.setIfInBounds_toArray, List.set_cons_zero, List.set_cons_succ] at ha
  subst ha
  refine wl_pure (.pointer (some ⟨b4, 31, none⟩)) rfl (fun _ => by kernel_rfl) ?_
  intro a' ha
  simp only [Act.put, List.setIfInBounds_toArray, List.set_cons_zero, List.set_cons_succ] at ha
  subst ha
  refine wl_stb S7 0 b4 31 (bys s) (bits .andNot .u8 ((bys s) 31) 128) (.tmp 26) (.tmp 25) rfl rfl rfl rfl rfl (by decide) ?_
  intro W8 a' S9 ha
  simp only [Act.put, List.setIfInBounds_toArray, List.set_cons_zero, List.set_cons_succ] at ha
  subst ha
  refine wl_nil (hK _ _ ?_)
  clear hK K
  refine wp_seq_k fun K hK => ?_
  refine wp_seq_k fun K hK => ?_
  refine wr_list ?_
  refine wl_pure (.slice (some ⟨b4, 0, none⟩) 32 c5) rfl (fun _ => by kernel_rfl) ?_
  intro a' ha
  simp only [Act.put, List.setIfInBounds_toArray, List.set_cons_zero, List.set_cons_succ] at ha
  subst ha
  refine wl_text S9 0 b4 c5 (fun j => if j = 31 then (bits .andNot .u8 ((bys s) 31) 128) else (bys s) j) (.tmp 27) rfl rfl rfl rfl ?_
  intro a' ha
  simp only [Act.put, List.setIfInBounds_toArray, List.set_cons_zero, List.set_cons_succ] at ha
  subst ha
  refine wl_call hZ S9 H1 rfl (fun _ => by kernel_rfl) ?_
  intro W10 a' S11 ha
  simp only [Act.put, List.setIfInBounds_toArray, List.set_cons_zero, List.set_cons_succ] at ha
  subst ha
  refine wl_pure (.bool false) rfl (fun _ => by kernel_rfl) ?_
  intro a' ha
  simp only [Act.put, List.setIfInBounds_toArray, List.set_cons_zero, List.set_cons_succ] at ha
  subst ha
  refine wl_nil (hK _ _ ?_)
  clear hK K
  refine wp_cond_false rfl ?_
  refine wp_skip (hK _ _ ?_)
  clear hK K
  refine wp_seq_k fun K hK => ?_
  refine wr_list ?_
  refine wl_pure (.slice (some ⟨b4, 0, none⟩) 32 c5) rfl (fun _ => by kernel_rfl) ?_
  intro a' ha
  simp only [Act.put, List.setIfInBounds_toArray, List.set_cons_zero, List.set_cons_succ] at ha
  subst ha
  refine wl_text S11 0 b4 c5 (fun j => if j = 31 then (bits .andNot .u8 ((bys s) 31) 128) else (bys s) j) (.tmp 32) rfl rfl rfl rfl ?_
  intro a' ha
  simp only [Act.put, List.setIfInBounds_toArray, List.set_cons_zero, List.set_cons_succ] at ha
  subst ha
  refine wl_call hZ S11 H2 rfl (fun _ => by kernel_rfl) ?_
  intro W12 a' S13 ha
  simp only [Act.put, List.setIfInBounds_toArray, List.set_cons_zero, List.set_cons_succ] at ha
  subst ha
  refine wl_alloc S13 (wc (dts 0)) 34 rfl (fun _ => by kernel_rfl) ?_
  intro b14 W15 a' S16 ha
  simp only [Act.put, List.setIfInBounds_toArray, List.set_cons_zero, List.set_cons_succ] at ha
  subst ha
  refine wl_store S16 0 b14 34 9 (.tmp 6) (.tmp 34) (wc (dts 0)) (wc (dts v1)) rfl rfl rfl rfl rfl row34 (n9_size _) (n9_size _) (wc_one _) ?_
  intro W17 a' S18 ha
  simp only [Act.put, List.setIfInBounds_toArray, List.set_cons_zero, List.set_cons_succ] at ha
  subst ha
  refine wl_nil (hK _ _ ?_)
  clear hK K
  refine wp_seq_k fun K hK => ?_
  refine wr_list ?_
  refine wl_load S18 0 b14 0 34 9 (.tmp 6) (wc (dts v1)) (wc (dts v1)) rfl rfl rfl rfl (Sub.self _) row34 (n9_size _) ?_
  intro a' ha
  simp only [Act.put, List.setIfInBounds_toArray, List.set_cons_zero, List.set_cons_succ] at ha
  subst ha
  refine wl_load S18 0 b14 0 34 9 (.tmp 6) (wc (dts v1)) (wc (dts v1)) rfl rfl rfl rfl (Sub.self _) row34 (n9_size _) ?_
  intro a' ha
  simp only [Act.put, List.setIfInBounds_toArray, List.set_cons_zero, List.set_cons_succ] at ha
  subst ha
  refine wl_call hZ S18 H3 rfl (fun _ => by kernel_rfl) ?_
  intro W19 a' S20 ha
  simp only [Act.put, List.setIfInBounds_toArray, List.set_cons_zero, List.set_cons_succ] at ha
  subst ha
  refine wl_alloc S20 (wc (dts 0)) 34 rfl (fun _ => by kernel_rfl) ?_
  intro b21 W22 a' S23 ha
  simp only [Act.put, List.setIfInBounds_toArray, List.set_cons_zero, List.set_cons_succ] at ha
  subst ha
  refine wl_store S23 0 b21 34 9 (.tmp 7) (.tmp 37) (wc (dts 0)) (wc (dts v2)) rfl rfl rfl rfl rfl row34 (n9_size _) (n9_size _) (wc_one _) ?_
  intro W24 a' S25 ha
  simp only [Act.put, List.setIfInBounds_toArray, List.set_cons_zero, List.set_cons_succ] at ha
  subst ha
  refine wl_nil (hK _ _ ?_)
  clear hK K
  refine wp_seq_k fun K hK => ?_
  refine wr_list ?_
  refine wl_call hZ S25 H4 rfl (fun _ => by kernel_rfl) ?_
  intro W26 a' S27 ha
  simp only [Act.put, List.setIfInBounds_toArray, List.set_cons_zero, List.set_cons_succ] at ha
  subst ha
  refine wl_alloc S27 (wc (dts 0)) 34 rfl (fun _ => by kernel_rfl) ?_
  intro b28 W29 a' S30 ha
  simp only [Act.put, List.setIfInBounds_toArray, List.set_cons_zero, List.set_cons_succ] at ha
  subst ha
  refine wl_store S30 0 b28 34 9 (.tmp 8) (.tmp 38) (wc (dts 0)) (wc (dts v3)) rfl rfl rfl rfl rfl row34 (n9_size _) (n9_size _) (wc_one _) ?_
  intro W31 a' S32 ha
  simp only [Act.put, List.setIfInBounds_toArray, List.set_cons_zero, List.set_cons_succ] at ha
  subst ha
  refine wl_nil (hK _ _ ?_)
  clear hK K
  refine wp_seq_k fun K hK => ?_
  refine wr_all [_, _, _, _, _, _, _, _, _, _, _, _, _, _, _, _, _] _ S32 (fun p => [(.agg (wc (dts v2))), (.agg (wc (dts v3))), (nd v4), (nd v5), (.agg (wc (dts v2))), (nd v6), (.agg (wc (dts v3))), (nd v7), (nd v8), (nd v9), (.bool (decide (128 ≤ ((bys s) 31)))), (.tuple #[nd r, .bool true]), (.tuple #[nd r, .bool true]), (nd r), (.bool true), (.pointer (some ⟨(p 9), 0, none⟩)), undef, (.bool true)]) (fun p f => (if f 15 then [(p 9, .row (if f 16 then (wc (dts r)) else (wc (dts 0))) 34)] else []) ++ [(b28, .row (wc (dts v3)) 34), (b21, .row (wc (dts v2)) 34), (b14, .row (wc (dts v1)) 34), (b4, .bytes (fun j => if j = 31 then (bits .andNot .u8 ((bys s) 31) 128) else (bys s) j)), (b1, .row (n27 0 0 0) 36)]) (by kernel_rfl) (by kernel_rfl) (by kernel_rfl) (by kernel_rfl) rfl ?_ ?_
  · intro p f W i x S hsh hf hx hdep
    have S0 := S.tail
    rcases i with _ | _ | _ | _ | _ | _ | _ | _ | _ | _ | _ | _ | _ | _ | _ | _ | _ | _ | i
    · obtain rfl := Option.some.inj hx
      exact ⟨p, (fun _ _ _ => rfl), Yields.load S S0 1 b21 0 34 9 (.tmp 7) (wc (dts v2)) (wc (dts v2)) (by kernel_rfl) (by kernel_rfl) rfl (Sub.self _) row34 (n9_size _)⟩
    · obtain rfl := Option.some.inj hx
      exact ⟨p, (fun _ _ _ => rfl), Yields.load S S0 0 b28 0 34 9 (.tmp 8) (wc (dts v3)) (wc (dts v3)) (by kernel_rfl) (by kernel_rfl) rfl (Sub.self _) row34 (n9_size _)⟩
    · obtain rfl := Option.some.inj hx
      exact ⟨p, (fun _ _ _ => rfl), Yields.call hZ S H5 (by kernel_rfl)⟩
    · obtain rfl := Option.some.inj hx
      exact ⟨p, (fun _ _ _ => rfl), Yields.call hZ S H6 (by kernel_rfl)⟩
    · obtain rfl := Option.some.inj hx
      exact ⟨p, (fun _ _ _ => rfl), Yields.load S S0 1 b21 0 34 9 (.tmp 7) (wc (dts v2)) (wc (dts v2)) (by kernel_rfl) (by kernel_rfl) rfl (Sub.self _) row34 (n9_size _)⟩
    · obtain rfl := Option.some.inj hx
      exact ⟨p, (fun _ _ _ => rfl), Yields.call hZ S H7 (by kernel_rfl)⟩
    · obtain rfl := Option.some.inj hx
      exact ⟨p, (fun _ _ _ => rfl), Yields.load S S0 0 b28 0 34 9 (.tmp 8) (wc (dts v3)) (wc (dts v3)) (by kernel_rfl) (by kernel_rfl) rfl (Sub.self _) row34 (n9_size _)⟩
    · obtain rfl := Option.some.inj hx
      exact ⟨p, (fun _ _ _ => rfl), Yields.call hZ S H8 (by kernel_rfl)⟩
    · obtain rfl := Option.some.inj hx
      exact ⟨p, (fun _ _ _ => rfl), Yields.call hZ S H9 (by kernel_rfl)⟩
    · obtain rfl := Option.some.inj hx
      exact ⟨p, (fun _ _ _ => rfl), Yields.call hZ S H10 (by kernel_rfl)⟩
    · obtain rfl := Option.some.inj hx
      exact ⟨p, (fun _ _ _ => rfl), Yields.pure (by kernel_rfl) S⟩
    · obtain rfl := Option.some.inj hx
      exact ⟨p, (fun _ _ _ => rfl), Yields.call hZ S H11 (by kernel_rfl)⟩
    · obtain rfl := Option.some.inj hx
      exact ⟨p, (fun _ _ _ => rfl), Yields.pure (by kernel_rfl) S⟩
    · obtain rfl := Option.some.inj hx
      exact ⟨p, (fun _ _ _ => rfl), Yields.pure (by kernel_rfl) S⟩
    · obtain rfl := Option.some.inj hx
      exact ⟨p, (fun _ _ _ => rfl), Yields.pure (by kernel_rfl) S⟩
    · obtain rfl := Option.some.inj hx
      have hj : f 16 = false := by
        cases h : f 16
        · rfl
        · have h2 := hsh 16 _ rfl h ⟨15, .data⟩ (by simp) rfl
          exact absurd (h2.symm.trans hf) (by decide)
      refine ⟨fun k => if k = 9 then W.heap.size else p k, fun j hj hfj => ?_, .inl ⟨W.alloc (.cells (wc (dts 0)) 34), by kernel_rfl, ?_⟩⟩
      · rcases j with _ | _ | _ | _ | _ | _ | _ | _ | _ | _ | _ | _ | _ | _ | _ | _ | _ | _ | j
        · rfl
        · rfl
        · rfl
        · rfl
        · rfl
        · rfl
        · rfl
        · rfl
        · rfl
        · rfl
        · rfl
        · rfl
        · rfl
        · rfl
        · rfl
        · exact absurd (hfj.symm.trans hf) (by decide)
        · rfl
        · rfl
        · rfl
      · have S1 := S0.alloc (wc (dts 0)) 34
        show St Z w _ ([(W.heap.size, .row (if f 16 then (wc (dts r)) else (wc (dts 0))) 34)] ++ [(b28, .row (wc (dts v3)) 34), (b21, .row (wc (dts v2)) 34), (b14, .row (wc (dts v1)) 34), (b4, .bytes (fun j => if j = 31 then (bits .andNot .u8 ((bys s) 31) 128) else (bys s) j)), (b1, .row (n27 0 0 0) 36)])
        rw [hj]
        exact S1
    · obtain rfl := Option.some.inj hx
      have hi : f 15 = true := hdep ⟨15, .data⟩ (by simp) rfl
      have S1 : St Z w W ((p 9, .row (wc (dts 0)) 34) :: [(b28, .row (wc (dts v3)) 34), (b21, .row (wc (dts v2)) 34), (b14, .row (wc (dts v1)) 34), (b4, .bytes (fun j => if j = 31 then (bits .andNot .u8 ((bys s) 31) 128) else (bys s) j)), (b1, .row (n27 0 0 0) 36)]) := by
        have h : St Z w W ((if f 15 then [(p 9, .row (if f 16 then (wc (dts r)) else (wc (dts 0))) 34)] else []) ++ [(b28, .row (wc (dts v3)) 34), (b21, .row (wc (dts v2)) 34), (b14, .row (wc (dts v1)) 34), (b4, .bytes (fun j => if j = 31 then (bits .andNot .u8 ((bys s) 31) 128) else (bys s) j)), (b1, .row (n27 0 0 0) 36)]) := S
        have hf2 : f 16 = false := hf
        rw [hi, hf2] at h
        exact h
      refine ⟨p, (fun _ _ _ => rfl), .inr (.inl ⟨rfl, _, run_store S1 0 (p 9) 34 9 (.tmp 9) (.tmp 52) (wc (dts 0)) (wc (dts r)) (by kernel_rfl) (by kernel_rfl) (by kernel_rfl) rfl row34 (n9_size _) (n9_size _) (wc_one _), ?_⟩)⟩
      have S2 := S1.set 0 rfl (wc (dts r))
      show St Z w _ ((if f 15 then [(p 9, .row (wc (dts r)) 34)] else []) ++ [(b28, .row (wc (dts v3)) 34), (b21, .row (wc (dts v2)) 34), (b14, .row (wc (dts v1)) 34), (b4, .bytes (fun j => if j = 31 then (bits .andNot .u8 ((bys s) 31) 128) else (bys s) j)), (b1, .row (n27 0 0 0) 36)])
      rw [hi]
      exact S2
    · obtain rfl := Option.some.inj hx
      exact ⟨p, (fun _ _ _ => rfl), Yields.pure (by kernel_rfl) S⟩
    · cases hx
  · intro p f W33 hf S
    have S34 : St Z w W33 ((p 9, .row (wc (dts r)) 34) :: [(b28, .row (wc (dts v3)) 34), (b21, .row (wc (dts v2)) 34), (b14, .row (wc (dts v1)) 34), (b4, .bytes (fun j => if j = 31 then (bits .andNot .u8 ((bys s) 31) 128) else (bys s) j)), (b1, .row (n27 0 0 0) 36)]) := by
      have h : St Z w W33 ((if f 15 then [(p 9, .row (if f 16 then (wc (dts r)) else (wc (dts 0))) 34)] else []) ++ [(b28, .row (wc (dts v3)) 34), (b21, .row (wc (dts v2)) 34), (b14, .row (wc (dts v1)) 34), (b4, .bytes (fun j => if j = 31 then (bits .andNot .u8 ((bys s) 31) 128) else (bys s) j)), (b1, .row (n27 0 0 0) 36)]) := S
      rw [hf 15 (by decide), hf 16 (by decide)] at h
      exact h
    clear S hf
    refine hK _ _ ?_
    clear hK K
    simp only [List.cons_append, List.nil_append, puts, List.tail_cons, List.headD_cons, if_true, Act.put, List.setIfInBounds_toArray, List.set_cons_zero, List.set_cons_succ]
    generalize p 9 = b35 at S34 ⊢
    refine wp_seq_k fun K hK => ?_
    refine wp_seq_k fun K hK => ?_
    refine wr_list ?_
    refine wl_pure (.bool true) rfl (fun _ => by kernel_rfl) ?_
    intro a' ha
    simp only [Act.put, List.setIfInBounds_toArray, List.set_cons_zero, List.set_cons_succ] at ha
    subst ha
    refine wl_pure (.bool false) rfl (fun _ => by kernel_rfl) ?_
    intro a' ha
    simp only [Act.put, List.setIfInBounds_toArray, List.set_cons_zero, List.set_cons_succ] at ha
    subst ha
    refine wl_nil (hK _ _ ?_)
    clear hK K
    refine wp_cond_false rfl ?_
    refine wp_skip (hK _ _ ?_)
    clear hK K
    refine wp_seq_k fun K hK => ?_
    refine wr_list ?_
    refine wl_load S34 0 b35 0 34 9 (.tmp 9) (wc (dts r)) (wc (dts r)) rfl rfl rfl rfl (Sub.self _) row34 (n9_size _) ?_
    intro a' ha
    simp only [Act.put, List.setIfInBounds_toArray, List.set_cons_zero, List.set_cons_succ] at ha
    subst ha
    refine wl_load S34 3 b14 0 34 9 (.tmp 6) (wc (dts v1)) (wc (dts v1)) rfl rfl rfl rfl (Sub.self _) row34 (n9_size _) ?_
    intro a' ha
    simp only [Act.put, List.setIfInBounds_toArray, List.set_cons_zero, List.set_cons_succ] at ha
    subst ha
    refine wl_load S34 1 b28 0 34 9 (.tmp 8) (wc (dts v3)) (wc (dts v3)) rfl rfl rfl rfl (Sub.self _) row34 (n9_size _) ?_
    intro a' ha
    simp only [Act.put, List.setIfInBounds_toArray, List.set_cons_zero, List.set_cons_succ] at ha
    subst ha
    refine wl_pure (.agg (n27 r v1 v3)) rfl (fun _ => by kernel_rfl) ?_
    intro a' ha
    simp only [Act.put, List.setIfInBounds_toArray, List.set_cons_zero, List.set_cons_succ] at ha
    subst ha
    refine wl_store S34 5 b1 36 27 (.tmp 2) (.tmp 60) (n27 0 0 0) (n27 r v1 v3) rfl rfl rfl rfl rfl row36 (n27_size _ _ _) (n27_size _ _ _) (n27_one _ _ _) ?_
    intro W36 a' S37 ha
    simp only [Act.put, List.setIfInBounds_toArray, List.set_cons_zero, List.set_cons_succ] at ha
    subst ha
    refine wl_pure (.int .i64 0) rfl (fun _ => by kernel_rfl) ?_
    intro a' ha
    simp only [Act.put, List.setIfInBounds_toArray, List.set_cons_zero, List.set_cons_succ] at ha
    subst ha
    refine wl_nil (hK _ _ ?_)
    clear hK K
    refine wp_ret ?_
    exact fin_cell_tmp (k := 5) S37 rfl rfl rfl rfl row36 (n27_size _ _ _) rfl
theorem is_r {Z : World → Prop} (hZ : Keeps Z) {x1 y1 z1 t1 x2 y2 z2 : Nat} {s t : ByteArray} {q : Bool} (H1 : Ret Z 13 #[pv x1 y1 z1 t1] (.string s)) (H2 : Ret Z 29 #[rp x2 y2 z2] (.string t)) (hq1 : ((s : ByteArray).toList == (t : ByteArray).toList) = q) : Ret Z 15 #[pv x1 y1 z1 t1, rp x2 y2 z2] (.bool q) := by
  intro w hw
  have S := St.refl hw
  go_enter Tryd.func15, Tryd.ntmps15
  refine wp_seq_k fun K hK => ?_
  refine wr_list ?_
  refine wl_alloc S (q4 x1 y1 z1 t1) 29 rfl (fun _ => by kernel_rfl) ?_
  intro b1 W2 a' S3 ha
  simp only [Act.put, List.setIfInBounds_toArray, List.set_cons_zero, List.set_cons_succ] at ha
  subst ha
  refine wl_alloc S3 (n27 x2 y2 z2) 36 rfl (fun _ => by kernel_rfl) ?_
  intro b4 W5 a' S6 ha
  simp only [Act.put, List.setIfInBounds_toArray, List.set_cons_zero, List.set_cons_succ] at ha
  subst ha
  refine wl_pure (.bool false) rfl (fun _ => by kernel_rfl) ?_
  intro a' ha
  simp only [Act.put, List.setIfInBounds_toArray, List.set_cons_zero, List.set_cons_succ] at ha
  subst ha
  refine wl_nil (hK _ _ ?_)
  clear hK K
  refine wp_seq_k fun K hK => ?_
  refine wr_ext S6 (by kernel_rfl) (by kernel_rfl) ?_
  refine wq_load S6 1 b1 0 29 16 (.tmp 2) (q4 x1 y1 z1 t1) (q4 x1 y1 z1 t1) rfl rfl rfl rfl (Sub.self _) row29 rfl ?_
  intro a' ha
  simp only [Act.put, List.setIfInBounds_toArray, List.set_cons_zero, List.set_cons_succ] at ha
  subst ha
  refine wq_call hZ S6 H1 rfl (fun _ => by kernel_rfl) ?_
  intro a' ha
  simp only [Act.put, List.setIfInBounds_toArray, List.set_cons_zero, List.set_cons_succ] at ha
  subst ha
  refine wq_load S6 0 b4 0 36 27 (.tmp 3) (n27 x2 y2 z2) (n27 x2 y2 z2) rfl rfl rfl rfl (Sub.self _) row36 (n27_size _ _ _) ?_
  intro a' ha
  simp only [Act.put, List.setIfInBounds_toArray, List.set_cons_zero, List.set_cons_succ] at ha
  subst ha
  refine wq_call hZ S6 H2 rfl (fun _ => by kernel_rfl) ?_
  intro a' ha
  simp only [Act.put, List.setIfInBounds_toArray, List.set_cons_zero, List.set_cons_succ] at ha
  subst ha
  refine wq_pure (.bool q) rfl (run_eq9 (.tmp 6) (.tmp 8) _ rfl s t rfl rfl hq1) ?_
  intro a' ha
  simp only [Act.put, List.setIfInBounds_toArray, List.set_cons_zero, List.set_cons_succ] at ha
  subst ha
  refine wq_pure (.bool q) rfl (fun _ => by kernel_rfl) ?_
  intro a' ha
  simp only [Act.put, List.setIfInBounds_toArray, List.set_cons_zero, List.set_cons_succ] at ha
  subst ha
  refine wq_nil ?_
  intro W7 S8
  refine hK _ _ ?_
  clear hK K
  refine wp_ret ?_
  exact fin_tmp S8 rfl rfl rfl
end Go.Proofs.YtpdagpjjlnncbaaDoor
