/-
  EdwLaws: its walk, where a scalar is not read. No statement is proved here.
-/
import Derived.Test.YtpdagpjjlnncbaaDoorEdwS
namespace Go.Proofs.YtpdagpjjlnncbaaDoor
open Go.RowKit Go.Lib Go.BigFrame
set_option linter.unusedVariables false
set_option linter.unusedSimpArgs false
set_option maxRecDepth 1000000
set_option maxHeartbeats 4000000

theorem laws_y0 {Z : World → Prop} (hZ : Keeps Z) {x1 y1 z1 t1 x2 y2 z2 t2 x3 y3 z3 t3 a b v1 v2 v3 v4 v5 v6 v7 v8 v9 v10 v11 v12 v13 v14 v15 v16 v17 v18 v19 v20 v21 v22 v23 v24 v25 v26 v27 v28 v29 v30 v31 v32 v33 v34 v35 v36 : Nat} {r s t m n : ByteArray} {h i : Int} (H1 : Ret Z 9 #[.string r] (.tuple #[pv x1 y1 z1 t1, .int .i64 0])) (H2 : Ret Z 9 #[.string s] (.tuple #[pv x2 y2 z2 t2, .int .i64 0])) (H3 : Ret Z 9 #[.string t] (.tuple #[pv x3 y3 z3 t3, .int .i64 0])) (H4 : Ret Z 18 #[pv x1 y1 z1 t1, pv x2 y2 z2 t2] (pv v1 v2 v3 v4)) (H5 : Ret Z 18 #[pv x2 y2 z2 t2, pv x1 y1 z1 t1] (pv v5 v6 v7 v8)) (H6 : Ret Z 14 #[pv v1 v2 v3 v4, pv v5 v6 v7 v8] (.bool true)) (H7 : Ret Z 18 #[pv v1 v2 v3 v4, pv x3 y3 z3 t3] (pv v9 v10 v11 v12)) (H8 : Ret Z 18 #[pv x2 y2 z2 t2, pv x3 y3 z3 t3] (pv v13 v14 v15 v16)) (H9 : Ret Z 18 #[pv x1 y1 z1 t1, pv v13 v14 v15 v16] (pv v17 v18 v19 v20)) (H10 : Ret Z 14 #[pv v9 v10 v11 v12, pv v17 v18 v19 v20] (.bool true)) (H11 : Ret Z 25 #[] (pv v21 v22 v23 v24)) (H12 : Ret Z 18 #[pv x1 y1 z1 t1, pv v21 v22 v23 v24] (pv v25 v26 v27 v28)) (H13 : Ret Z 14 #[pv v25 v26 v27 v28, pv x1 y1 z1 t1] (.bool true)) (H14 : Ret Z 20 #[pv x1 y1 z1 t1] (pv v29 v30 v31 v32)) (H15 : Ret Z 18 #[pv x1 y1 z1 t1, pv x1 y1 z1 t1] (pv v33 v34 v35 v36)) (H16 : Ret Z 14 #[pv v29 v30 v31 v32, pv v33 v34 v35 v36] (.bool true)) (H17 : Ret Z 17 #[.string m] (.tuple #[wd a, .int .i64 h])) (H18 : Ret Z 17 #[.string n] (.tuple #[wd b, .int .i64 i])) (H19 : Ret Z 8 #[] (.bool true)) (hq1 : decide (h = 0) = false) : Ret Z 6 #[.string r, .string s, .string t, .string m, .string n] (.bool true) := by
  intro w hw
  have S := St.refl hw
  go_enter Tryd.func6, Tryd.ntmps6
  refine wp_seq_k fun K hK => ?_
  refine wr_list ?_
  refine wl_pure (.bool false) rfl (fun _ => by kernel_rfl) ?_
  intro a' ha
  simp only [Act.put, pA, pO, pS] at ha
  subst ha
  refine wl_nil (hK _ _ ?_)
  clear hK K
  refine wp_seq_k fun K hK => ?_
  refine wr_list ?_
  refine wl_pure (.string r) rfl (fun _ => by kernel_rfl) ?_
  intro a' ha
  simp only [Act.put, pA, pO, pS] at ha
  subst ha
  refine wl_call hZ S H1 rfl (fun _ => by kernel_rfl) ?_
  intro W1 a' S2 ha
  simp only [Act.put, pA, pO, pS] at ha
  subst ha
  refine wl_pure (.tuple #[pv x1 y1 z1 t1, .int .i64 0]) rfl (fun _ => by kernel_rfl) ?_
  intro a' ha
  simp only [Act.put, pA, pO, pS] at ha
  subst ha
  refine wl_pure (pv x1 y1 z1 t1) rfl (fun _ => by kernel_rfl) ?_
  intro a' ha
  simp only [Act.put, pA, pO, pS] at ha
  subst ha
  refine wl_pure (.int .i64 0) rfl (fun _ => by kernel_rfl) ?_
  intro a' ha
  simp only [Act.put, pA, pO, pS] at ha
  subst ha
  refine wl_alloc S2 (q4 0 0 0 0) 29 rfl (fun _ => by kernel_rfl) ?_
  intro b3 W4 a' S5 ha
  simp only [Act.put, pA, pO, pS] at ha
  subst ha
  refine wl_store S5 0 b3 29 16 (.tmp 11) (.tmp 32) (q4 0 0 0 0) (q4 x1 y1 z1 t1) rfl rfl rfl rfl rfl row29 rfl rfl (q4_one _ _ _ _) ?_
  intro W6 a' S7 ha
  simp only [Act.put, pA, pO, pS] at ha
  subst ha
  refine wl_pure (.int .i64 0) rfl (fun _ => by kernel_rfl) ?_
  intro a' ha
  simp only [Act.put, pA, pO, pS] at ha
  subst ha
  refine wl_nil (hK _ _ ?_)
  clear hK K
  refine wp_seq_k fun K hK => ?_
  refine wr_list ?_
  refine wl_pure (.string s) rfl (fun _ => by kernel_rfl) ?_
  intro a' ha
  simp only [Act.put, pA, pO, pS] at ha
  subst ha
  refine wl_call hZ S7 H2 rfl (fun _ => by kernel_rfl) ?_
  intro W8 a' S9 ha
  simp only [Act.put, pA, pO, pS] at ha
  subst ha
  refine wl_pure (.tuple #[pv x2 y2 z2 t2, .int .i64 0]) rfl (fun _ => by kernel_rfl) ?_
  intro a' ha
  simp only [Act.put, pA, pO, pS] at ha
  subst ha
  refine wl_pure (pv x2 y2 z2 t2) rfl (fun _ => by kernel_rfl) ?_
  intro a' ha
  simp only [Act.put, pA, pO, pS] at ha
  subst ha
  refine wl_pure (.int .i64 0) rfl (fun _ => by kernel_rfl) ?_
  intro a' ha
  simp only [Act.put, pA, pO, pS] at ha
  subst ha
  refine wl_alloc S9 (q4 0 0 0 0) 29 rfl (fun _ => by kernel_rfl) ?_
  intro b10 W11 a' S12 ha
  simp only [Act.put, pA, pO, pS] at ha
  subst ha
  refine wl_store S12 0 b10 29 16 (.tmp 13) (.tmp 37) (q4 0 0 0 0) (q4 x2 y2 z2 t2) rfl rfl rfl rfl rfl row29 rfl rfl (q4_one _ _ _ _) ?_
  intro W13 a' S14 ha
  simp only [Act.put, pA, pO, pS] at ha
  subst ha
  refine wl_pure (.int .i64 0) rfl (fun _ => by kernel_rfl) ?_
  intro a' ha
  simp only [Act.put, pA, pO, pS] at ha
  subst ha
  refine wl_nil (hK _ _ ?_)
  clear hK K
  refine wp_seq_k fun K hK => ?_
  refine wr_list ?_
  refine wl_pure (.string t) rfl (fun _ => by kernel_rfl) ?_
  intro a' ha
  simp only [Act.put, pA, pO, pS] at ha
  subst ha
  refine wl_call hZ S14 H3 rfl (fun _ => by kernel_rfl) ?_
  intro W15 a' S16 ha
  simp only [Act.put, pA, pO, pS] at ha
  subst ha
  refine wl_pure (.tuple #[pv x3 y3 z3 t3, .int .i64 0]) rfl (fun _ => by kernel_rfl) ?_
  intro a' ha
  simp only [Act.put, pA, pO, pS] at ha
  subst ha
  refine wl_pure (pv x3 y3 z3 t3) rfl (fun _ => by kernel_rfl) ?_
  intro a' ha
  simp only [Act.put, pA, pO, pS] at ha
  subst ha
  refine wl_pure (.int .i64 0) rfl (fun _ => by kernel_rfl) ?_
  intro a' ha
  simp only [Act.put, pA, pO, pS] at ha
  subst ha
  refine wl_alloc S16 (q4 0 0 0 0) 29 rfl (fun _ => by kernel_rfl) ?_
  intro b17 W18 a' S19 ha
  simp only [Act.put, pA, pO, pS] at ha
  subst ha
  refine wl_store S19 0 b17 29 16 (.tmp 15) (.tmp 42) (q4 0 0 0 0) (q4 x3 y3 z3 t3) rfl rfl rfl rfl rfl row29 rfl rfl (q4_one _ _ _ _) ?_
  intro W20 a' S21 ha
  simp only [Act.put, pA, pO, pS] at ha
  subst ha
  refine wl_pure (.int .i64 0) rfl (fun _ => by kernel_rfl) ?_
  intro a' ha
  simp only [Act.put, pA, pO, pS] at ha
  subst ha
  refine wl_nil (hK _ _ ?_)
  clear hK K
  refine wp_seq_k fun K hK => ?_
  refine wp_seq_k fun K hK => ?_
  refine wr_list ?_
  refine wl_pure (.int .i64 0) rfl (fun _ => by kernel_rfl) ?_
  intro a' ha
  simp only [Act.put, pA, pO, pS] at ha
  subst ha
  refine wl_pure (.bool true) rfl (fun _ => by kernel_rfl) ?_
  intro a' ha
  simp only [Act.put, pA, pO, pS] at ha
  subst ha
  refine wl_pure (.bool true) rfl (fun _ => by kernel_rfl) ?_
  intro a' ha
  simp only [Act.put, pA, pO, pS] at ha
  subst ha
  refine wl_pure (.int .i64 0) (by kernel_rfl) (fun _ => by kernel_rfl) ?_
  intro a' ha
  simp only [Act.put, pA, pO, pS] at ha
  subst ha
  refine wl_pure (.bool true) (by kernel_rfl) (fun _ => by kernel_rfl) ?_
  intro a' ha
  simp only [Act.put, pA, pO, pS] at ha
  subst ha
  refine wl_pure (.bool true) rfl (fun _ => by kernel_rfl) ?_
  intro a' ha
  simp only [Act.put, pA, pO, pS] at ha
  subst ha
  refine wl_pure (.bool true) rfl (fun _ => by kernel_rfl) ?_
  intro a' ha
  simp only [Act.put, pA, pO, pS] at ha
  subst ha
  refine wl_pure (.int .i64 0) (by kernel_rfl) (fun _ => by kernel_rfl) ?_
  intro a' ha
  simp only [Act.put, pA, pO, pS] at ha
  subst ha
  refine wl_pure (.bool true) (by kernel_rfl) (fun _ => by kernel_rfl) ?_
  intro a' ha
  simp only [Act.put, pA, pO, pS] at ha
  subst ha
  refine wl_pure (.bool true) rfl (fun _ => by kernel_rfl) ?_
  intro a' ha
  simp only [Act.put, pA, pO, pS] at ha
  subst ha
  refine wl_nil (hK _ _ ?_)
  clear hK K
  refine wp_cond_true rfl ?_
  refine wp_seq_k fun K hK => ?_
  refine wr_ext S21 (by kernel_rfl) (by kernel_rfl) ?_
  refine wq_load S21 2 b3 0 29 16 (.tmp 11) (q4 x1 y1 z1 t1) (q4 x1 y1 z1 t1) rfl rfl rfl rfl (Sub.self _) row29 rfl ?_
  intro a' ha
  simp only [Act.put, pA, pO, pS] at ha
  subst ha
  refine wq_load S21 1 b10 0 29 16 (.tmp 13) (q4 x2 y2 z2 t2) (q4 x2 y2 z2 t2) rfl rfl rfl rfl (Sub.self _) row29 rfl ?_
  intro a' ha
  simp only [Act.put, pA, pO, pS] at ha
  subst ha
  refine wq_call hZ S21 H4 rfl (fun _ => by kernel_rfl) ?_
  intro a' ha
  simp only [Act.put, pA, pO, pS] at ha
  subst ha
  refine wq_load S21 1 b10 0 29 16 (.tmp 13) (q4 x2 y2 z2 t2) (q4 x2 y2 z2 t2) rfl rfl rfl rfl (Sub.self _) row29 rfl ?_
  intro a' ha
  simp only [Act.put, pA, pO, pS] at ha
  subst ha
  refine wq_load S21 2 b3 0 29 16 (.tmp 11) (q4 x1 y1 z1 t1) (q4 x1 y1 z1 t1) rfl rfl rfl rfl (Sub.self _) row29 rfl ?_
  intro a' ha
  simp only [Act.put, pA, pO, pS] at ha
  subst ha
  refine wq_call hZ S21 H5 rfl (fun _ => by kernel_rfl) ?_
  intro a' ha
  simp only [Act.put, pA, pO, pS] at ha
  subst ha
  refine wq_call hZ S21 H6 rfl (fun _ => by kernel_rfl) ?_
  intro a' ha
  simp only [Act.put, pA, pO, pS] at ha
  subst ha
  refine wq_pure (.bool false) rfl (fun _ => by kernel_rfl) ?_
  intro a' ha
  simp only [Act.put, pA, pO, pS] at ha
  subst ha
  refine wq_pure (.bool false) rfl (fun _ => by kernel_rfl) ?_
  intro a' ha
  simp only [Act.put, pA, pO, pS] at ha
  subst ha
  refine wq_load S21 2 b3 0 29 16 (.tmp 11) (q4 x1 y1 z1 t1) (q4 x1 y1 z1 t1) (by kernel_rfl) rfl rfl rfl (Sub.self _) row29 rfl ?_
  intro a' ha
  simp only [Act.put, pA, pO, pS] at ha
  subst ha
  refine wq_load S21 1 b10 0 29 16 (.tmp 13) (q4 x2 y2 z2 t2) (q4 x2 y2 z2 t2) (by kernel_rfl) rfl rfl rfl (Sub.self _) row29 rfl ?_
  intro a' ha
  simp only [Act.put, pA, pO, pS] at ha
  subst ha
  refine wq_call hZ S21 H4 (by kernel_rfl) (fun _ => by kernel_rfl) ?_
  intro a' ha
  simp only [Act.put, pA, pO, pS] at ha
  subst ha
  refine wq_load S21 0 b17 0 29 16 (.tmp 15) (q4 x3 y3 z3 t3) (q4 x3 y3 z3 t3) (by kernel_rfl) rfl rfl rfl (Sub.self _) row29 rfl ?_
  intro a' ha
  simp only [Act.put, pA, pO, pS] at ha
  subst ha
  refine wq_call hZ S21 H7 (by kernel_rfl) (fun _ => by kernel_rfl) ?_
  intro a' ha
  simp only [Act.put, pA, pO, pS] at ha
  subst ha
  refine wq_load S21 2 b3 0 29 16 (.tmp 11) (q4 x1 y1 z1 t1) (q4 x1 y1 z1 t1) (by kernel_rfl) rfl rfl rfl (Sub.self _) row29 rfl ?_
  intro a' ha
  simp only [Act.put, pA, pO, pS] at ha
  subst ha
  refine wq_load S21 1 b10 0 29 16 (.tmp 13) (q4 x2 y2 z2 t2) (q4 x2 y2 z2 t2) (by kernel_rfl) rfl rfl rfl (Sub.self _) row29 rfl ?_
  intro a' ha
  simp only [Act.put, pA, pO, pS] at ha
  subst ha
  refine wq_load S21 0 b17 0 29 16 (.tmp 15) (q4 x3 y3 z3 t3) (q4 x3 y3 z3 t3) (by kernel_rfl) rfl rfl rfl (Sub.self _) row29 rfl ?_
  intro a' ha
  simp only [Act.put, pA, pO, pS] at ha
  subst ha
  refine wq_call hZ S21 H8 (by kernel_rfl) (fun _ => by kernel_rfl) ?_
  intro a' ha
  simp only [Act.put, pA, pO, pS] at ha
  subst ha
  refine wq_call hZ S21 H9 (by kernel_rfl) (fun _ => by kernel_rfl) ?_
  intro a' ha
  simp only [Act.put, pA, pO, pS] at ha
  subst ha
  refine wq_call hZ S21 H10 (by kernel_rfl) (fun _ => by kernel_rfl) ?_
  intro a' ha
  simp only [Act.put, pA, pO, pS] at ha
  subst ha
  refine wq_pure (.bool false) (by kernel_rfl) (fun _ => by kernel_rfl) ?_
  intro a' ha
  simp only [Act.put, pA, pO, pS] at ha
  subst ha
  refine wq_pure (.bool false) rfl (fun _ => by kernel_rfl) ?_
  intro a' ha
  simp only [Act.put, pA, pO, pS] at ha
  subst ha
  refine wq_pure (.bool false) rfl (fun _ => by kernel_rfl) ?_
  intro a' ha
  simp only [Act.put, pA, pO, pS] at ha
  subst ha
  refine wq_load S21 2 b3 0 29 16 (.tmp 11) (q4 x1 y1 z1 t1) (q4 x1 y1 z1 t1) (by kernel_rfl) rfl rfl rfl (Sub.self _) row29 rfl ?_
  intro a' ha
  simp only [Act.put, pA, pO, pS] at ha
  subst ha
  refine wq_call hZ S21 H11 (by kernel_rfl) (fun _ => by kernel_rfl) ?_
  intro a' ha
  simp only [Act.put, pA, pO, pS] at ha
  subst ha
  refine wq_call hZ S21 H12 (by kernel_rfl) (fun _ => by kernel_rfl) ?_
  intro a' ha
  simp only [Act.put, pA, pO, pS] at ha
  subst ha
  refine wq_load S21 2 b3 0 29 16 (.tmp 11) (q4 x1 y1 z1 t1) (q4 x1 y1 z1 t1) (by kernel_rfl) rfl rfl rfl (Sub.self _) row29 rfl ?_
  intro a' ha
  simp only [Act.put, pA, pO, pS] at ha
  subst ha
  refine wq_call hZ S21 H13 (by kernel_rfl) (fun _ => by kernel_rfl) ?_
  intro a' ha
  simp only [Act.put, pA, pO, pS] at ha
  subst ha
  refine wq_pure (.bool false) (by kernel_rfl) (fun _ => by kernel_rfl) ?_
  intro a' ha
  simp only [Act.put, pA, pO, pS] at ha
  subst ha
  refine wq_pure (.bool false) rfl (fun _ => by kernel_rfl) ?_
  intro a' ha
  simp only [Act.put, pA, pO, pS] at ha
  subst ha
  refine wq_pure (.bool false) rfl (fun _ => by kernel_rfl) ?_
  intro a' ha
  simp only [Act.put, pA, pO, pS] at ha
  subst ha
  refine wq_load S21 2 b3 0 29 16 (.tmp 11) (q4 x1 y1 z1 t1) (q4 x1 y1 z1 t1) (by kernel_rfl) rfl rfl rfl (Sub.self _) row29 rfl ?_
  intro a' ha
  simp only [Act.put, pA, pO, pS] at ha
  subst ha
  refine wq_call hZ S21 H14 (by kernel_rfl) (fun _ => by kernel_rfl) ?_
  intro a' ha
  simp only [Act.put, pA, pO, pS] at ha
  subst ha
  refine wq_load S21 2 b3 0 29 16 (.tmp 11) (q4 x1 y1 z1 t1) (q4 x1 y1 z1 t1) (by kernel_rfl) rfl rfl rfl (Sub.self _) row29 rfl ?_
  intro a' ha
  simp only [Act.put, pA, pO, pS] at ha
  subst ha
  refine wq_load S21 2 b3 0 29 16 (.tmp 11) (q4 x1 y1 z1 t1) (q4 x1 y1 z1 t1) (by kernel_rfl) rfl rfl rfl (Sub.self _) row29 rfl ?_
  intro a' ha
  simp only [Act.put, pA, pO, pS] at ha
  subst ha
  refine wq_call hZ S21 H15 (by kernel_rfl) (fun _ => by kernel_rfl) ?_
  intro a' ha
  simp only [Act.put, pA, pO, pS] at ha
  subst ha
  refine wq_call hZ S21 H16 (by kernel_rfl) (fun _ => by kernel_rfl) ?_
  intro a' ha
  simp only [Act.put, pA, pO, pS] at ha
  subst ha
  refine wq_pure (.bool false) (by kernel_rfl) (fun _ => by kernel_rfl) ?_
  intro a' ha
  simp only [Act.put, pA, pO, pS] at ha
  subst ha
  refine wq_pure (.bool false) rfl (fun _ => by kernel_rfl) ?_
  intro a' ha
  simp only [Act.put, pA, pO, pS] at ha
  subst ha
  refine wq_nil ?_
  intro W22 S23
  refine hK _ _ ?_
  clear hK K
  refine wp_cond_false rfl ?_
  refine wp_skip (hK _ _ ?_)
  clear hK K
  refine wp_seq_k fun K hK => ?_
  refine wr_list ?_
  refine wl_pure (.string m) rfl (fun _ => by kernel_rfl) ?_
  intro a' ha
  simp only [Act.put, pA, pO, pS] at ha
  subst ha
  refine wl_call hZ S23 H17 rfl (fun _ => by kernel_rfl) ?_
  intro W24 a' S25 ha
  simp only [Act.put, pA, pO, pS] at ha
  subst ha
  refine wl_pure (.tuple #[wd a, .int .i64 h]) rfl (fun _ => by kernel_rfl) ?_
  intro a' ha
  simp only [Act.put, pA, pO, pS] at ha
  subst ha
  refine wl_pure (wd a) rfl (fun _ => by kernel_rfl) ?_
  intro a' ha
  simp only [Act.put, pA, pO, pS] at ha
  subst ha
  refine wl_pure (.int .i64 h) rfl (fun _ => by kernel_rfl) ?_
  intro a' ha
  simp only [Act.put, pA, pO, pS] at ha
  subst ha
  refine wl_alloc S25 (e4 0) 46 rfl (fun _ => by kernel_rfl) ?_
  intro b26 W27 a' S28 ha
  simp only [Act.put, pA, pO, pS] at ha
  subst ha
  refine wl_store S28 0 b26 46 4 (.tmp 17) (.tmp 96) (e4 0) (e4 a) rfl rfl rfl rfl rfl row46 rfl rfl (e4_one _) ?_
  intro W29 a' S30 ha
  simp only [Act.put, pA, pO, pS] at ha
  subst ha
  refine wl_pure (.int .i64 h) rfl (fun _ => by kernel_rfl) ?_
  intro a' ha
  simp only [Act.put, pA, pO, pS] at ha
  subst ha
  refine wl_nil (hK _ _ ?_)
  clear hK K
  refine wp_seq_k fun K hK => ?_
  refine wr_list ?_
  refine wl_pure (.string n) rfl (fun _ => by kernel_rfl) ?_
  intro a' ha
  simp only [Act.put, pA, pO, pS] at ha
  subst ha
  refine wl_call hZ S30 H18 rfl (fun _ => by kernel_rfl) ?_
  intro W31 a' S32 ha
  simp only [Act.put, pA, pO, pS] at ha
  subst ha
  refine wl_pure (.tuple #[wd b, .int .i64 i]) rfl (fun _ => by kernel_rfl) ?_
  intro a' ha
  simp only [Act.put, pA, pO, pS] at ha
  subst ha
  refine wl_pure (wd b) rfl (fun _ => by kernel_rfl) ?_
  intro a' ha
  simp only [Act.put, pA, pO, pS] at ha
  subst ha
  refine wl_pure (.int .i64 i) rfl (fun _ => by kernel_rfl) ?_
  intro a' ha
  simp only [Act.put, pA, pO, pS] at ha
  subst ha
  refine wl_alloc S32 (e4 0) 46 rfl (fun _ => by kernel_rfl) ?_
  intro b33 W34 a' S35 ha
  simp only [Act.put, pA, pO, pS] at ha
  subst ha
  refine wl_store S35 0 b33 46 4 (.tmp 19) (.tmp 101) (e4 0) (e4 b) rfl rfl rfl rfl rfl row46 rfl rfl (e4_one _) ?_
  intro W36 a' S37 ha
  simp only [Act.put, pA, pO, pS] at ha
  subst ha
  refine wl_pure (.int .i64 i) rfl (fun _ => by kernel_rfl) ?_
  intro a' ha
  simp only [Act.put, pA, pO, pS] at ha
  subst ha
  refine wl_nil (hK _ _ ?_)
  clear hK K
  refine wp_seq_k fun K hK => ?_
  refine wp_seq_k fun K hK => ?_
  refine wr_list ?_
  refine wl_pure (.int .i64 h) rfl (fun _ => by kernel_rfl) ?_
  intro a' ha
  simp only [Act.put, pA, pO, pS] at ha
  subst ha
  refine wl_pure (.bool true) rfl (fun _ => (show (execOp _ _).run Tryd.prog _ = .ok (.value (.bool (!decide (h = 0)))) _ from by kernel_rfl).trans (by rw [hq1]; rfl)) ?_
  intro a' ha
  simp only [Act.put, pA, pO, pS] at ha
  subst ha
  refine wl_pure (.bool true) rfl (fun _ => by kernel_rfl) ?_
  intro a' ha
  simp only [Act.put, pA, pO, pS] at ha
  subst ha
  refine wl_skip (by kernel_rfl) ?_
  intro a' ha
  simp only [Act.put, pA, pO, pS] at ha
  subst ha
  refine wl_skip (by kernel_rfl) ?_
  intro a' ha
  simp only [Act.put, pA, pO, pS] at ha
  subst ha
  refine wl_pure (.bool true) rfl (fun _ => by kernel_rfl) ?_
  intro a' ha
  simp only [Act.put, pA, pO, pS] at ha
  subst ha
  refine wl_nil (hK _ _ ?_)
  clear hK K
  refine wp_cond_true rfl ?_
  refine wp_seq_k fun K hK => ?_
  refine wr_list ?_
  refine wl_call hZ S37 H19 rfl (fun _ => by kernel_rfl) ?_
  intro W38 a' S39 ha
  simp only [Act.put, pA, pO, pS] at ha
  subst ha
  refine wl_pure (.bool true) rfl (fun _ => by kernel_rfl) ?_
  intro a' ha
  simp only [Act.put, pA, pO, pS] at ha
  subst ha
  refine wl_nil (hK _ _ ?_)
  clear hK K
  refine wp_ret ?_
  exact fin_tmp S39 rfl rfl rfl
theorem laws_00 {Z : World → Prop} (hZ : Keeps Z) {x1 y1 z1 t1 x2 y2 z2 t2 x3 y3 z3 t3 a b : Nat} {r s t m n : ByteArray} {e f g h i : Int} (H1 : Ret Z 9 #[.string r] (.tuple #[pv x1 y1 z1 t1, .int .i64 e])) (H2 : Ret Z 9 #[.string s] (.tuple #[pv x2 y2 z2 t2, .int .i64 f])) (H3 : Ret Z 9 #[.string t] (.tuple #[pv x3 y3 z3 t3, .int .i64 g])) (H4 : Ret Z 17 #[.string m] (.tuple #[wd a, .int .i64 h])) (H5 : Ret Z 17 #[.string n] (.tuple #[wd b, .int .i64 i])) (H6 : Ret Z 8 #[] (.bool true)) (hq1 : decide (e = 0) = false) (hq2 : decide (h = 0) = false) : Ret Z 6 #[.string r, .string s, .string t, .string m, .string n] (.bool true) := by
  intro w hw
  have S := St.refl hw
  go_enter Tryd.func6, Tryd.ntmps6
  refine wp_seq_k fun K hK => ?_
  refine wr_list ?_
  refine wl_pure (.bool false) rfl (fun _ => by kernel_rfl) ?_
  intro a' ha
  simp only [Act.put, pA, pO, pS] at ha
  subst ha
  refine wl_nil (hK _ _ ?_)
  clear hK K
  refine wp_seq_k fun K hK => ?_
  refine wr_list ?_
  refine wl_pure (.string r) rfl (fun _ => by kernel_rfl) ?_
  intro a' ha
  simp only [Act.put, pA, pO, pS] at ha
  subst ha
  refine wl_call hZ S H1 rfl (fun _ => by kernel_rfl) ?_
  intro W1 a' S2 ha
  simp only [Act.put, pA, pO, pS] at ha
  subst ha
  refine wl_pure (.tuple #[pv x1 y1 z1 t1, .int .i64 e]) rfl (fun _ => by kernel_rfl) ?_
  intro a' ha
  simp only [Act.put, pA, pO, pS] at ha
  subst ha
  refine wl_pure (pv x1 y1 z1 t1) rfl (fun _ => by kernel_rfl) ?_
  intro a' ha
  simp only [Act.put, pA, pO, pS] at ha
  subst ha
  refine wl_pure (.int .i64 e) rfl (fun _ => by kernel_rfl) ?_
  intro a' ha
  simp only [Act.put, pA, pO, pS] at ha
  subst ha
  refine wl_alloc S2 (q4 0 0 0 0) 29 rfl (fun _ => by kernel_rfl) ?_
  intro b3 W4 a' S5 ha
  simp only [Act.put, pA, pO, pS] at ha
  subst ha
  refine wl_store S5 0 b3 29 16 (.tmp 11) (.tmp 32) (q4 0 0 0 0) (q4 x1 y1 z1 t1) rfl rfl rfl rfl rfl row29 rfl rfl (q4_one _ _ _ _) ?_
  intro W6 a' S7 ha
  simp only [Act.put, pA, pO, pS] at ha
  subst ha
  refine wl_pure (.int .i64 e) rfl (fun _ => by kernel_rfl) ?_
  intro a' ha
  simp only [Act.put, pA, pO, pS] at ha
  subst ha
  refine wl_nil (hK _ _ ?_)
  clear hK K
  refine wp_seq_k fun K hK => ?_
  refine wr_list ?_
  refine wl_pure (.string s) rfl (fun _ => by kernel_rfl) ?_
  intro a' ha
  simp only [Act.put, pA, pO, pS] at ha
  subst ha
  refine wl_call hZ S7 H2 rfl (fun _ => by kernel_rfl) ?_
  intro W8 a' S9 ha
  simp only [Act.put, pA, pO, pS] at ha
  subst ha
  refine wl_pure (.tuple #[pv x2 y2 z2 t2, .int .i64 f]) rfl (fun _ => by kernel_rfl) ?_
  intro a' ha
  simp only [Act.put, pA, pO, pS] at ha
  subst ha
  refine wl_pure (pv x2 y2 z2 t2) rfl (fun _ => by kernel_rfl) ?_
  intro a' ha
  simp only [Act.put, pA, pO, pS] at ha
  subst ha
  refine wl_pure (.int .i64 f) rfl (fun _ => by kernel_rfl) ?_
  intro a' ha
  simp only [Act.put, pA, pO, pS] at ha
  subst ha
  refine wl_alloc S9 (q4 0 0 0 0) 29 rfl (fun _ => by kernel_rfl) ?_
  intro b10 W11 a' S12 ha
  simp only [Act.put, pA, pO, pS] at ha
  subst ha
  refine wl_store S12 0 b10 29 16 (.tmp 13) (.tmp 37) (q4 0 0 0 0) (q4 x2 y2 z2 t2) rfl rfl rfl rfl rfl row29 rfl rfl (q4_one _ _ _ _) ?_
  intro W13 a' S14 ha
  simp only [Act.put, pA, pO, pS] at ha
  subst ha
  refine wl_pure (.int .i64 f) rfl (fun _ => by kernel_rfl) ?_
  intro a' ha
  simp only [Act.put, pA, pO, pS] at ha
  subst ha
  refine wl_nil (hK _ _ ?_)
  clear hK K
  refine wp_seq_k fun K hK => ?_
  refine wr_list ?_
  refine wl_pure (.string t) rfl (fun _ => by kernel_rfl) ?_
  intro a' ha
  simp only [Act.put, pA, pO, pS] at ha
  subst ha
  refine wl_call hZ S14 H3 rfl (fun _ => by kernel_rfl) ?_
  intro W15 a' S16 ha
  simp only [Act.put, pA, pO, pS] at ha
  subst ha
  refine wl_pure (.tuple #[pv x3 y3 z3 t3, .int .i64 g]) rfl (fun _ => by kernel_rfl) ?_
  intro a' ha
  simp only [Act.put, pA, pO, pS] at ha
  subst ha
  refine wl_pure (pv x3 y3 z3 t3) rfl (fun _ => by kernel_rfl) ?_
  intro a' ha
  simp only [Act.put, pA, pO, pS] at ha
  subst ha
  refine wl_pure (.int .i64 g) rfl (fun _ => by kernel_rfl) ?_
  intro a' ha
  simp only [Act.put, pA, pO, pS] at ha
  subst ha
  refine wl_alloc S16 (q4 0 0 0 0) 29 rfl (fun _ => by kernel_rfl) ?_
  intro b17 W18 a' S19 ha
  simp only [Act.put, pA, pO, pS] at ha
  subst ha
  refine wl_store S19 0 b17 29 16 (.tmp 15) (.tmp 42) (q4 0 0 0 0) (q4 x3 y3 z3 t3) rfl rfl rfl rfl rfl row29 rfl rfl (q4_one _ _ _ _) ?_
  intro W20 a' S21 ha
  simp only [Act.put, pA, pO, pS] at ha
  subst ha
  refine wl_pure (.int .i64 g) rfl (fun _ => by kernel_rfl) ?_
  intro a' ha
  simp only [Act.put, pA, pO, pS] at ha
  subst ha
  refine wl_nil (hK _ _ ?_)
  clear hK K
  refine wp_seq_k fun K hK => ?_
  refine wp_seq_k fun K hK => ?_
  refine wr_list ?_
  refine wl_pure (.int .i64 e) rfl (fun _ => by kernel_rfl) ?_
  intro a' ha
  simp only [Act.put, pA, pO, pS] at ha
  subst ha
  refine wl_pure (.bool false) rfl (fun _ => (show (execOp _ _).run Tryd.prog _ = .ok (.value (.bool (decide (e = 0)))) _ from by kernel_rfl).trans (by rw [hq1])) ?_
  intro a' ha
  simp only [Act.put, pA, pO, pS] at ha
  subst ha
  refine wl_pure (.bool false) rfl (fun _ => by kernel_rfl) ?_
  intro a' ha
  simp only [Act.put, pA, pO, pS] at ha
  subst ha
  refine wl_skip (by kernel_rfl) ?_
  intro a' ha
  simp only [Act.put, pA, pO, pS] at ha
  subst ha
  refine wl_skip (by kernel_rfl) ?_
  intro a' ha
  simp only [Act.put, pA, pO, pS] at ha
  subst ha
  refine wl_pure (.bool false) rfl (fun _ => by kernel_rfl) ?_
  intro a' ha
  simp only [Act.put, pA, pO, pS] at ha
  subst ha
  refine wl_pure (.bool false) rfl (fun _ => by kernel_rfl) ?_
  intro a' ha
  simp only [Act.put, pA, pO, pS] at ha
  subst ha
  refine wl_skip (by kernel_rfl) ?_
  intro a' ha
  simp only [Act.put, pA, pO, pS] at ha
  subst ha
  refine wl_skip (by kernel_rfl) ?_
  intro a' ha
  simp only [Act.put, pA, pO, pS] at ha
  subst ha
  refine wl_pure (.bool false) rfl (fun _ => by kernel_rfl) ?_
  intro a' ha
  simp only [Act.put, pA, pO, pS] at ha
  subst ha
  refine wl_nil (hK _ _ ?_)
  clear hK K
  refine wp_cond_false rfl ?_
  refine wp_skip (hK _ _ ?_)
  clear hK K
  refine wp_seq_k fun K hK => ?_
  refine wr_list ?_
  refine wl_pure (.string m) rfl (fun _ => by kernel_rfl) ?_
  intro a' ha
  simp only [Act.put, pA, pO, pS] at ha
  subst ha
  refine wl_call hZ S21 H4 rfl (fun _ => by kernel_rfl) ?_
  intro W22 a' S23 ha
  simp only [Act.put, pA, pO, pS] at ha
  subst ha
  refine wl_pure (.tuple #[wd a, .int .i64 h]) rfl (fun _ => by kernel_rfl) ?_
  intro a' ha
  simp only [Act.put, pA, pO, pS] at ha
  subst ha
  refine wl_pure (wd a) rfl (fun _ => by kernel_rfl) ?_
  intro a' ha
  simp only [Act.put, pA, pO, pS] at ha
  subst ha
  refine wl_pure (.int .i64 h) rfl (fun _ => by kernel_rfl) ?_
  intro a' ha
  simp only [Act.put, pA, pO, pS] at ha
  subst ha
  refine wl_alloc S23 (e4 0) 46 rfl (fun _ => by kernel_rfl) ?_
  intro b24 W25 a' S26 ha
  simp only [Act.put, pA, pO, pS] at ha
  subst ha
  refine wl_store S26 0 b24 46 4 (.tmp 17) (.tmp 96) (e4 0) (e4 a) rfl rfl rfl rfl rfl row46 rfl rfl (e4_one _) ?_
  intro W27 a' S28 ha
  simp only [Act.put, pA, pO, pS] at ha
  subst ha
  refine wl_pure (.int .i64 h) rfl (fun _ => by kernel_rfl) ?_
  intro a' ha
  simp only [Act.put, pA, pO, pS] at ha
  subst ha
  refine wl_nil (hK _ _ ?_)
  clear hK K
  refine wp_seq_k fun K hK => ?_
  refine wr_list ?_
  refine wl_pure (.string n) rfl (fun _ => by kernel_rfl) ?_
  intro a' ha
  simp only [Act.put, pA, pO, pS] at ha
  subst ha
  refine wl_call hZ S28 H5 rfl (fun _ => by kernel_rfl) ?_
  intro W29 a' S30 ha
  simp only [Act.put, pA, pO, pS] at ha
  subst ha
  refine wl_pure (.tuple #[wd b, .int .i64 i]) rfl (fun _ => by kernel_rfl) ?_
  intro a' ha
  simp only [Act.put, pA, pO, pS] at ha
  subst ha
  refine wl_pure (wd b) rfl (fun _ => by kernel_rfl) ?_
  intro a' ha
  simp only [Act.put, pA, pO, pS] at ha
  subst ha
  refine wl_pure (.int .i64 i) rfl (fun _ => by kernel_rfl) ?_
  intro a' ha
  simp only [Act.put, pA, pO, pS] at ha
  subst ha
  refine wl_alloc S30 (e4 0) 46 rfl (fun _ => by kernel_rfl) ?_
  intro b31 W32 a' S33 ha
  simp only [Act.put, pA, pO, pS] at ha
  subst ha
  refine wl_store S33 0 b31 46 4 (.tmp 19) (.tmp 101) (e4 0) (e4 b) rfl rfl rfl rfl rfl row46 rfl rfl (e4_one _) ?_
  intro W34 a' S35 ha
  simp only [Act.put, pA, pO, pS] at ha
  subst ha
  refine wl_pure (.int .i64 i) rfl (fun _ => by kernel_rfl) ?_
  intro a' ha
  simp only [Act.put, pA, pO, pS] at ha
  subst ha
  refine wl_nil (hK _ _ ?_)
  clear hK K
  refine wp_seq_k fun K hK => ?_
  refine wp_seq_k fun K hK => ?_
  refine wr_list ?_
  refine wl_pure (.int .i64 h) rfl (fun _ => by kernel_rfl) ?_
  intro a' ha
  simp only [Act.put, pA, pO, pS] at ha
  subst ha
  refine wl_pure (.bool true) rfl (fun _ => (show (execOp _ _).run Tryd.prog _ = .ok (.value (.bool (!decide (h = 0)))) _ from by kernel_rfl).trans (by rw [hq2]; rfl)) ?_
  intro a' ha
  simp only [Act.put, pA, pO, pS] at ha
  subst ha
  refine wl_pure (.bool true) rfl (fun _ => by kernel_rfl) ?_
  intro a' ha
  simp only [Act.put, pA, pO, pS] at ha
  subst ha
  refine wl_skip (by kernel_rfl) ?_
  intro a' ha
  simp only [Act.put, pA, pO, pS] at ha
  subst ha
  refine wl_skip (by kernel_rfl) ?_
  intro a' ha
  simp only [Act.put, pA, pO, pS] at ha
  subst ha
  refine wl_pure (.bool true) rfl (fun _ => by kernel_rfl) ?_
  intro a' ha
  simp only [Act.put, pA, pO, pS] at ha
  subst ha
  refine wl_nil (hK _ _ ?_)
  clear hK K
  refine wp_cond_true rfl ?_
  refine wp_seq_k fun K hK => ?_
  refine wr_list ?_
  refine wl_call hZ S35 H6 rfl (fun _ => by kernel_rfl) ?_
  intro W36 a' S37 ha
  simp only [Act.put, pA, pO, pS] at ha
  subst ha
  refine wl_pure (.bool true) rfl (fun _ => by kernel_rfl) ?_
  intro a' ha
  simp only [Act.put, pA, pO, pS] at ha
  subst ha
  refine wl_nil (hK _ _ ?_)
  clear hK K
  refine wp_ret ?_
  exact fin_tmp S37 rfl rfl rfl
theorem laws_10 {Z : World → Prop} (hZ : Keeps Z) {x1 y1 z1 t1 x2 y2 z2 t2 x3 y3 z3 t3 a b : Nat} {r s t m n : ByteArray} {f g h i : Int} (H1 : Ret Z 9 #[.string r] (.tuple #[pv x1 y1 z1 t1, .int .i64 0])) (H2 : Ret Z 9 #[.string s] (.tuple #[pv x2 y2 z2 t2, .int .i64 f])) (H3 : Ret Z 9 #[.string t] (.tuple #[pv x3 y3 z3 t3, .int .i64 g])) (H4 : Ret Z 17 #[.string m] (.tuple #[wd a, .int .i64 h])) (H5 : Ret Z 17 #[.string n] (.tuple #[wd b, .int .i64 i])) (H6 : Ret Z 8 #[] (.bool true)) (hq1 : decide (f = 0) = false) (hq2 : decide (h = 0) = false) : Ret Z 6 #[.string r, .string s, .string t, .string m, .string n] (.bool true) := by
  intro w hw
  have S := St.refl hw
  go_enter Tryd.func6, Tryd.ntmps6
  refine wp_seq_k fun K hK => ?_
  refine wr_list ?_
  refine wl_pure (.bool false) rfl (fun _ => by kernel_rfl) ?_
  intro a' ha
  simp only [Act.put, pA, pO, pS] at ha
  subst ha
  refine wl_nil (hK _ _ ?_)
  clear hK K
  refine wp_seq_k fun K hK => ?_
  refine wr_list ?_
  refine wl_pure (.string r) rfl (fun _ => by kernel_rfl) ?_
  intro a' ha
  simp only [Act.put, pA, pO, pS] at ha
  subst ha
  refine wl_call hZ S H1 rfl (fun _ => by kernel_rfl) ?_
  intro W1 a' S2 ha
  simp only [Act.put, pA, pO, pS] at ha
  subst ha
  refine wl_pure (.tuple #[pv x1 y1 z1 t1, .int .i64 0]) rfl (fun _ => by kernel_rfl) ?_
  intro a' ha
  simp only [Act.put, pA, pO, pS] at ha
  subst ha
  refine wl_pure (pv x1 y1 z1 t1) rfl (fun _ => by kernel_rfl) ?_
  intro a' ha
  simp only [Act.put, pA, pO, pS] at ha
  subst ha
  refine wl_pure (.int .i64 0) rfl (fun _ => by kernel_rfl) ?_
  intro a' ha
  simp only [Act.put, pA, pO, pS] at ha
  subst ha
  refine wl_alloc S2 (q4 0 0 0 0) 29 rfl (fun _ => by kernel_rfl) ?_
  intro b3 W4 a' S5 ha
  simp only [Act.put, pA, pO, pS] at ha
  subst ha
  refine wl_store S5 0 b3 29 16 (.tmp 11) (.tmp 32) (q4 0 0 0 0) (q4 x1 y1 z1 t1) rfl rfl rfl rfl rfl row29 rfl rfl (q4_one _ _ _ _) ?_
  intro W6 a' S7 ha
  simp only [Act.put, pA, pO, pS] at ha
  subst ha
  refine wl_pure (.int .i64 0) rfl (fun _ => by kernel_rfl) ?_
  intro a' ha
  simp only [Act.put, pA, pO, pS] at ha
  subst ha
  refine wl_nil (hK _ _ ?_)
  clear hK K
  refine wp_seq_k fun K hK => ?_
  refine wr_list ?_
  refine wl_pure (.string s) rfl (fun _ => by kernel_rfl) ?_
  intro a' ha
  simp only [Act.put, pA, pO, pS] at ha
  subst ha
  refine wl_call hZ S7 H2 rfl (fun _ => by kernel_rfl) ?_
  intro W8 a' S9 ha
  simp only [Act.put, pA, pO, pS] at ha
  subst ha
  refine wl_pure (.tuple #[pv x2 y2 z2 t2, .int .i64 f]) rfl (fun _ => by kernel_rfl) ?_
  intro a' ha
  simp only [Act.put, pA, pO, pS] at ha
  subst ha
  refine wl_pure (pv x2 y2 z2 t2) rfl (fun _ => by kernel_rfl) ?_
  intro a' ha
  simp only [Act.put, pA, pO, pS] at ha
  subst ha
  refine wl_pure (.int .i64 f) rfl (fun _ => by kernel_rfl) ?_
  intro a' ha
  simp only [Act.put, pA, pO, pS] at ha
  subst ha
  refine wl_alloc S9 (q4 0 0 0 0) 29 rfl (fun _ => by kernel_rfl) ?_
  intro b10 W11 a' S12 ha
  simp only [Act.put, pA, pO, pS] at ha
  subst ha
  refine wl_store S12 0 b10 29 16 (.tmp 13) (.tmp 37) (q4 0 0 0 0) (q4 x2 y2 z2 t2) rfl rfl rfl rfl rfl row29 rfl rfl (q4_one _ _ _ _) ?_
  intro W13 a' S14 ha
  simp only [Act.put, pA, pO, pS] at ha
  subst ha
  refine wl_pure (.int .i64 f) rfl (fun _ => by kernel_rfl) ?_
  intro a' ha
  simp only [Act.put, pA, pO, pS] at ha
  subst ha
  refine wl_nil (hK _ _ ?_)
  clear hK K
  refine wp_seq_k fun K hK => ?_
  refine wr_list ?_
  refine wl_pure (.string t) rfl (fun _ => by kernel_rfl) ?_
  intro a' ha
  simp only [Act.put, pA, pO, pS] at ha
  subst ha
  refine wl_call hZ S14 H3 rfl (fun _ => by kernel_rfl) ?_
  intro W15 a' S16 ha
  simp only [Act.put, pA, pO, pS] at ha
  subst ha
  refine wl_pure (.tuple #[pv x3 y3 z3 t3, .int .i64 g]) rfl (fun _ => by kernel_rfl) ?_
  intro a' ha
  simp only [Act.put, pA, pO, pS] at ha
  subst ha
  refine wl_pure (pv x3 y3 z3 t3) rfl (fun _ => by kernel_rfl) ?_
  intro a' ha
  simp only [Act.put, pA, pO, pS] at ha
  subst ha
  refine wl_pure (.int .i64 g) rfl (fun _ => by kernel_rfl) ?_
  intro a' ha
  simp only [Act.put, pA, pO, pS] at ha
  subst ha
  refine wl_alloc S16 (q4 0 0 0 0) 29 rfl (fun _ => by kernel_rfl) ?_
  intro b17 W18 a' S19 ha
  simp only [Act.put, pA, pO, pS] at ha
  subst ha
  refine wl_store S19 0 b17 29 16 (.tmp 15) (.tmp 42) (q4 0 0 0 0) (q4 x3 y3 z3 t3) rfl rfl rfl rfl rfl row29 rfl rfl (q4_one _ _ _ _) ?_
  intro W20 a' S21 ha
  simp only [Act.put, pA, pO, pS] at ha
  subst ha
  refine wl_pure (.int .i64 g) rfl (fun _ => by kernel_rfl) ?_
  intro a' ha
  simp only [Act.put, pA, pO, pS] at ha
  subst ha
  refine wl_nil (hK _ _ ?_)
  clear hK K
  refine wp_seq_k fun K hK => ?_
  refine wp_seq_k fun K hK => ?_
  refine wr_list ?_
  refine wl_pure (.int .i64 0) rfl (fun _ => by kernel_rfl) ?_
  intro a' ha
  simp only [Act.put, pA, pO, pS] at ha
  subst ha
  refine wl_pure (.bool true) rfl (fun _ => by kernel_rfl) ?_
  intro a' ha
  simp only [Act.put, pA, pO, pS] at ha
  subst ha
  refine wl_pure (.bool true) rfl (fun _ => by kernel_rfl) ?_
  intro a' ha
  simp only [Act.put, pA, pO, pS] at ha
  subst ha
  refine wl_pure (.int .i64 f) (by kernel_rfl) (fun _ => by kernel_rfl) ?_
  intro a' ha
  simp only [Act.put, pA, pO, pS] at ha
  subst ha
  refine wl_pure (.bool false) (by kernel_rfl) (fun _ => (show (execOp _ _).run Tryd.prog _ = .ok (.value (.bool (decide (f = 0)))) _ from by kernel_rfl).trans (by rw [hq1])) ?_
  intro a' ha
  simp only [Act.put, pA, pO, pS] at ha
  subst ha
  refine wl_pure (.bool false) rfl (fun _ => by kernel_rfl) ?_
  intro a' ha
  simp only [Act.put, pA, pO, pS] at ha
  subst ha
  refine wl_pure (.bool false) rfl (fun _ => by kernel_rfl) ?_
  intro a' ha
  simp only [Act.put, pA, pO, pS] at ha
  subst ha
  refine wl_skip (by kernel_rfl) ?_
  intro a' ha
  simp only [Act.put, pA, pO, pS] at ha
  subst ha
  refine wl_skip (by kernel_rfl) ?_
  intro a' ha
  simp only [Act.put, pA, pO, pS] at ha
  subst ha
  refine wl_pure (.bool false) rfl (fun _ => by kernel_rfl) ?_
  intro a' ha
  simp only [Act.put, pA, pO, pS] at ha
  subst ha
  refine wl_nil (hK _ _ ?_)
  clear hK K
  refine wp_cond_false rfl ?_
  refine wp_skip (hK _ _ ?_)
  clear hK K
  refine wp_seq_k fun K hK => ?_
  refine wr_list ?_
  refine wl_pure (.string m) rfl (fun _ => by kernel_rfl) ?_
  intro a' ha
  simp only [Act.put, pA, pO, pS] at ha
  subst ha
  refine wl_call hZ S21 H4 rfl (fun _ => by kernel_rfl) ?_
  intro W22 a' S23 ha
  simp only [Act.put, pA, pO, pS] at ha
  subst ha
  refine wl_pure (.tuple #[wd a, .int .i64 h]) rfl (fun _ => by kernel_rfl) ?_
  intro a' ha
  simp only [Act.put, pA, pO, pS] at ha
  subst ha
  refine wl_pure (wd a) rfl (fun _ => by kernel_rfl) ?_
  intro a' ha
  simp only [Act.put, pA, pO, pS] at ha
  subst ha
  refine wl_pure (.int .i64 h) rfl (fun _ => by kernel_rfl) ?_
  intro a' ha
  simp only [Act.put, pA, pO, pS] at ha
  subst ha
  refine wl_alloc S23 (e4 0) 46 rfl (fun _ => by kernel_rfl) ?_
  intro b24 W25 a' S26 ha
  simp only [Act.put, pA, pO, pS] at ha
  subst ha
  refine wl_store S26 0 b24 46 4 (.tmp 17) (.tmp 96) (e4 0) (e4 a) rfl rfl rfl rfl rfl row46 rfl rfl (e4_one _) ?_
  intro W27 a' S28 ha
  simp only [Act.put, pA, pO, pS] at ha
  subst ha
  refine wl_pure (.int .i64 h) rfl (fun _ => by kernel_rfl) ?_
  intro a' ha
  simp only [Act.put, pA, pO, pS] at ha
  subst ha
  refine wl_nil (hK _ _ ?_)
  clear hK K
  refine wp_seq_k fun K hK => ?_
  refine wr_list ?_
  refine wl_pure (.string n) rfl (fun _ => by kernel_rfl) ?_
  intro a' ha
  simp only [Act.put, pA, pO, pS] at ha
  subst ha
  refine wl_call hZ S28 H5 rfl (fun _ => by kernel_rfl) ?_
  intro W29 a' S30 ha
  simp only [Act.put, pA, pO, pS] at ha
  subst ha
  refine wl_pure (.tuple #[wd b, .int .i64 i]) rfl (fun _ => by kernel_rfl) ?_
  intro a' ha
  simp only [Act.put, pA, pO, pS] at ha
  subst ha
  refine wl_pure (wd b) rfl (fun _ => by kernel_rfl) ?_
  intro a' ha
  simp only [Act.put, pA, pO, pS] at ha
  subst ha
  refine wl_pure (.int .i64 i) rfl (fun _ => by kernel_rfl) ?_
  intro a' ha
  simp only [Act.put, pA, pO, pS] at ha
  subst ha
  refine wl_alloc S30 (e4 0) 46 rfl (fun _ => by kernel_rfl) ?_
  intro b31 W32 a' S33 ha
  simp only [Act.put, pA, pO, pS] at ha
  subst ha
  refine wl_store S33 0 b31 46 4 (.tmp 19) (.tmp 101) (e4 0) (e4 b) rfl rfl rfl rfl rfl row46 rfl rfl (e4_one _) ?_
  intro W34 a' S35 ha
  simp only [Act.put, pA, pO, pS] at ha
  subst ha
  refine wl_pure (.int .i64 i) rfl (fun _ => by kernel_rfl) ?_
  intro a' ha
  simp only [Act.put, pA, pO, pS] at ha
  subst ha
  refine wl_nil (hK _ _ ?_)
  clear hK K
  refine wp_seq_k fun K hK => ?_
  refine wp_seq_k fun K hK => ?_
  refine wr_list ?_
  refine wl_pure (.int .i64 h) rfl (fun _ => by kernel_rfl) ?_
  intro a' ha
  simp only [Act.put, pA, pO, pS] at ha
  subst ha
  refine wl_pure (.bool true) rfl (fun _ => (show (execOp _ _).run Tryd.prog _ = .ok (.value (.bool (!decide (h = 0)))) _ from by kernel_rfl).trans (by rw [hq2]; rfl)) ?_
  intro a' ha
  simp only [Act.put, pA, pO, pS] at ha
  subst ha
  refine wl_pure (.bool true) rfl (fun _ => by kernel_rfl) ?_
  intro a' ha
  simp only [Act.put, pA, pO, pS] at ha
  subst ha
  refine wl_skip (by kernel_rfl) ?_
  intro a' ha
  simp only [Act.put, pA, pO, pS] at ha
  subst ha
  refine wl_skip (by kernel_rfl) ?_
  intro a' ha
  simp only [Act.put, pA, pO, pS] at ha
  subst ha
  refine wl_pure (.bool true) rfl (fun _ => by kernel_rfl) ?_
  intro a' ha
  simp only [Act.put, pA, pO, pS] at ha
  subst ha
  refine wl_nil (hK _ _ ?_)
  clear hK K
  refine wp_cond_true rfl ?_
  refine wp_seq_k fun K hK => ?_
  refine wr_list ?_
  refine wl_call hZ S35 H6 rfl (fun _ => by kernel_rfl) ?_
  intro W36 a' S37 ha
  simp only [Act.put, pA, pO, pS] at ha
  subst ha
  refine wl_pure (.bool true) rfl (fun _ => by kernel_rfl) ?_
  intro a' ha
  simp only [Act.put, pA, pO, pS] at ha
  subst ha
  refine wl_nil (hK _ _ ?_)
  clear hK K
  refine wp_ret ?_
  exact fin_tmp S37 rfl rfl rfl
theorem laws_20 {Z : World → Prop} (hZ : Keeps Z) {x1 y1 z1 t1 x2 y2 z2 t2 x3 y3 z3 t3 a b : Nat} {r s t m n : ByteArray} {g h i : Int} (H1 : Ret Z 9 #[.string r] (.tuple #[pv x1 y1 z1 t1, .int .i64 0])) (H2 : Ret Z 9 #[.string s] (.tuple #[pv x2 y2 z2 t2, .int .i64 0])) (H3 : Ret Z 9 #[.string t] (.tuple #[pv x3 y3 z3 t3, .int .i64 g])) (H4 : Ret Z 17 #[.string m] (.tuple #[wd a, .int .i64 h])) (H5 : Ret Z 17 #[.string n] (.tuple #[wd b, .int .i64 i])) (H6 : Ret Z 8 #[] (.bool true)) (hq1 : decide (g = 0) = false) (hq2 : decide (h = 0) = false) : Ret Z 6 #[.string r, .string s, .string t, .string m, .string n] (.bool true) := by
  intro w hw
  have S := St.refl hw
  go_enter Tryd.func6, Tryd.ntmps6
  refine wp_seq_k fun K hK => ?_
  refine wr_list ?_
  refine wl_pure (.bool false) rfl (fun _ => by kernel_rfl) ?_
  intro a' ha
  simp only [Act.put, pA, pO, pS] at ha
  subst ha
  refine wl_nil (hK _ _ ?_)
  clear hK K
  refine wp_seq_k fun K hK => ?_
  refine wr_list ?_
  refine wl_pure (.string r) rfl (fun _ => by kernel_rfl) ?_
  intro a' ha
  simp only [Act.put, pA, pO, pS] at ha
  subst ha
  refine wl_call hZ S H1 rfl (fun _ => by kernel_rfl) ?_
  intro W1 a' S2 ha
  simp only [Act.put, pA, pO, pS] at ha
  subst ha
  refine wl_pure (.tuple #[pv x1 y1 z1 t1, .int .i64 0]) rfl (fun _ => by kernel_rfl) ?_
  intro a' ha
  simp only [Act.put, pA, pO, pS] at ha
  subst ha
  refine wl_pure (pv x1 y1 z1 t1) rfl (fun _ => by kernel_rfl) ?_
  intro a' ha
  simp only [Act.put, pA, pO, pS] at ha
  subst ha
  refine wl_pure (.int .i64 0) rfl (fun _ => by kernel_rfl) ?_
  intro a' ha
  simp only [Act.put, pA, pO, pS] at ha
  subst ha
  refine wl_alloc S2 (q4 0 0 0 0) 29 rfl (fun _ => by kernel_rfl) ?_
  intro b3 W4 a' S5 ha
  simp only [Act.put, pA, pO, pS] at ha
  subst ha
  refine wl_store S5 0 b3 29 16 (.tmp 11) (.tmp 32) (q4 0 0 0 0) (q4 x1 y1 z1 t1) rfl rfl rfl rfl rfl row29 rfl rfl (q4_one _ _ _ _) ?_
  intro W6 a' S7 ha
  simp only [Act.put, pA, pO, pS] at ha
  subst ha
  refine wl_pure (.int .i64 0) rfl (fun _ => by kernel_rfl) ?_
  intro a' ha
  simp only [Act.put, pA, pO, pS] at ha
  subst ha
  refine wl_nil (hK _ _ ?_)
  clear hK K
  refine wp_seq_k fun K hK => ?_
  refine wr_list ?_
  refine wl_pure (.string s) rfl (fun _ => by kernel_rfl) ?_
  intro a' ha
  simp only [Act.put, pA, pO, pS] at ha
  subst ha
  refine wl_call hZ S7 H2 rfl (fun _ => by kernel_rfl) ?_
  intro W8 a' S9 ha
  simp only [Act.put, pA, pO, pS] at ha
  subst ha
  refine wl_pure (.tuple #[pv x2 y2 z2 t2, .int .i64 0]) rfl (fun _ => by kernel_rfl) ?_
  intro a' ha
  simp only [Act.put, pA, pO, pS] at ha
  subst ha
  refine wl_pure (pv x2 y2 z2 t2) rfl (fun _ => by kernel_rfl) ?_
  intro a' ha
  simp only [Act.put, pA, pO, pS] at ha
  subst ha
  refine wl_pure (.int .i64 0) rfl (fun _ => by kernel_rfl) ?_
  intro a' ha
  simp only [Act.put, pA, pO, pS] at ha
  subst ha
  refine wl_alloc S9 (q4 0 0 0 0) 29 rfl (fun _ => by kernel_rfl) ?_
  intro b10 W11 a' S12 ha
  simp only [Act.put, pA, pO, pS] at ha
  subst ha
  refine wl_store S12 0 b10 29 16 (.tmp 13) (.tmp 37) (q4 0 0 0 0) (q4 x2 y2 z2 t2) rfl rfl rfl rfl rfl row29 rfl rfl (q4_one _ _ _ _) ?_
  intro W13 a' S14 ha
  simp only [Act.put, pA, pO, pS] at ha
  subst ha
  refine wl_pure (.int .i64 0) rfl (fun _ => by kernel_rfl) ?_
  intro a' ha
  simp only [Act.put, pA, pO, pS] at ha
  subst ha
  refine wl_nil (hK _ _ ?_)
  clear hK K
  refine wp_seq_k fun K hK => ?_
  refine wr_list ?_
  refine wl_pure (.string t) rfl (fun _ => by kernel_rfl) ?_
  intro a' ha
  simp only [Act.put, pA, pO, pS] at ha
  subst ha
  refine wl_call hZ S14 H3 rfl (fun _ => by kernel_rfl) ?_
  intro W15 a' S16 ha
  simp only [Act.put, pA, pO, pS] at ha
  subst ha
  refine wl_pure (.tuple #[pv x3 y3 z3 t3, .int .i64 g]) rfl (fun _ => by kernel_rfl) ?_
  intro a' ha
  simp only [Act.put, pA, pO, pS] at ha
  subst ha
  refine wl_pure (pv x3 y3 z3 t3) rfl (fun _ => by kernel_rfl) ?_
  intro a' ha
  simp only [Act.put, pA, pO, pS] at ha
  subst ha
  refine wl_pure (.int .i64 g) rfl (fun _ => by kernel_rfl) ?_
  intro a' ha
  simp only [Act.put, pA, pO, pS] at ha
  subst ha
  refine wl_alloc S16 (q4 0 0 0 0) 29 rfl (fun _ => by kernel_rfl) ?_
  intro b17 W18 a' S19 ha
  simp only [Act.put, pA, pO, pS] at ha
  subst ha
  refine wl_store S19 0 b17 29 16 (.tmp 15) (.tmp 42) (q4 0 0 0 0) (q4 x3 y3 z3 t3) rfl rfl rfl rfl rfl row29 rfl rfl (q4_one _ _ _ _) ?_
  intro W20 a' S21 ha
  simp only [Act.put, pA, pO, pS] at ha
  subst ha
  refine wl_pure (.int .i64 g) rfl (fun _ => by kernel_rfl) ?_
  intro a' ha
  simp only [Act.put, pA, pO, pS] at ha
  subst ha
  refine wl_nil (hK _ _ ?_)
  clear hK K
  refine wp_seq_k fun K hK => ?_
  refine wp_seq_k fun K hK => ?_
  refine wr_list ?_
  refine wl_pure (.int .i64 0) rfl (fun _ => by kernel_rfl) ?_
  intro a' ha
  simp only [Act.put, pA, pO, pS] at ha
  subst ha
  refine wl_pure (.bool true) rfl (fun _ => by kernel_rfl) ?_
  intro a' ha
  simp only [Act.put, pA, pO, pS] at ha
  subst ha
  refine wl_pure (.bool true) rfl (fun _ => by kernel_rfl) ?_
  intro a' ha
  simp only [Act.put, pA, pO, pS] at ha
  subst ha
  refine wl_pure (.int .i64 0) (by kernel_rfl) (fun _ => by kernel_rfl) ?_
  intro a' ha
  simp only [Act.put, pA, pO, pS] at ha
  subst ha
  refine wl_pure (.bool true) (by kernel_rfl) (fun _ => by kernel_rfl) ?_
  intro a' ha
  simp only [Act.put, pA, pO, pS] at ha
  subst ha
  refine wl_pure (.bool true) rfl (fun _ => by kernel_rfl) ?_
  intro a' ha
  simp only [Act.put, pA, pO, pS] at ha
  subst ha
  refine wl_pure (.bool true) rfl (fun _ => by kernel_rfl) ?_
  intro a' ha
  simp only [Act.put, pA, pO, pS] at ha
  subst ha
  refine wl_pure (.int .i64 g) (by kernel_rfl) (fun _ => by kernel_rfl) ?_
  intro a' ha
  simp only [Act.put, pA, pO, pS] at ha
  subst ha
  refine wl_pure (.bool false) (by kernel_rfl) (fun _ => (show (execOp _ _).run Tryd.prog _ = .ok (.value (.bool (decide (g = 0)))) _ from by kernel_rfl).trans (by rw [hq1])) ?_
  intro a' ha
  simp only [Act.put, pA, pO, pS] at ha
  subst ha
  refine wl_pure (.bool false) rfl (fun _ => by kernel_rfl) ?_
  intro a' ha
  simp only [Act.put, pA, pO, pS] at ha
  subst ha
  refine wl_nil (hK _ _ ?_)
  clear hK K
  refine wp_cond_false rfl ?_
  refine wp_skip (hK _ _ ?_)
  clear hK K
  refine wp_seq_k fun K hK => ?_
  refine wr_list ?_
  refine wl_pure (.string m) rfl (fun _ => by kernel_rfl) ?_
  intro a' ha
  simp only [Act.put, pA, pO, pS] at ha
  subst ha
  refine wl_call hZ S21 H4 rfl (fun _ => by kernel_rfl) ?_
  intro W22 a' S23 ha
  simp only [Act.put, pA, pO, pS] at ha
  subst ha
  refine wl_pure (.tuple #[wd a, .int .i64 h]) rfl (fun _ => by kernel_rfl) ?_
  intro a' ha
  simp only [Act.put, pA, pO, pS] at ha
  subst ha
  refine wl_pure (wd a) rfl (fun _ => by kernel_rfl) ?_
  intro a' ha
  simp only [Act.put, pA, pO, pS] at ha
  subst ha
  refine wl_pure (.int .i64 h) rfl (fun _ => by kernel_rfl) ?_
  intro a' ha
  simp only [Act.put, pA, pO, pS] at ha
  subst ha
  refine wl_alloc S23 (e4 0) 46 rfl (fun _ => by kernel_rfl) ?_
  intro b24 W25 a' S26 ha
  simp only [Act.put, pA, pO, pS] at ha
  subst ha
  refine wl_store S26 0 b24 46 4 (.tmp 17) (.tmp 96) (e4 0) (e4 a) rfl rfl rfl rfl rfl row46 rfl rfl (e4_one _) ?_
  intro W27 a' S28 ha
  simp only [Act.put, pA, pO, pS] at ha
  subst ha
  refine wl_pure (.int .i64 h) rfl (fun _ => by kernel_rfl) ?_
  intro a' ha
  simp only [Act.put, pA, pO, pS] at ha
  subst ha
  refine wl_nil (hK _ _ ?_)
  clear hK K
  refine wp_seq_k fun K hK => ?_
  refine wr_list ?_
  refine wl_pure (.string n) rfl (fun _ => by kernel_rfl) ?_
  intro a' ha
  simp only [Act.put, pA, pO, pS] at ha
  subst ha
  refine wl_call hZ S28 H5 rfl (fun _ => by kernel_rfl) ?_
  intro W29 a' S30 ha
  simp only [Act.put, pA, pO, pS] at ha
  subst ha
  refine wl_pure (.tuple #[wd b, .int .i64 i]) rfl (fun _ => by kernel_rfl) ?_
  intro a' ha
  simp only [Act.put, pA, pO, pS] at ha
  subst ha
  refine wl_pure (wd b) rfl (fun _ => by kernel_rfl) ?_
  intro a' ha
  simp only [Act.put, pA, pO, pS] at ha
  subst ha
  refine wl_pure (.int .i64 i) rfl (fun _ => by kernel_rfl) ?_
  intro a' ha
  simp only [Act.put, pA, pO, pS] at ha
  subst ha
  refine wl_alloc S30 (e4 0) 46 rfl (fun _ => by kernel_rfl) ?_
  intro b31 W32 a' S33 ha
  simp only [Act.put, pA, pO, pS] at ha
  subst ha
  refine wl_store S33 0 b31 46 4 (.tmp 19) (.tmp 101) (e4 0) (e4 b) rfl rfl rfl rfl rfl row46 rfl rfl (e4_one _) ?_
  intro W34 a' S35 ha
  simp only [Act.put, pA, pO, pS] at ha
  subst ha
  refine wl_pure (.int .i64 i) rfl (fun _ => by kernel_rfl) ?_
  intro a' ha
  simp only [Act.put, pA, pO, pS] at ha
  subst ha
  refine wl_nil (hK _ _ ?_)
  clear hK K
  refine wp_seq_k fun K hK => ?_
  refine wp_seq_k fun K hK => ?_
  refine wr_list ?_
  refine wl_pure (.int .i64 h) rfl (fun _ => by kernel_rfl) ?_
  intro a' ha
  simp only [Act.put, pA, pO, pS] at ha
  subst ha
  refine wl_pure (.bool true) rfl (fun _ => (show (execOp _ _).run Tryd.prog _ = .ok (.value (.bool (!decide (h = 0)))) _ from by kernel_rfl).trans (by rw [hq2]; rfl)) ?_
  intro a' ha
  simp only [Act.put, pA, pO, pS] at ha
  subst ha
  refine wl_pure (.bool true) rfl (fun _ => by kernel_rfl) ?_
  intro a' ha
  simp only [Act.put, pA, pO, pS] at ha
  subst ha
  refine wl_skip (by kernel_rfl) ?_
  intro a' ha
  simp only [Act.put, pA, pO, pS] at ha
  subst ha
  refine wl_skip (by kernel_rfl) ?_
  intro a' ha
  simp only [Act.put, pA, pO, pS] at ha
  subst ha
  refine wl_pure (.bool true) rfl (fun _ => by kernel_rfl) ?_
  intro a' ha
  simp only [Act.put, pA, pO, pS] at ha
  subst ha
  refine wl_nil (hK _ _ ?_)
  clear hK K
  refine wp_cond_true rfl ?_
  refine wp_seq_k fun K hK => ?_
  refine wr_list ?_
  refine wl_call hZ S35 H6 rfl (fun _ => by kernel_rfl) ?_
  intro W36 a' S37 ha
  simp only [Act.put, pA, pO, pS] at ha
  subst ha
  refine wl_pure (.bool true) rfl (fun _ => by kernel_rfl) ?_
  intro a' ha
  simp only [Act.put, pA, pO, pS] at ha
  subst ha
  refine wl_nil (hK _ _ ?_)
  clear hK K
  refine wp_ret ?_
  exact fin_tmp S37 rfl rfl rfl
theorem laws_y1 {Z : World → Prop} (hZ : Keeps Z) {x1 y1 z1 t1 x2 y2 z2 t2 x3 y3 z3 t3 a b v1 v2 v3 v4 v5 v6 v7 v8 v9 v10 v11 v12 v13 v14 v15 v16 v17 v18 v19 v20 v21 v22 v23 v24 v25 v26 v27 v28 v29 v30 v31 v32 v33 v34 v35 v36 : Nat} {r s t m n : ByteArray} {i : Int} (H1 : Ret Z 9 #[.string r] (.tuple #[pv x1 y1 z1 t1, .int .i64 0])) (H2 : Ret Z 9 #[.string s] (.tuple #[pv x2 y2 z2 t2, .int .i64 0])) (H3 : Ret Z 9 #[.string t] (.tuple #[pv x3 y3 z3 t3, .int .i64 0])) (H4 : Ret Z 18 #[pv x1 y1 z1 t1, pv x2 y2 z2 t2] (pv v1 v2 v3 v4)) (H5 : Ret Z 18 #[pv x2 y2 z2 t2, pv x1 y1 z1 t1] (pv v5 v6 v7 v8)) (H6 : Ret Z 14 #[pv v1 v2 v3 v4, pv v5 v6 v7 v8] (.bool true)) (H7 : Ret Z 18 #[pv v1 v2 v3 v4, pv x3 y3 z3 t3] (pv v9 v10 v11 v12)) (H8 : Ret Z 18 #[pv x2 y2 z2 t2, pv x3 y3 z3 t3] (pv v13 v14 v15 v16)) (H9 : Ret Z 18 #[pv x1 y1 z1 t1, pv v13 v14 v15 v16] (pv v17 v18 v19 v20)) (H10 : Ret Z 14 #[pv v9 v10 v11 v12, pv v17 v18 v19 v20] (.bool true)) (H11 : Ret Z 25 #[] (pv v21 v22 v23 v24)) (H12 : Ret Z 18 #[pv x1 y1 z1 t1, pv v21 v22 v23 v24] (pv v25 v26 v27 v28)) (H13 : Ret Z 14 #[pv v25 v26 v27 v28, pv x1 y1 z1 t1] (.bool true)) (H14 : Ret Z 20 #[pv x1 y1 z1 t1] (pv v29 v30 v31 v32)) (H15 : Ret Z 18 #[pv x1 y1 z1 t1, pv x1 y1 z1 t1] (pv v33 v34 v35 v36)) (H16 : Ret Z 14 #[pv v29 v30 v31 v32, pv v33 v34 v35 v36] (.bool true)) (H17 : Ret Z 17 #[.string m] (.tuple #[wd a, .int .i64 0])) (H18 : Ret Z 17 #[.string n] (.tuple #[wd b, .int .i64 i])) (H19 : Ret Z 8 #[] (.bool true)) (hq1 : decide (i = 0) = false) : Ret Z 6 #[.string r, .string s, .string t, .string m, .string n] (.bool true) := by
  intro w hw
  have S := St.refl hw
  go_enter Tryd.func6, Tryd.ntmps6
  refine wp_seq_k fun K hK => ?_
  refine wr_list ?_
  refine wl_pure (.bool false) rfl (fun _ => by kernel_rfl) ?_
  intro a' ha
  simp only [Act.put, pA, pO, pS] at ha
  subst ha
  refine wl_nil (hK _ _ ?_)
  clear hK K
  refine wp_seq_k fun K hK => ?_
  refine wr_list ?_
  refine wl_pure (.string r) rfl (fun _ => by kernel_rfl) ?_
  intro a' ha
  simp only [Act.put, pA, pO, pS] at ha
  subst ha
  refine wl_call hZ S H1 rfl (fun _ => by kernel_rfl) ?_
  intro W1 a' S2 ha
  simp only [Act.put, pA, pO, pS] at ha
  subst ha
  refine wl_pure (.tuple #[pv x1 y1 z1 t1, .int .i64 0]) rfl (fun _ => by kernel_rfl) ?_
  intro a' ha
  simp only [Act.put, pA, pO, pS] at ha
  subst ha
  refine wl_pure (pv x1 y1 z1 t1) rfl (fun _ => by kernel_rfl) ?_
  intro a' ha
  simp only [Act.put, pA, pO, pS] at ha
  subst ha
  refine wl_pure (.int .i64 0) rfl (fun _ => by kernel_rfl) ?_
  intro a' ha
  simp only [Act.put, pA, pO, pS] at ha
  subst ha
  refine wl_alloc S2 (q4 0 0 0 0) 29 rfl (fun _ => by kernel_rfl) ?_
  intro b3 W4 a' S5 ha
  simp only [Act.put, pA, pO, pS] at ha
  subst ha
  refine wl_store S5 0 b3 29 16 (.tmp 11) (.tmp 32) (q4 0 0 0 0) (q4 x1 y1 z1 t1) rfl rfl rfl rfl rfl row29 rfl rfl (q4_one _ _ _ _) ?_
  intro W6 a' S7 ha
  simp only [Act.put, pA, pO, pS] at ha
  subst ha
  refine wl_pure (.int .i64 0) rfl (fun _ => by kernel_rfl) ?_
  intro a' ha
  simp only [Act.put, pA, pO, pS] at ha
  subst ha
  refine wl_nil (hK _ _ ?_)
  clear hK K
  refine wp_seq_k fun K hK => ?_
  refine wr_list ?_
  refine wl_pure (.string s) rfl (fun _ => by kernel_rfl) ?_
  intro a' ha
  simp only [Act.put, pA, pO, pS] at ha
  subst ha
  refine wl_call hZ S7 H2 rfl (fun _ => by kernel_rfl) ?_
  intro W8 a' S9 ha
  simp only [Act.put, pA, pO, pS] at ha
  subst ha
  refine wl_pure (.tuple #[pv x2 y2 z2 t2, .int .i64 0]) rfl (fun _ => by kernel_rfl) ?_
  intro a' ha
  simp only [Act.put, pA, pO, pS] at ha
  subst ha
  refine wl_pure (pv x2 y2 z2 t2) rfl (fun _ => by kernel_rfl) ?_
  intro a' ha
  simp only [Act.put, pA, pO, pS] at ha
  subst ha
  refine wl_pure (.int .i64 0) rfl (fun _ => by kernel_rfl) ?_
  intro a' ha
  simp only [Act.put, pA, pO, pS] at ha
  subst ha
  refine wl_alloc S9 (q4 0 0 0 0) 29 rfl (fun _ => by kernel_rfl) ?_
  intro b10 W11 a' S12 ha
  simp only [Act.put, pA, pO, pS] at ha
  subst ha
  refine wl_store S12 0 b10 29 16 (.tmp 13) (.tmp 37) (q4 0 0 0 0) (q4 x2 y2 z2 t2) rfl rfl rfl rfl rfl row29 rfl rfl (q4_one _ _ _ _) ?_
  intro W13 a' S14 ha
  simp only [Act.put, pA, pO, pS] at ha
  subst ha
  refine wl_pure (.int .i64 0) rfl (fun _ => by kernel_rfl) ?_
  intro a' ha
  simp only [Act.put, pA, pO, pS] at ha
  subst ha
  refine wl_nil (hK _ _ ?_)
  clear hK K
  refine wp_seq_k fun K hK => ?_
  refine wr_list ?_
  refine wl_pure (.string t) rfl (fun _ => by kernel_rfl) ?_
  intro a' ha
  simp only [Act.put, pA, pO, pS] at ha
  subst ha
  refine wl_call hZ S14 H3 rfl (fun _ => by kernel_rfl) ?_
  intro W15 a' S16 ha
  simp only [Act.put, pA, pO, pS] at ha
  subst ha
  refine wl_pure (.tuple #[pv x3 y3 z3 t3, .int .i64 0]) rfl (fun _ => by kernel_rfl) ?_
  intro a' ha
  simp only [Act.put, pA, pO, pS] at ha
  subst ha
  refine wl_pure (pv x3 y3 z3 t3) rfl (fun _ => by kernel_rfl) ?_
  intro a' ha
  simp only [Act.put, pA, pO, pS] at ha
  subst ha
  refine wl_pure (.int .i64 0) rfl (fun _ => by kernel_rfl) ?_
  intro a' ha
  simp only [Act.put, pA, pO, pS] at ha
  subst ha
  refine wl_alloc S16 (q4 0 0 0 0) 29 rfl (fun _ => by kernel_rfl) ?_
  intro b17 W18 a' S19 ha
  simp only [Act.put, pA, pO, pS] at ha
  subst ha
  refine wl_store S19 0 b17 29 16 (.tmp 15) (.tmp 42) (q4 0 0 0 0) (q4 x3 y3 z3 t3) rfl rfl rfl rfl rfl row29 rfl rfl (q4_one _ _ _ _) ?_
  intro W20 a' S21 ha
  simp only [Act.put, pA, pO, pS] at ha
  subst ha
  refine wl_pure (.int .i64 0) rfl (fun _ => by kernel_rfl) ?_
  intro a' ha
  simp only [Act.put, pA, pO, pS] at ha
  subst ha
  refine wl_nil (hK _ _ ?_)
  clear hK K
  refine wp_seq_k fun K hK => ?_
  refine wp_seq_k fun K hK => ?_
  refine wr_list ?_
  refine wl_pure (.int .i64 0) rfl (fun _ => by kernel_rfl) ?_
  intro a' ha
  simp only [Act.put, pA, pO, pS] at ha
  subst ha
  refine wl_pure (.bool true) rfl (fun _ => by kernel_rfl) ?_
  intro a' ha
  simp only [Act.put, pA, pO, pS] at ha
  subst ha
  refine wl_pure (.bool true) rfl (fun _ => by kernel_rfl) ?_
  intro a' ha
  simp only [Act.put, pA, pO, pS] at ha
  subst ha
  refine wl_pure (.int .i64 0) (by kernel_rfl) (fun _ => by kernel_rfl) ?_
  intro a' ha
  simp only [Act.put, pA, pO, pS] at ha
  subst ha
  refine wl_pure (.bool true) (by kernel_rfl) (fun _ => by kernel_rfl) ?_
  intro a' ha
  simp only [Act.put, pA, pO, pS] at ha
  subst ha
  refine wl_pure (.bool true) rfl (fun _ => by kernel_rfl) ?_
  intro a' ha
  simp only [Act.put, pA, pO, pS] at ha
  subst ha
  refine wl_pure (.bool true) rfl (fun _ => by kernel_rfl) ?_
  intro a' ha
  simp only [Act.put, pA, pO, pS] at ha
  subst ha
  refine wl_pure (.int .i64 0) (by kernel_rfl) (fun _ => by kernel_rfl) ?_
  intro a' ha
  simp only [Act.put, pA, pO, pS] at ha
  subst ha
  refine wl_pure (.bool true) (by kernel_rfl) (fun _ => by kernel_rfl) ?_
  intro a' ha
  simp only [Act.put, pA, pO, pS] at ha
  subst ha
  refine wl_pure (.bool true) rfl (fun _ => by kernel_rfl) ?_
  intro a' ha
  simp only [Act.put, pA, pO, pS] at ha
  subst ha
  refine wl_nil (hK _ _ ?_)
  clear hK K
  refine wp_cond_true rfl ?_
  refine wp_seq_k fun K hK => ?_
  refine wr_ext S21 (by kernel_rfl) (by kernel_rfl) ?_
  refine wq_load S21 2 b3 0 29 16 (.tmp 11) (q4 x1 y1 z1 t1) (q4 x1 y1 z1 t1) rfl rfl rfl rfl (Sub.self _) row29 rfl ?_
  intro a' ha
  simp only [Act.put, pA, pO, pS] at ha
  subst ha
  refine wq_load S21 1 b10 0 29 16 (.tmp 13) (q4 x2 y2 z2 t2) (q4 x2 y2 z2 t2) rfl rfl rfl rfl (Sub.self _) row29 rfl ?_
  intro a' ha
  simp only [Act.put, pA, pO, pS] at ha
  subst ha
  refine wq_call hZ S21 H4 rfl (fun _ => by kernel_rfl) ?_
  intro a' ha
  simp only [Act.put, pA, pO, pS] at ha
  subst ha
  refine wq_load S21 1 b10 0 29 16 (.tmp 13) (q4 x2 y2 z2 t2) (q4 x2 y2 z2 t2) rfl rfl rfl rfl (Sub.self _) row29 rfl ?_
  intro a' ha
  simp only [Act.put, pA, pO, pS] at ha
  subst ha
  refine wq_load S21 2 b3 0 29 16 (.tmp 11) (q4 x1 y1 z1 t1) (q4 x1 y1 z1 t1) rfl rfl rfl rfl (Sub.self _) row29 rfl ?_
  intro a' ha
  simp only [Act.put, pA, pO, pS] at ha
  subst ha
  refine wq_call hZ S21 H5 rfl (fun _ => by kernel_rfl) ?_
  intro a' ha
  simp only [Act.put, pA, pO, pS] at ha
  subst ha
  refine wq_call hZ S21 H6 rfl (fun _ => by kernel_rfl) ?_
  intro a' ha
  simp only [Act.put, pA, pO, pS] at ha
  subst ha
  refine wq_pure (.bool false) rfl (fun _ => by kernel_rfl) ?_
  intro a' ha
  simp only [Act.put, pA, pO, pS] at ha
  subst ha
  refine wq_pure (.bool false) rfl (fun _ => by kernel_rfl) ?_
  intro a' ha
  simp only [Act.put, pA, pO, pS] at ha
  subst ha
  refine wq_load S21 2 b3 0 29 16 (.tmp 11) (q4 x1 y1 z1 t1) (q4 x1 y1 z1 t1) (by kernel_rfl) rfl rfl rfl (Sub.self _) row29 rfl ?_
  intro a' ha
  simp only [Act.put, pA, pO, pS] at ha
  subst ha
  refine wq_load S21 1 b10 0 29 16 (.tmp 13) (q4 x2 y2 z2 t2) (q4 x2 y2 z2 t2) (by kernel_rfl) rfl rfl rfl (Sub.self _) row29 rfl ?_
  intro a' ha
  simp only [Act.put, pA, pO, pS] at ha
  subst ha
  refine wq_call hZ S21 H4 (by kernel_rfl) (fun _ => by kernel_rfl) ?_
  intro a' ha
  simp only [Act.put, pA, pO, pS] at ha
  subst ha
  refine wq_load S21 0 b17 0 29 16 (.tmp 15) (q4 x3 y3 z3 t3) (q4 x3 y3 z3 t3) (by kernel_rfl) rfl rfl rfl (Sub.self _) row29 rfl ?_
  intro a' ha
  simp only [Act.put, pA, pO, pS] at ha
  subst ha
  refine wq_call hZ S21 H7 (by kernel_rfl) (fun _ => by kernel_rfl) ?_
  intro a' ha
  simp only [Act.put, pA, pO, pS] at ha
  subst ha
  refine wq_load S21 2 b3 0 29 16 (.tmp 11) (q4 x1 y1 z1 t1) (q4 x1 y1 z1 t1) (by kernel_rfl) rfl rfl rfl (Sub.self _) row29 rfl ?_
  intro a' ha
  simp only [Act.put, pA, pO, pS] at ha
  subst ha
  refine wq_load S21 1 b10 0 29 16 (.tmp 13) (q4 x2 y2 z2 t2) (q4 x2 y2 z2 t2) (by kernel_rfl) rfl rfl rfl (Sub.self _) row29 rfl ?_
  intro a' ha
  simp only [Act.put, pA, pO, pS] at ha
  subst ha
  refine wq_load S21 0 b17 0 29 16 (.tmp 15) (q4 x3 y3 z3 t3) (q4 x3 y3 z3 t3) (by kernel_rfl) rfl rfl rfl (Sub.self _) row29 rfl ?_
  intro a' ha
  simp only [Act.put, pA, pO, pS] at ha
  subst ha
  refine wq_call hZ S21 H8 (by kernel_rfl) (fun _ => by kernel_rfl) ?_
  intro a' ha
  simp only [Act.put, pA, pO, pS] at ha
  subst ha
  refine wq_call hZ S21 H9 (by kernel_rfl) (fun _ => by kernel_rfl) ?_
  intro a' ha
  simp only [Act.put, pA, pO, pS] at ha
  subst ha
  refine wq_call hZ S21 H10 (by kernel_rfl) (fun _ => by kernel_rfl) ?_
  intro a' ha
  simp only [Act.put, pA, pO, pS] at ha
  subst ha
  refine wq_pure (.bool false) (by kernel_rfl) (fun _ => by kernel_rfl) ?_
  intro a' ha
  simp only [Act.put, pA, pO, pS] at ha
  subst ha
  refine wq_pure (.bool false) rfl (fun _ => by kernel_rfl) ?_
  intro a' ha
  simp only [Act.put, pA, pO, pS] at ha
  subst ha
  refine wq_pure (.bool false) rfl (fun _ => by kernel_rfl) ?_
  intro a' ha
  simp only [Act.put, pA, pO, pS] at ha
  subst ha
  refine wq_load S21 2 b3 0 29 16 (.tmp 11) (q4 x1 y1 z1 t1) (q4 x1 y1 z1 t1) (by kernel_rfl) rfl rfl rfl (Sub.self _) row29 rfl ?_
  intro a' ha
  simp only [Act.put, pA, pO, pS] at ha
  subst ha
  refine wq_call hZ S21 H11 (by kernel_rfl) (fun _ => by kernel_rfl) ?_
  intro a' ha
  simp only [Act.put, pA, pO, pS] at ha
  subst ha
  refine wq_call hZ S21 H12 (by kernel_rfl) (fun _ => by kernel_rfl) ?_
  intro a' ha
  simp only [Act.put, pA, pO, pS] at ha
  subst ha
  refine wq_load S21 2 b3 0 29 16 (.tmp 11) (q4 x1 y1 z1 t1) (q4 x1 y1 z1 t1) (by kernel_rfl) rfl rfl rfl (Sub.self _) row29 rfl ?_
  intro a' ha
  simp only [Act.put, pA, pO, pS] at ha
  subst ha
  refine wq_call hZ S21 H13 (by kernel_rfl) (fun _ => by kernel_rfl) ?_
  intro a' ha
  simp only [Act.put, pA, pO, pS] at ha
  subst ha
  refine wq_pure (.bool false) (by kernel_rfl) (fun _ => by kernel_rfl) ?_
  intro a' ha
  simp only [Act.put, pA, pO, pS] at ha
  subst ha
  refine wq_pure (.bool false) rfl (fun _ => by kernel_rfl) ?_
  intro a' ha
  simp only [Act.put, pA, pO, pS] at ha
  subst ha
  refine wq_pure (.bool false) rfl (fun _ => by kernel_rfl) ?_
  intro a' ha
  simp only [Act.put, pA, pO, pS] at ha
  subst ha
  refine wq_load S21 2 b3 0 29 16 (.tmp 11) (q4 x1 y1 z1 t1) (q4 x1 y1 z1 t1) (by kernel_rfl) rfl rfl rfl (Sub.self _) row29 rfl ?_
  intro a' ha
  simp only [Act.put, pA, pO, pS] at ha
  subst ha
  refine wq_call hZ S21 H14 (by kernel_rfl) (fun _ => by kernel_rfl) ?_
  intro a' ha
  simp only [Act.put, pA, pO, pS] at ha
  subst ha
  refine wq_load S21 2 b3 0 29 16 (.tmp 11) (q4 x1 y1 z1 t1) (q4 x1 y1 z1 t1) (by kernel_rfl) rfl rfl rfl (Sub.self _) row29 rfl ?_
  intro a' ha
  simp only [Act.put, pA, pO, pS] at ha
  subst ha
  refine wq_load S21 2 b3 0 29 16 (.tmp 11) (q4 x1 y1 z1 t1) (q4 x1 y1 z1 t1) (by kernel_rfl) rfl rfl rfl (Sub.self _) row29 rfl ?_
  intro a' ha
  simp only [Act.put, pA, pO, pS] at ha
  subst ha
  refine wq_call hZ S21 H15 (by kernel_rfl) (fun _ => by kernel_rfl) ?_
  intro a' ha
  simp only [Act.put, pA, pO, pS] at ha
  subst ha
  refine wq_call hZ S21 H16 (by kernel_rfl) (fun _ => by kernel_rfl) ?_
  intro a' ha
  simp only [Act.put, pA, pO, pS] at ha
  subst ha
  refine wq_pure (.bool false) (by kernel_rfl) (fun _ => by kernel_rfl) ?_
  intro a' ha
  simp only [Act.put, pA, pO, pS] at ha
  subst ha
  refine wq_pure (.bool false) rfl (fun _ => by kernel_rfl) ?_
  intro a' ha
  simp only [Act.put, pA, pO, pS] at ha
  subst ha
  refine wq_nil ?_
  intro W22 S23
  refine hK _ _ ?_
  clear hK K
  refine wp_cond_false rfl ?_
  refine wp_skip (hK _ _ ?_)
  clear hK K
  refine wp_seq_k fun K hK => ?_
  refine wr_list ?_
  refine wl_pure (.string m) rfl (fun _ => by kernel_rfl) ?_
  intro a' ha
  simp only [Act.put, pA, pO, pS] at ha
  subst ha
  refine wl_call hZ S23 H17 rfl (fun _ => by kernel_rfl) ?_
  intro W24 a' S25 ha
  simp only [Act.put, pA, pO, pS] at ha
  subst ha
  refine wl_pure (.tuple #[wd a, .int .i64 0]) rfl (fun _ => by kernel_rfl) ?_
  intro a' ha
  simp only [Act.put, pA, pO, pS] at ha
  subst ha
  refine wl_pure (wd a) rfl (fun _ => by kernel_rfl) ?_
  intro a' ha
  simp only [Act.put, pA, pO, pS] at ha
  subst ha
  refine wl_pure (.int .i64 0) rfl (fun _ => by kernel_rfl) ?_
  intro a' ha
  simp only [Act.put, pA, pO, pS] at ha
  subst ha
  refine wl_alloc S25 (e4 0) 46 rfl (fun _ => by kernel_rfl) ?_
  intro b26 W27 a' S28 ha
  simp only [Act.put, pA, pO, pS] at ha
  subst ha
  refine wl_store S28 0 b26 46 4 (.tmp 17) (.tmp 96) (e4 0) (e4 a) rfl rfl rfl rfl rfl row46 rfl rfl (e4_one _) ?_
  intro W29 a' S30 ha
  simp only [Act.put, pA, pO, pS] at ha
  subst ha
  refine wl_pure (.int .i64 0) rfl (fun _ => by kernel_rfl) ?_
  intro a' ha
  simp only [Act.put, pA, pO, pS] at ha
  subst ha
  refine wl_nil (hK _ _ ?_)
  clear hK K
  refine wp_seq_k fun K hK => ?_
  refine wr_list ?_
  refine wl_pure (.string n) rfl (fun _ => by kernel_rfl) ?_
  intro a' ha
  simp only [Act.put, pA, pO, pS] at ha
  subst ha
  refine wl_call hZ S30 H18 rfl (fun _ => by kernel_rfl) ?_
  intro W31 a' S32 ha
  simp only [Act.put, pA, pO, pS] at ha
  subst ha
  refine wl_pure (.tuple #[wd b, .int .i64 i]) rfl (fun _ => by kernel_rfl) ?_
  intro a' ha
  simp only [Act.put, pA, pO, pS] at ha
  subst ha
  refine wl_pure (wd b) rfl (fun _ => by kernel_rfl) ?_
  intro a' ha
  simp only [Act.put, pA, pO, pS] at ha
  subst ha
  refine wl_pure (.int .i64 i) rfl (fun _ => by kernel_rfl) ?_
  intro a' ha
  simp only [Act.put, pA, pO, pS] at ha
  subst ha
  refine wl_alloc S32 (e4 0) 46 rfl (fun _ => by kernel_rfl) ?_
  intro b33 W34 a' S35 ha
  simp only [Act.put, pA, pO, pS] at ha
  subst ha
  refine wl_store S35 0 b33 46 4 (.tmp 19) (.tmp 101) (e4 0) (e4 b) rfl rfl rfl rfl rfl row46 rfl rfl (e4_one _) ?_
  intro W36 a' S37 ha
  simp only [Act.put, pA, pO, pS] at ha
  subst ha
  refine wl_pure (.int .i64 i) rfl (fun _ => by kernel_rfl) ?_
  intro a' ha
  simp only [Act.put, pA, pO, pS] at ha
  subst ha
  refine wl_nil (hK _ _ ?_)
  clear hK K
  refine wp_seq_k fun K hK => ?_
  refine wp_seq_k fun K hK => ?_
  refine wr_list ?_
  refine wl_pure (.int .i64 0) rfl (fun _ => by kernel_rfl) ?_
  intro a' ha
  simp only [Act.put, pA, pO, pS] at ha
  subst ha
  refine wl_pure (.bool false) rfl (fun _ => by kernel_rfl) ?_
  intro a' ha
  simp only [Act.put, pA, pO, pS] at ha
  subst ha
  refine wl_pure (.bool false) rfl (fun _ => by kernel_rfl) ?_
  intro a' ha
  simp only [Act.put, pA, pO, pS] at ha
  subst ha
  refine wl_pure (.int .i64 i) (by kernel_rfl) (fun _ => by kernel_rfl) ?_
  intro a' ha
  simp only [Act.put, pA, pO, pS] at ha
  subst ha
  refine wl_pure (.bool true) (by kernel_rfl) (fun _ => (show (execOp _ _).run Tryd.prog _ = .ok (.value (.bool (!decide (i = 0)))) _ from by kernel_rfl).trans (by rw [hq1]; rfl)) ?_
  intro a' ha
  simp only [Act.put, pA, pO, pS] at ha
  subst ha
  refine wl_pure (.bool true) rfl (fun _ => by kernel_rfl) ?_
  intro a' ha
  simp only [Act.put, pA, pO, pS] at ha
  subst ha
  refine wl_nil (hK _ _ ?_)
  clear hK K
  refine wp_cond_true rfl ?_
  refine wp_seq_k fun K hK => ?_
  refine wr_list ?_
  refine wl_call hZ S37 H19 rfl (fun _ => by kernel_rfl) ?_
  intro W38 a' S39 ha
  simp only [Act.put, pA, pO, pS] at ha
  subst ha
  refine wl_pure (.bool true) rfl (fun _ => by kernel_rfl) ?_
  intro a' ha
  simp only [Act.put, pA, pO, pS] at ha
  subst ha
  refine wl_nil (hK _ _ ?_)
  clear hK K
  refine wp_ret ?_
  exact fin_tmp S39 rfl rfl rfl
theorem laws_01 {Z : World → Prop} (hZ : Keeps Z) {x1 y1 z1 t1 x2 y2 z2 t2 x3 y3 z3 t3 a b : Nat} {r s t m n : ByteArray} {e f g i : Int} (H1 : Ret Z 9 #[.string r] (.tuple #[pv x1 y1 z1 t1, .int .i64 e])) (H2 : Ret Z 9 #[.string s] (.tuple #[pv x2 y2 z2 t2, .int .i64 f])) (H3 : Ret Z 9 #[.string t] (.tuple #[pv x3 y3 z3 t3, .int .i64 g])) (H4 : Ret Z 17 #[.string m] (.tuple #[wd a, .int .i64 0])) (H5 : Ret Z 17 #[.string n] (.tuple #[wd b, .int .i64 i])) (H6 : Ret Z 8 #[] (.bool true)) (hq1 : decide (e = 0) = false) (hq2 : decide (i = 0) = false) : Ret Z 6 #[.string r, .string s, .string t, .string m, .string n] (.bool true) := by
  intro w hw
  have S := St.refl hw
  go_enter Tryd.func6, Tryd.ntmps6
  refine wp_seq_k fun K hK => ?_
  refine wr_list ?_
  refine wl_pure (.bool false) rfl (fun _ => by kernel_rfl) ?_
  intro a' ha
  simp only [Act.put, pA, pO, pS] at ha
  subst ha
  refine wl_nil (hK _ _ ?_)
  clear hK K
  refine wp_seq_k fun K hK => ?_
  refine wr_list ?_
  refine wl_pure (.string r) rfl (fun _ => by kernel_rfl) ?_
  intro a' ha
  simp only [Act.put, pA, pO, pS] at ha
  subst ha
  refine wl_call hZ S H1 rfl (fun _ => by kernel_rfl) ?_
  intro W1 a' S2 ha
  simp only [Act.put, pA, pO, pS] at ha
  subst ha
  refine wl_pure (.tuple #[pv x1 y1 z1 t1, .int .i64 e]) rfl (fun _ => by kernel_rfl) ?_
  intro a' ha
  simp only [Act.put, pA, pO, pS] at ha
  subst ha
  refine wl_pure (pv x1 y1 z1 t1) rfl (fun _ => by kernel_rfl) ?_
  intro a' ha
  simp only [Act.put, pA, pO, pS] at ha
  subst ha
  refine wl_pure (.int .i64 e) rfl (fun _ => by kernel_rfl) ?_
  intro a' ha
  simp only [Act.put, pA, pO, pS] at ha
  subst ha
  refine wl_alloc S2 (q4 0 0 0 0) 29 rfl (fun _ => by kernel_rfl) ?_
  intro b3 W4 a' S5 ha
  simp only [Act.put, pA, pO, pS] at ha
  subst ha
  refine wl_store S5 0 b3 29 16 (.tmp 11) (.tmp 32) (q4 0 0 0 0) (q4 x1 y1 z1 t1) rfl rfl rfl rfl rfl row29 rfl rfl (q4_one _ _ _ _) ?_
  intro W6 a' S7 ha
  simp only [Act.put, pA, pO, pS] at ha
  subst ha
  refine wl_pure (.int .i64 e) rfl (fun _ => by kernel_rfl) ?_
  intro a' ha
  simp only [Act.put, pA, pO, pS] at ha
  subst ha
  refine wl_nil (hK _ _ ?_)
  clear hK K
  refine wp_seq_k fun K hK => ?_
  refine wr_list ?_
  refine wl_pure (.string s) rfl (fun _ => by kernel_rfl) ?_
  intro a' ha
  simp only [Act.put, pA, pO, pS] at ha
  subst ha
  refine wl_call hZ S7 H2 rfl (fun _ => by kernel_rfl) ?_
  intro W8 a' S9 ha
  simp only [Act.put, pA, pO, pS] at ha
  subst ha
  refine wl_pure (.tuple #[pv x2 y2 z2 t2, .int .i64 f]) rfl (fun _ => by kernel_rfl) ?_
  intro a' ha
  simp only [Act.put, pA, pO, pS] at ha
  subst ha
  refine wl_pure (pv x2 y2 z2 t2) rfl (fun _ => by kernel_rfl) ?_
  intro a' ha
  simp only [Act.put, pA, pO, pS] at ha
  subst ha
  refine wl_pure (.int .i64 f) rfl (fun _ => by kernel_rfl) ?_
  intro a' ha
  simp only [Act.put, pA, pO, pS] at ha
  subst ha
  refine wl_alloc S9 (q4 0 0 0 0) 29 rfl (fun _ => by kernel_rfl) ?_
  intro b10 W11 a' S12 ha
  simp only [Act.put, pA, pO, pS] at ha
  subst ha
  refine wl_store S12 0 b10 29 16 (.tmp 13) (.tmp 37) (q4 0 0 0 0) (q4 x2 y2 z2 t2) rfl rfl rfl rfl rfl row29 rfl rfl (q4_one _ _ _ _) ?_
  intro W13 a' S14 ha
  simp only [Act.put, pA, pO, pS] at ha
  subst ha
  refine wl_pure (.int .i64 f) rfl (fun _ => by kernel_rfl) ?_
  intro a' ha
  simp only [Act.put, pA, pO, pS] at ha
  subst ha
  refine wl_nil (hK _ _ ?_)
  clear hK K
  refine wp_seq_k fun K hK => ?_
  refine wr_list ?_
  refine wl_pure (.string t) rfl (fun _ => by kernel_rfl) ?_
  intro a' ha
  simp only [Act.put, pA, pO, pS] at ha
  subst ha
  refine wl_call hZ S14 H3 rfl (fun _ => by kernel_rfl) ?_
  intro W15 a' S16 ha
  simp only [Act.put, pA, pO, pS] at ha
  subst ha
  refine wl_pure (.tuple #[pv x3 y3 z3 t3, .int .i64 g]) rfl (fun _ => by kernel_rfl) ?_
  intro a' ha
  simp only [Act.put, pA, pO, pS] at ha
  subst ha
  refine wl_pure (pv x3 y3 z3 t3) rfl (fun _ => by kernel_rfl) ?_
  intro a' ha
  simp only [Act.put, pA, pO, pS] at ha
  subst ha
  refine wl_pure (.int .i64 g) rfl (fun _ => by kernel_rfl) ?_
  intro a' ha
  simp only [Act.put, pA, pO, pS] at ha
  subst ha
  refine wl_alloc S16 (q4 0 0 0 0) 29 rfl (fun _ => by kernel_rfl) ?_
  intro b17 W18 a' S19 ha
  simp only [Act.put, pA, pO, pS] at ha
  subst ha
  refine wl_store S19 0 b17 29 16 (.tmp 15) (.tmp 42) (q4 0 0 0 0) (q4 x3 y3 z3 t3) rfl rfl rfl rfl rfl row29 rfl rfl (q4_one _ _ _ _) ?_
  intro W20 a' S21 ha
  simp only [Act.put, pA, pO, pS] at ha
  subst ha
  refine wl_pure (.int .i64 g) rfl (fun _ => by kernel_rfl) ?_
  intro a' ha
  simp only [Act.put, pA, pO, pS] at ha
  subst ha
  refine wl_nil (hK _ _ ?_)
  clear hK K
  refine wp_seq_k fun K hK => ?_
  refine wp_seq_k fun K hK => ?_
  refine wr_list ?_
  refine wl_pure (.int .i64 e) rfl (fun _ => by kernel_rfl) ?_
  intro a' ha
  simp only [Act.put, pA, pO, pS] at ha
  subst ha
  refine wl_pure (.bool false) rfl (fun _ => (show (execOp _ _).run Tryd.prog _ = .ok (.value (.bool (decide (e = 0)))) _ from by kernel_rfl).trans (by rw [hq1])) ?_
  intro a' ha
  simp only [Act.put, pA, pO, pS] at ha
  subst ha
  refine wl_pure (.bool false) rfl (fun _ => by kernel_rfl) ?_
  intro a' ha
  simp only [Act.put, pA, pO, pS] at ha
  subst ha
  refine wl_skip (by kernel_rfl) ?_
  intro a' ha
  simp only [Act.put, pA, pO, pS] at ha
  subst ha
  refine wl_skip (by kernel_rfl) ?_
  intro a' ha
  simp only [Act.put, pA, pO, pS] at ha
  subst ha
  refine wl_pure (.bool false) rfl (fun _ => by kernel_rfl) ?_
  intro a' ha
  simp only [Act.put, pA, pO, pS] at ha
  subst ha
  refine wl_pure (.bool false) rfl (fun _ => by kernel_rfl) ?_
  intro a' ha
  simp only [Act.put, pA, pO, pS] at ha
  subst ha
  refine wl_skip (by kernel_rfl) ?_
  intro a' ha
  simp only [Act.put, pA, pO, pS] at ha
  subst ha
  refine wl_skip (by kernel_rfl) ?_
  intro a' ha
  simp only [Act.put, pA, pO, pS] at ha
  subst ha
  refine wl_pure (.bool false) rfl (fun _ => by kernel_rfl) ?_
  intro a' ha
  simp only [Act.put, pA, pO, pS] at ha
  subst ha
  refine wl_nil (hK _ _ ?_)
  clear hK K
  refine wp_cond_false rfl ?_
  refine wp_skip (hK _ _ ?_)
  clear hK K
  refine wp_seq_k fun K hK => ?_
  refine wr_list ?_
  refine wl_pure (.string m) rfl (fun _ => by kernel_rfl) ?_
  intro a' ha
  simp only [Act.put, pA, pO, pS] at ha
  subst ha
  refine wl_call hZ S21 H4 rfl (fun _ => by kernel_rfl) ?_
  intro W22 a' S23 ha
  simp only [Act.put, pA, pO, pS] at ha
  subst ha
  refine wl_pure (.tuple #[wd a, .int .i64 0]) rfl (fun _ => by kernel_rfl) ?_
  intro a' ha
  simp only [Act.put, pA, pO, pS] at ha
  subst ha
  refine wl_pure (wd a) rfl (fun _ => by kernel_rfl) ?_
  intro a' ha
  simp only [Act.put, pA, pO, pS] at ha
  subst ha
  refine wl_pure (.int .i64 0) rfl (fun _ => by kernel_rfl) ?_
  intro a' ha
  simp only [Act.put, pA, pO, pS] at ha
  subst ha
  refine wl_alloc S23 (e4 0) 46 rfl (fun _ => by kernel_rfl) ?_
  intro b24 W25 a' S26 ha
  simp only [Act.put, pA, pO, pS] at ha
  subst ha
  refine wl_store S26 0 b24 46 4 (.tmp 17) (.tmp 96) (e4 0) (e4 a) rfl rfl rfl rfl rfl row46 rfl rfl (e4_one _) ?_
  intro W27 a' S28 ha
  simp only [Act.put, pA, pO, pS] at ha
  subst ha
  refine wl_pure (.int .i64 0) rfl (fun _ => by kernel_rfl) ?_
  intro a' ha
  simp only [Act.put, pA, pO, pS] at ha
  subst ha
  refine wl_nil (hK _ _ ?_)
  clear hK K
  refine wp_seq_k fun K hK => ?_
  refine wr_list ?_
  refine wl_pure (.string n) rfl (fun _ => by kernel_rfl) ?_
  intro a' ha
  simp only [Act.put, pA, pO, pS] at ha
  subst ha
  refine wl_call hZ S28 H5 rfl (fun _ => by kernel_rfl) ?_
  intro W29 a' S30 ha
  simp only [Act.put, pA, pO, pS] at ha
  subst ha
  refine wl_pure (.tuple #[wd b, .int .i64 i]) rfl (fun _ => by kernel_rfl) ?_
  intro a' ha
  simp only [Act.put, pA, pO, pS] at ha
  subst ha
  refine wl_pure (wd b) rfl (fun _ => by kernel_rfl) ?_
  intro a' ha
  simp only [Act.put, pA, pO, pS] at ha
  subst ha
  refine wl_pure (.int .i64 i) rfl (fun _ => by kernel_rfl) ?_
  intro a' ha
  simp only [Act.put, pA, pO, pS] at ha
  subst ha
  refine wl_alloc S30 (e4 0) 46 rfl (fun _ => by kernel_rfl) ?_
  intro b31 W32 a' S33 ha
  simp only [Act.put, pA, pO, pS] at ha
  subst ha
  refine wl_store S33 0 b31 46 4 (.tmp 19) (.tmp 101) (e4 0) (e4 b) rfl rfl rfl rfl rfl row46 rfl rfl (e4_one _) ?_
  intro W34 a' S35 ha
  simp only [Act.put, pA, pO, pS] at ha
  subst ha
  refine wl_pure (.int .i64 i) rfl (fun _ => by kernel_rfl) ?_
  intro a' ha
  simp only [Act.put, pA, pO, pS] at ha
  subst ha
  refine wl_nil (hK _ _ ?_)
  clear hK K
  refine wp_seq_k fun K hK => ?_
  refine wp_seq_k fun K hK => ?_
  refine wr_list ?_
  refine wl_pure (.int .i64 0) rfl (fun _ => by kernel_rfl) ?_
  intro a' ha
  simp only [Act.put, pA, pO, pS] at ha
  subst ha
  refine wl_pure (.bool false) rfl (fun _ => by kernel_rfl) ?_
  intro a' ha
  simp only [Act.put, pA, pO, pS] at ha
  subst ha
  refine wl_pure (.bool false) rfl (fun _ => by kernel_rfl) ?_
  intro a' ha
  simp only [Act.put, pA, pO, pS] at ha
  subst ha
  refine wl_pure (.int .i64 i) (by kernel_rfl) (fun _ => by kernel_rfl) ?_
  intro a' ha
  simp only [Act.put, pA, pO, pS] at ha
  subst ha
  refine wl_pure (.bool true) (by kernel_rfl) (fun _ => (show (execOp _ _).run Tryd.prog _ = .ok (.value (.bool (!decide (i = 0)))) _ from by kernel_rfl).trans (by rw [hq2]; rfl)) ?_
  intro a' ha
  simp only [Act.put, pA, pO, pS] at ha
  subst ha
  refine wl_pure (.bool true) rfl (fun _ => by kernel_rfl) ?_
  intro a' ha
  simp only [Act.put, pA, pO, pS] at ha
  subst ha
  refine wl_nil (hK _ _ ?_)
  clear hK K
  refine wp_cond_true rfl ?_
  refine wp_seq_k fun K hK => ?_
  refine wr_list ?_
  refine wl_call hZ S35 H6 rfl (fun _ => by kernel_rfl) ?_
  intro W36 a' S37 ha
  simp only [Act.put, pA, pO, pS] at ha
  subst ha
  refine wl_pure (.bool true) rfl (fun _ => by kernel_rfl) ?_
  intro a' ha
  simp only [Act.put, pA, pO, pS] at ha
  subst ha
  refine wl_nil (hK _ _ ?_)
  clear hK K
  refine wp_ret ?_
  exact fin_tmp S37 rfl rfl rfl
theorem laws_11 {Z : World → Prop} (hZ : Keeps Z) {x1 y1 z1 t1 x2 y2 z2 t2 x3 y3 z3 t3 a b : Nat} {r s t m n : ByteArray} {f g i : Int} (H1 : Ret Z 9 #[.string r] (.tuple #[pv x1 y1 z1 t1, .int .i64 0])) (H2 : Ret Z 9 #[.string s] (.tuple #[pv x2 y2 z2 t2, .int .i64 f])) (H3 : Ret Z 9 #[.string t] (.tuple #[pv x3 y3 z3 t3, .int .i64 g])) (H4 : Ret Z 17 #[.string m] (.tuple #[wd a, .int .i64 0])) (H5 : Ret Z 17 #[.string n] (.tuple #[wd b, .int .i64 i])) (H6 : Ret Z 8 #[] (.bool true)) (hq1 : decide (f = 0) = false) (hq2 : decide (i = 0) = false) : Ret Z 6 #[.string r, .string s, .string t, .string m, .string n] (.bool true) := by
  intro w hw
  have S := St.refl hw
  go_enter Tryd.func6, Tryd.ntmps6
  refine wp_seq_k fun K hK => ?_
  refine wr_list ?_
  refine wl_pure (.bool false) rfl (fun _ => by kernel_rfl) ?_
  intro a' ha
  simp only [Act.put, pA, pO, pS] at ha
  subst ha
  refine wl_nil (hK _ _ ?_)
  clear hK K
  refine wp_seq_k fun K hK => ?_
  refine wr_list ?_
  refine wl_pure (.string r) rfl (fun _ => by kernel_rfl) ?_
  intro a' ha
  simp only [Act.put, pA, pO, pS] at ha
  subst ha
  refine wl_call hZ S H1 rfl (fun _ => by kernel_rfl) ?_
  intro W1 a' S2 ha
  simp only [Act.put, pA, pO, pS] at ha
  subst ha
  refine wl_pure (.tuple #[pv x1 y1 z1 t1, .int .i64 0]) rfl (fun _ => by kernel_rfl) ?_
  intro a' ha
  simp only [Act.put, pA, pO, pS] at ha
  subst ha
  refine wl_pure (pv x1 y1 z1 t1) rfl (fun _ => by kernel_rfl) ?_
  intro a' ha
  simp only [Act.put, pA, pO, pS] at ha
  subst ha
  refine wl_pure (.int .i64 0) rfl (fun _ => by kernel_rfl) ?_
  intro a' ha
  simp only [Act.put, pA, pO, pS] at ha
  subst ha
  refine wl_alloc S2 (q4 0 0 0 0) 29 rfl (fun _ => by kernel_rfl) ?_
  intro b3 W4 a' S5 ha
  simp only [Act.put, pA, pO, pS] at ha
  subst ha
  refine wl_store S5 0 b3 29 16 (.tmp 11) (.tmp 32) (q4 0 0 0 0) (q4 x1 y1 z1 t1) rfl rfl rfl rfl rfl row29 rfl rfl (q4_one _ _ _ _) ?_
  intro W6 a' S7 ha
  simp only [Act.put, pA, pO, pS] at ha
  subst ha
  refine wl_pure (.int .i64 0) rfl (fun _ => by kernel_rfl) ?_
  intro a' ha
  simp only [Act.put, pA, pO, pS] at ha
  subst ha
  refine wl_nil (hK _ _ ?_)
  clear hK K
  refine wp_seq_k fun K hK => ?_
  refine wr_list ?_
  refine wl_pure (.string s) rfl (fun _ => by kernel_rfl) ?_
  intro a' ha
  simp only [Act.put, pA, pO, pS] at ha
  subst ha
  refine wl_call hZ S7 H2 rfl (fun _ => by kernel_rfl) ?_
  intro W8 a' S9 ha
  simp only [Act.put, pA, pO, pS] at ha
  subst ha
  refine wl_pure (.tuple #[pv x2 y2 z2 t2, .int .i64 f]) rfl (fun _ => by kernel_rfl) ?_
  intro a' ha
  simp only [Act.put, pA, pO, pS] at ha
  subst ha
  refine wl_pure (pv x2 y2 z2 t2) rfl (fun _ => by kernel_rfl) ?_
  intro a' ha
  simp only [Act.put, pA, pO, pS] at ha
  subst ha
  refine wl_pure (.int .i64 f) rfl (fun _ => by kernel_rfl) ?_
  intro a' ha
  simp only [Act.put, pA, pO, pS] at ha
  subst ha
  refine wl_alloc S9 (q4 0 0 0 0) 29 rfl (fun _ => by kernel_rfl) ?_
  intro b10 W11 a' S12 ha
  simp only [Act.put, pA, pO, pS] at ha
  subst ha
  refine wl_store S12 0 b10 29 16 (.tmp 13) (.tmp 37) (q4 0 0 0 0) (q4 x2 y2 z2 t2) rfl rfl rfl rfl rfl row29 rfl rfl (q4_one _ _ _ _) ?_
  intro W13 a' S14 ha
  simp only [Act.put, pA, pO, pS] at ha
  subst ha
  refine wl_pure (.int .i64 f) rfl (fun _ => by kernel_rfl) ?_
  intro a' ha
  simp only [Act.put, pA, pO, pS] at ha
  subst ha
  refine wl_nil (hK _ _ ?_)
  clear hK K
  refine wp_seq_k fun K hK => ?_
  refine wr_list ?_
  refine wl_pure (.string t) rfl (fun _ => by kernel_rfl) ?_
  intro a' ha
  simp only [Act.put, pA, pO, pS] at ha
  subst ha
  refine wl_call hZ S14 H3 rfl (fun _ => by kernel_rfl) ?_
  intro W15 a' S16 ha
  simp only [Act.put, pA, pO, pS] at ha
  subst ha
  refine wl_pure (.tuple #[pv x3 y3 z3 t3, .int .i64 g]) rfl (fun _ => by kernel_rfl) ?_
  intro a' ha
  simp only [Act.put, pA, pO, pS] at ha
  subst ha
  refine wl_pure (pv x3 y3 z3 t3) rfl (fun _ => by kernel_rfl) ?_
  intro a' ha
  simp only [Act.put, pA, pO, pS] at ha
  subst ha
  refine wl_pure (.int .i64 g) rfl (fun _ => by kernel_rfl) ?_
  intro a' ha
  simp only [Act.put, pA, pO, pS] at ha
  subst ha
  refine wl_alloc S16 (q4 0 0 0 0) 29 rfl (fun _ => by kernel_rfl) ?_
  intro b17 W18 a' S19 ha
  simp only [Act.put, pA, pO, pS] at ha
  subst ha
  refine wl_store S19 0 b17 29 16 (.tmp 15) (.tmp 42) (q4 0 0 0 0) (q4 x3 y3 z3 t3) rfl rfl rfl rfl rfl row29 rfl rfl (q4_one _ _ _ _) ?_
  intro W20 a' S21 ha
  simp only [Act.put, pA, pO, pS] at ha
  subst ha
  refine wl_pure (.int .i64 g) rfl (fun _ => by kernel_rfl) ?_
  intro a' ha
  simp only [Act.put, pA, pO, pS] at ha
  subst ha
  refine wl_nil (hK _ _ ?_)
  clear hK K
  refine wp_seq_k fun K hK => ?_
  refine wp_seq_k fun K hK => ?_
  refine wr_list ?_
  refine wl_pure (.int .i64 0) rfl (fun _ => by kernel_rfl) ?_
  intro a' ha
  simp only [Act.put, pA, pO, pS] at ha
  subst ha
  refine wl_pure (.bool true) rfl (fun _ => by kernel_rfl) ?_
  intro a' ha
  simp only [Act.put, pA, pO, pS] at ha
  subst ha
  refine wl_pure (.bool true) rfl (fun _ => by kernel_rfl) ?_
  intro a' ha
  simp only [Act.put, pA, pO, pS] at ha
  subst ha
  refine wl_pure (.int .i64 f) (by kernel_rfl) (fun _ => by kernel_rfl) ?_
  intro a' ha
  simp only [Act.put, pA, pO, pS] at ha
  subst ha
  refine wl_pure (.bool false) (by kernel_rfl) (fun _ => (show (execOp _ _).run Tryd.prog _ = .ok (.value (.bool (decide (f = 0)))) _ from by kernel_rfl).trans (by rw [hq1])) ?_
  intro a' ha
  simp only [Act.put, pA, pO, pS] at ha
  subst ha
  refine wl_pure (.bool false) rfl (fun _ => by kernel_rfl) ?_
  intro a' ha
  simp only [Act.put, pA, pO, pS] at ha
  subst ha
  refine wl_pure (.bool false) rfl (fun _ => by kernel_rfl) ?_
  intro a' ha
  simp only [Act.put, pA, pO, pS] at ha
  subst ha
  refine wl_skip (by kernel_rfl) ?_
  intro a' ha
  simp only [Act.put, pA, pO, pS] at ha
  subst ha
  refine wl_skip (by kernel_rfl) ?_
  intro a' ha
  simp only [Act.put, pA, pO, pS] at ha
  subst ha
  refine wl_pure (.bool false) rfl (fun _ => by kernel_rfl) ?_
  intro a' ha
  simp only [Act.put, pA, pO, pS] at ha
  subst ha
  refine wl_nil (hK _ _ ?_)
  clear hK K
  refine wp_cond_false rfl ?_
  refine wp_skip (hK _ _ ?_)
  clear hK K
  refine wp_seq_k fun K hK => ?_
  refine wr_list ?_
  refine wl_pure (.string m) rfl (fun _ => by kernel_rfl) ?_
  intro a' ha
  simp only [Act.put, pA, pO, pS] at ha
  subst ha
  refine wl_call hZ S21 H4 rfl (fun _ => by kernel_rfl) ?_
  intro W22 a' S23 ha
  simp only [Act.put, pA, pO, pS] at ha
  subst ha
  refine wl_pure (.tuple #[wd a, .int .i64 0]) rfl (fun _ => by kernel_rfl) ?_
  intro a' ha
  simp only [Act.put, pA, pO, pS] at ha
  subst ha
  refine wl_pure (wd a) rfl (fun _ => by kernel_rfl) ?_
  intro a' ha
  simp only [Act.put, pA, pO, pS] at ha
  subst ha
  refine wl_pure (.int .i64 0) rfl (fun _ => by kernel_rfl) ?_
  intro a' ha
  simp only [Act.put, pA, pO, pS] at ha
  subst ha
  refine wl_alloc S23 (e4 0) 46 rfl (fun _ => by kernel_rfl) ?_
  intro b24 W25 a' S26 ha
  simp only [Act.put, pA, pO, pS] at ha
  subst ha
  refine wl_store S26 0 b24 46 4 (.tmp 17) (.tmp 96) (e4 0) (e4 a) rfl rfl rfl rfl rfl row46 rfl rfl (e4_one _) ?_
  intro W27 a' S28 ha
  simp only [Act.put, pA, pO, pS] at ha
  subst ha
  refine wl_pure (.int .i64 0) rfl (fun _ => by kernel_rfl) ?_
  intro a' ha
  simp only [Act.put, pA, pO, pS] at ha
  subst ha
  refine wl_nil (hK _ _ ?_)
  clear hK K
  refine wp_seq_k fun K hK => ?_
  refine wr_list ?_
  refine wl_pure (.string n) rfl (fun _ => by kernel_rfl) ?_
  intro a' ha
  simp only [Act.put, pA, pO, pS] at ha
  subst ha
  refine wl_call hZ S28 H5 rfl (fun _ => by kernel_rfl) ?_
  intro W29 a' S30 ha
  simp only [Act.put, pA, pO, pS] at ha
  subst ha
  refine wl_pure (.tuple #[wd b, .int .i64 i]) rfl (fun _ => by kernel_rfl) ?_
  intro a' ha
  simp only [Act.put, pA, pO, pS] at ha
  subst ha
  refine wl_pure (wd b) rfl (fun _ => by kernel_rfl) ?_
  intro a' ha
  simp only [Act.put, pA, pO, pS] at ha
  subst ha
  refine wl_pure (.int .i64 i) rfl (fun _ => by kernel_rfl) ?_
  intro a' ha
  simp only [Act.put, pA, pO, pS] at ha
  subst ha
  refine wl_alloc S30 (e4 0) 46 rfl (fun _ => by kernel_rfl) ?_
  intro b31 W32 a' S33 ha
  simp only [Act.put, pA, pO, pS] at ha
  subst ha
  refine wl_store S33 0 b31 46 4 (.tmp 19) (.tmp 101) (e4 0) (e4 b) rfl rfl rfl rfl rfl row46 rfl rfl (e4_one _) ?_
  intro W34 a' S35 ha
  simp only [Act.put, pA, pO, pS] at ha
  subst ha
  refine wl_pure (.int .i64 i) rfl (fun _ => by kernel_rfl) ?_
  intro a' ha
  simp only [Act.put, pA, pO, pS] at ha
  subst ha
  refine wl_nil (hK _ _ ?_)
  clear hK K
  refine wp_seq_k fun K hK => ?_
  refine wp_seq_k fun K hK => ?_
  refine wr_list ?_
  refine wl_pure (.int .i64 0) rfl (fun _ => by kernel_rfl) ?_
  intro a' ha
  simp only [Act.put, pA, pO, pS] at ha
  subst ha
  refine wl_pure (.bool false) rfl (fun _ => by kernel_rfl) ?_
  intro a' ha
  simp only [Act.put, pA, pO, pS] at ha
  subst ha
  refine wl_pure (.bool false) rfl (fun _ => by kernel_rfl) ?_
  intro a' ha
  simp only [Act.put, pA, pO, pS] at ha
  subst ha
  refine wl_pure (.int .i64 i) (by kernel_rfl) (fun _ => by kernel_rfl) ?_
  intro a' ha
  simp only [Act.put, pA, pO, pS] at ha
  subst ha
  refine wl_pure (.bool true) (by kernel_rfl) (fun _ => (show (execOp _ _).run Tryd.prog _ = .ok (.value (.bool (!decide (i = 0)))) _ from by kernel_rfl).trans (by rw [hq2]; rfl)) ?_
  intro a' ha
  simp only [Act.put, pA, pO, pS] at ha
  subst ha
  refine wl_pure (.bool true) rfl (fun _ => by kernel_rfl) ?_
  intro a' ha
  simp only [Act.put, pA, pO, pS] at ha
  subst ha
  refine wl_nil (hK _ _ ?_)
  clear hK K
  refine wp_cond_true rfl ?_
  refine wp_seq_k fun K hK => ?_
  refine wr_list ?_
  refine wl_call hZ S35 H6 rfl (fun _ => by kernel_rfl) ?_
  intro W36 a' S37 ha
  simp only [Act.put, pA, pO, pS] at ha
  subst ha
  refine wl_pure (.bool true) rfl (fun _ => by kernel_rfl) ?_
  intro a' ha
  simp only [Act.put, pA, pO, pS] at ha
  subst ha
  refine wl_nil (hK _ _ ?_)
  clear hK K
  refine wp_ret ?_
  exact fin_tmp S37 rfl rfl rfl
theorem laws_21 {Z : World → Prop} (hZ : Keeps Z) {x1 y1 z1 t1 x2 y2 z2 t2 x3 y3 z3 t3 a b : Nat} {r s t m n : ByteArray} {g i : Int} (H1 : Ret Z 9 #[.string r] (.tuple #[pv x1 y1 z1 t1, .int .i64 0])) (H2 : Ret Z 9 #[.string s] (.tuple #[pv x2 y2 z2 t2, .int .i64 0])) (H3 : Ret Z 9 #[.string t] (.tuple #[pv x3 y3 z3 t3, .int .i64 g])) (H4 : Ret Z 17 #[.string m] (.tuple #[wd a, .int .i64 0])) (H5 : Ret Z 17 #[.string n] (.tuple #[wd b, .int .i64 i])) (H6 : Ret Z 8 #[] (.bool true)) (hq1 : decide (g = 0) = false) (hq2 : decide (i = 0) = false) : Ret Z 6 #[.string r, .string s, .string t, .string m, .string n] (.bool true) := by
  intro w hw
  have S := St.refl hw
  go_enter Tryd.func6, Tryd.ntmps6
  refine wp_seq_k fun K hK => ?_
  refine wr_list ?_
  refine wl_pure (.bool false) rfl (fun _ => by kernel_rfl) ?_
  intro a' ha
  simp only [Act.put, pA, pO, pS] at ha
  subst ha
  refine wl_nil (hK _ _ ?_)
  clear hK K
  refine wp_seq_k fun K hK => ?_
  refine wr_list ?_
  refine wl_pure (.string r) rfl (fun _ => by kernel_rfl) ?_
  intro a' ha
  simp only [Act.put, pA, pO, pS] at ha
  subst ha
  refine wl_call hZ S H1 rfl (fun _ => by kernel_rfl) ?_
  intro W1 a' S2 ha
  simp only [Act.put, pA, pO, pS] at ha
  subst ha
  refine wl_pure (.tuple #[pv x1 y1 z1 t1, .int .i64 0]) rfl (fun _ => by kernel_rfl) ?_
  intro a' ha
  simp only [Act.put, pA, pO, pS] at ha
  subst ha
  refine wl_pure (pv x1 y1 z1 t1) rfl (fun _ => by kernel_rfl) ?_
  intro a' ha
  simp only [Act.put, pA, pO, pS] at ha
  subst ha
  refine wl_pure (.int .i64 0) rfl (fun _ => by kernel_rfl) ?_
  intro a' ha
  simp only [Act.put, pA, pO, pS] at ha
  subst ha
  refine wl_alloc S2 (q4 0 0 0 0) 29 rfl (fun _ => by kernel_rfl) ?_
  intro b3 W4 a' S5 ha
  simp only [Act.put, pA, pO, pS] at ha
  subst ha
  refine wl_store S5 0 b3 29 16 (.tmp 11) (.tmp 32) (q4 0 0 0 0) (q4 x1 y1 z1 t1) rfl rfl rfl rfl rfl row29 rfl rfl (q4_one _ _ _ _) ?_
  intro W6 a' S7 ha
  simp only [Act.put, pA, pO, pS] at ha
  subst ha
  refine wl_pure (.int .i64 0) rfl (fun _ => by kernel_rfl) ?_
  intro a' ha
  simp only [Act.put, pA, pO, pS] at ha
  subst ha
  refine wl_nil (hK _ _ ?_)
  clear hK K
  refine wp_seq_k fun K hK => ?_
  refine wr_list ?_
  refine wl_pure (.string s) rfl (fun _ => by kernel_rfl) ?_
  intro a' ha
  simp only [Act.put, pA, pO, pS] at ha
  subst ha
  refine wl_call hZ S7 H2 rfl (fun _ => by kernel_rfl) ?_
  intro W8 a' S9 ha
  simp only [Act.put, pA, pO, pS] at ha
  subst ha
  refine wl_pure (.tuple #[pv x2 y2 z2 t2, .int .i64 0]) rfl (fun _ => by kernel_rfl) ?_
  intro a' ha
  simp only [Act.put, pA, pO, pS] at ha
  subst ha
  refine wl_pure (pv x2 y2 z2 t2) rfl (fun _ => by kernel_rfl) ?_
  intro a' ha
  simp only [Act.put, pA, pO, pS] at ha
  subst ha
  refine wl_pure (.int .i64 0) rfl (fun _ => by kernel_rfl) ?_
  intro a' ha
  simp only [Act.put, pA, pO, pS] at ha
  subst ha
  refine wl_alloc S9 (q4 0 0 0 0) 29 rfl (fun _ => by kernel_rfl) ?_
  intro b10 W11 a' S12 ha
  simp only [Act.put, pA, pO, pS] at ha
  subst ha
  refine wl_store S12 0 b10 29 16 (.tmp 13) (.tmp 37) (q4 0 0 0 0) (q4 x2 y2 z2 t2) rfl rfl rfl rfl rfl row29 rfl rfl (q4_one _ _ _ _) ?_
  intro W13 a' S14 ha
  simp only [Act.put, pA, pO, pS] at ha
  subst ha
  refine wl_pure (.int .i64 0) rfl (fun _ => by kernel_rfl) ?_
  intro a' ha
  simp only [Act.put, pA, pO, pS] at ha
  subst ha
  refine wl_nil (hK _ _ ?_)
  clear hK K
  refine wp_seq_k fun K hK => ?_
  refine wr_list ?_
  refine wl_pure (.string t) rfl (fun _ => by kernel_rfl) ?_
  intro a' ha
  simp only [Act.put, pA, pO, pS] at ha
  subst ha
  refine wl_call hZ S14 H3 rfl (fun _ => by kernel_rfl) ?_
  intro W15 a' S16 ha
  simp only [Act.put, pA, pO, pS] at ha
  subst ha
  refine wl_pure (.tuple #[pv x3 y3 z3 t3, .int .i64 g]) rfl (fun _ => by kernel_rfl) ?_
  intro a' ha
  simp only [Act.put, pA, pO, pS] at ha
  subst ha
  refine wl_pure (pv x3 y3 z3 t3) rfl (fun _ => by kernel_rfl) ?_
  intro a' ha
  simp only [Act.put, pA, pO, pS] at ha
  subst ha
  refine wl_pure (.int .i64 g) rfl (fun _ => by kernel_rfl) ?_
  intro a' ha
  simp only [Act.put, pA, pO, pS] at ha
  subst ha
  refine wl_alloc S16 (q4 0 0 0 0) 29 rfl (fun _ => by kernel_rfl) ?_
  intro b17 W18 a' S19 ha
  simp only [Act.put, pA, pO, pS] at ha
  subst ha
  refine wl_store S19 0 b17 29 16 (.tmp 15) (.tmp 42) (q4 0 0 0 0) (q4 x3 y3 z3 t3) rfl rfl rfl rfl rfl row29 rfl rfl (q4_one _ _ _ _) ?_
  intro W20 a' S21 ha
  simp only [Act.put, pA, pO, pS] at ha
  subst ha
  refine wl_pure (.int .i64 g) rfl (fun _ => by kernel_rfl) ?_
  intro a' ha
  simp only [Act.put, pA, pO, pS] at ha
  subst ha
  refine wl_nil (hK _ _ ?_)
  clear hK K
  refine wp_seq_k fun K hK => ?_
  refine wp_seq_k fun K hK => ?_
  refine wr_list ?_
  refine wl_pure (.int .i64 0) rfl (fun _ => by kernel_rfl) ?_
  intro a' ha
  simp only [Act.put, pA, pO, pS] at ha
  subst ha
  refine wl_pure (.bool true) rfl (fun _ => by kernel_rfl) ?_
  intro a' ha
  simp only [Act.put, pA, pO, pS] at ha
  subst ha
  refine wl_pure (.bool true) rfl (fun _ => by kernel_rfl) ?_
  intro a' ha
  simp only [Act.put, pA, pO, pS] at ha
  subst ha
  refine wl_pure (.int .i64 0) (by kernel_rfl) (fun _ => by kernel_rfl) ?_
  intro a' ha
  simp only [Act.put, pA, pO, pS] at ha
  subst ha
  refine wl_pure (.bool true) (by kernel_rfl) (fun _ => by kernel_rfl) ?_
  intro a' ha
  simp only [Act.put, pA, pO, pS] at ha
  subst ha
  refine wl_pure (.bool true) rfl (fun _ => by kernel_rfl) ?_
  intro a' ha
  simp only [Act.put, pA, pO, pS] at ha
  subst ha
  refine wl_pure (.bool true) rfl (fun _ => by kernel_rfl) ?_
  intro a' ha
  simp only [Act.put, pA, pO, pS] at ha
  subst ha
  refine wl_pure (.int .i64 g) (by kernel_rfl) (fun _ => by kernel_rfl) ?_
  intro a' ha
  simp only [Act.put, pA, pO, pS] at ha
  subst ha
  refine wl_pure (.bool false) (by kernel_rfl) (fun _ => (show (execOp _ _).run Tryd.prog _ = .ok (.value (.bool (decide (g = 0)))) _ from by kernel_rfl).trans (by rw [hq1])) ?_
  intro a' ha
  simp only [Act.put, pA, pO, pS] at ha
  subst ha
  refine wl_pure (.bool false) rfl (fun _ => by kernel_rfl) ?_
  intro a' ha
  simp only [Act.put, pA, pO, pS] at ha
  subst ha
  refine wl_nil (hK _ _ ?_)
  clear hK K
  refine wp_cond_false rfl ?_
  refine wp_skip (hK _ _ ?_)
  clear hK K
  refine wp_seq_k fun K hK => ?_
  refine wr_list ?_
  refine wl_pure (.string m) rfl (fun _ => by kernel_rfl) ?_
  intro a' ha
  simp only [Act.put, pA, pO, pS] at ha
  subst ha
  refine wl_call hZ S21 H4 rfl (fun _ => by kernel_rfl) ?_
  intro W22 a' S23 ha
  simp only [Act.put, pA, pO, pS] at ha
  subst ha
  refine wl_pure (.tuple #[wd a, .int .i64 0]) rfl (fun _ => by kernel_rfl) ?_
  intro a' ha
  simp only [Act.put, pA, pO, pS] at ha
  subst ha
  refine wl_pure (wd a) rfl (fun _ => by kernel_rfl) ?_
  intro a' ha
  simp only [Act.put, pA, pO, pS] at ha
  subst ha
  refine wl_pure (.int .i64 0) rfl (fun _ => by kernel_rfl) ?_
  intro a' ha
  simp only [Act.put, pA, pO, pS] at ha
  subst ha
  refine wl_alloc S23 (e4 0) 46 rfl (fun _ => by kernel_rfl) ?_
  intro b24 W25 a' S26 ha
  simp only [Act.put, pA, pO, pS] at ha
  subst ha
  refine wl_store S26 0 b24 46 4 (.tmp 17) (.tmp 96) (e4 0) (e4 a) rfl rfl rfl rfl rfl row46 rfl rfl (e4_one _) ?_
  intro W27 a' S28 ha
  simp only [Act.put, pA, pO, pS] at ha
  subst ha
  refine wl_pure (.int .i64 0) rfl (fun _ => by kernel_rfl) ?_
  intro a' ha
  simp only [Act.put, pA, pO, pS] at ha
  subst ha
  refine wl_nil (hK _ _ ?_)
  clear hK K
  refine wp_seq_k fun K hK => ?_
  refine wr_list ?_
  refine wl_pure (.string n) rfl (fun _ => by kernel_rfl) ?_
  intro a' ha
  simp only [Act.put, pA, pO, pS] at ha
  subst ha
  refine wl_call hZ S28 H5 rfl (fun _ => by kernel_rfl) ?_
  intro W29 a' S30 ha
  simp only [Act.put, pA, pO, pS] at ha
  subst ha
  refine wl_pure (.tuple #[wd b, .int .i64 i]) rfl (fun _ => by kernel_rfl) ?_
  intro a' ha
  simp only [Act.put, pA, pO, pS] at ha
  subst ha
  refine wl_pure (wd b) rfl (fun _ => by kernel_rfl) ?_
  intro a' ha
  simp only [Act.put, pA, pO, pS] at ha
  subst ha
  refine wl_pure (.int .i64 i) rfl (fun _ => by kernel_rfl) ?_
  intro a' ha
  simp only [Act.put, pA, pO, pS] at ha
  subst ha
  refine wl_alloc S30 (e4 0) 46 rfl (fun _ => by kernel_rfl) ?_
  intro b31 W32 a' S33 ha
  simp only [Act.put, pA, pO, pS] at ha
  subst ha
  refine wl_store S33 0 b31 46 4 (.tmp 19) (.tmp 101) (e4 0) (e4 b) rfl rfl rfl rfl rfl row46 rfl rfl (e4_one _) ?_
  intro W34 a' S35 ha
  simp only [Act.put, pA, pO, pS] at ha
  subst ha
  refine wl_pure (.int .i64 i) rfl (fun _ => by kernel_rfl) ?_
  intro a' ha
  simp only [Act.put, pA, pO, pS] at ha
  subst ha
  refine wl_nil (hK _ _ ?_)
  clear hK K
  refine wp_seq_k fun K hK => ?_
  refine wp_seq_k fun K hK => ?_
  refine wr_list ?_
  refine wl_pure (.int .i64 0) rfl (fun _ => by kernel_rfl) ?_
  intro a' ha
  simp only [Act.put, pA, pO, pS] at ha
  subst ha
  refine wl_pure (.bool false) rfl (fun _ => by kernel_rfl) ?_
  intro a' ha
  simp only [Act.put, pA, pO, pS] at ha
  subst ha
  refine wl_pure (.bool false) rfl (fun _ => by kernel_rfl) ?_
  intro a' ha
  simp only [Act.put, pA, pO, pS] at ha
  subst ha
  refine wl_pure (.int .i64 i) (by kernel_rfl) (fun _ => by kernel_rfl) ?_
  intro a' ha
  simp only [Act.put, pA, pO, pS] at ha
  subst ha
  refine wl_pure (.bool true) (by kernel_rfl) (fun _ => (show (execOp _ _).run Tryd.prog _ = .ok (.value (.bool (!decide (i = 0)))) _ from by kernel_rfl).trans (by rw [hq2]; rfl)) ?_
  intro a' ha
  simp only [Act.put, pA, pO, pS] at ha
  subst ha
  refine wl_pure (.bool true) rfl (fun _ => by kernel_rfl) ?_
  intro a' ha
  simp only [Act.put, pA, pO, pS] at ha
  subst ha
  refine wl_nil (hK _ _ ?_)
  clear hK K
  refine wp_cond_true rfl ?_
  refine wp_seq_k fun K hK => ?_
  refine wr_list ?_
  refine wl_call hZ S35 H6 rfl (fun _ => by kernel_rfl) ?_
  intro W36 a' S37 ha
  simp only [Act.put, pA, pO, pS] at ha
  subst ha
  refine wl_pure (.bool true) rfl (fun _ => by kernel_rfl) ?_
  intro a' ha
  simp only [Act.put, pA, pO, pS] at ha
  subst ha
  refine wl_nil (hK _ _ ?_)
  clear hK K
  refine wp_ret ?_
  exact fin_tmp S37 rfl rfl rfl
end Go.Proofs.YtpdagpjjlnncbaaDoor
