/-
  EdwLaws: its walk, where all is read. No statement is proved here.
-/
import Derived.Test.YtpdagpjjlnncbaaDoorEdwS
namespace Go.Proofs.YtpdagpjjlnncbaaDoor
open Go.RowKit Go.Lib Go.BigFrame
set_option linter.unusedVariables false
set_option linter.unusedSimpArgs false
set_option maxRecDepth 1000000
set_option maxHeartbeats 4000000

theorem laws_yy {Z : World → Prop} (hZ : Keeps Z) {x1 y1 z1 t1 x2 y2 z2 t2 x3 y3 z3 t3 a b one less v1 v2 v3 v4 v5 v6 v7 v8 v9 v10 v11 v12 v13 v14 v15 v16 v17 v18 v19 v20 v21 v22 v23 v24 v25 v26 v27 v28 v29 v30 v31 v32 v33 v34 v35 v36 v37 v38 v39 v40 v41 v42 v43 v44 v45 v46 v47 v48 v49 v50 v51 v52 v53 v54 v55 v56 v57 v58 v59 v60 v61 v62 v63 v64 v65 v66 v67 v68 v69 v70 v71 v72 v73 v74 : Nat} {r s t m n : ByteArray} (H1 : Ret Z 9 #[.string r] (.tuple #[pv x1 y1 z1 t1, .int .i64 0])) (H2 : Ret Z 9 #[.string s] (.tuple #[pv x2 y2 z2 t2, .int .i64 0])) (H3 : Ret Z 9 #[.string t] (.tuple #[pv x3 y3 z3 t3, .int .i64 0])) (H4 : Ret Z 18 #[pv x1 y1 z1 t1, pv x2 y2 z2 t2] (pv v1 v2 v3 v4)) (H5 : Ret Z 18 #[pv x2 y2 z2 t2, pv x1 y1 z1 t1] (pv v5 v6 v7 v8)) (H6 : Ret Z 14 #[pv v1 v2 v3 v4, pv v5 v6 v7 v8] (.bool true)) (H7 : Ret Z 18 #[pv v1 v2 v3 v4, pv x3 y3 z3 t3] (pv v9 v10 v11 v12)) (H8 : Ret Z 18 #[pv x2 y2 z2 t2, pv x3 y3 z3 t3] (pv v13 v14 v15 v16)) (H9 : Ret Z 18 #[pv x1 y1 z1 t1, pv v13 v14 v15 v16] (pv v17 v18 v19 v20)) (H10 : Ret Z 14 #[pv v9 v10 v11 v12, pv v17 v18 v19 v20] (.bool true)) (H11 : Ret Z 25 #[] (pv v21 v22 v23 v24)) (H12 : Ret Z 18 #[pv x1 y1 z1 t1, pv v21 v22 v23 v24] (pv v25 v26 v27 v28)) (H13 : Ret Z 14 #[pv v25 v26 v27 v28, pv x1 y1 z1 t1] (.bool true)) (H14 : Ret Z 20 #[pv x1 y1 z1 t1] (pv v29 v30 v31 v32)) (H15 : Ret Z 18 #[pv x1 y1 z1 t1, pv x1 y1 z1 t1] (pv v33 v34 v35 v36)) (H16 : Ret Z 14 #[pv v29 v30 v31 v32, pv v33 v34 v35 v36] (.bool true)) (H17 : Ret Z 17 #[.string m] (.tuple #[wd a, .int .i64 0])) (H18 : Ret Z 17 #[.string n] (.tuple #[wd b, .int .i64 0])) (H19 : Ret Z 17 #[.string ((⟨#[1]⟩ : ByteArray) ++ ((zs 31) : ByteArray))] (.tuple #[wd one, .int .i64 0])) (H20 : Ret Z 17 #[.string ((((⟨#[236, 211, 245, 92, 26, 99, 18, 88, 214, 156, 247, 162, 222, 249, 222, 20]⟩ : ByteArray) ++ ((zs 15) : ByteArray)) : ByteArray) ++ (⟨#[16]⟩ : ByteArray))] (.tuple #[wd less, .int .i64 0])) (H21 : Ret Z 26 #[] (pv v37 v38 v39 v40)) (H22 : Ret Z 21 #[pv v37 v38 v39 v40, wd a, wd 0] (pv v41 v42 v43 v44)) (H23 : Ret Z 21 #[pv v37 v38 v39 v40, wd 0, wd b] (pv v45 v46 v47 v48)) (H24 : Ret Z 18 #[pv v41 v42 v43 v44, pv v45 v46 v47 v48] (pv v49 v50 v51 v52)) (H25 : Ret Z 21 #[pv v37 v38 v39 v40, wd a, wd b] (pv v53 v54 v55 v56)) (H26 : Ret Z 14 #[pv v49 v50 v51 v52, pv v53 v54 v55 v56] (.bool true)) (H27 : Ret Z 27 #[wd a, wd one, wd b] (wd v57)) (H28 : Ret Z 21 #[pv v37 v38 v39 v40, wd v57, wd 0] (pv v58 v59 v60 v61)) (H29 : Ret Z 14 #[pv v49 v50 v51 v52, pv v58 v59 v60 v61] (.bool true)) (H30 : Ret Z 21 #[pv v41 v42 v43 v44, wd b, wd 0] (pv v62 v63 v64 v65)) (H31 : Ret Z 27 #[wd a, wd b, wd 0] (wd v66)) (H32 : Ret Z 21 #[pv v37 v38 v39 v40, wd v66, wd 0] (pv v67 v68 v69 v70)) (H33 : Ret Z 14 #[pv v62 v63 v64 v65, pv v67 v68 v69 v70] (.bool true)) (H34 : Ret Z 21 #[pv v37 v38 v39 v40, wd less, wd one] (pv v71 v72 v73 v74)) (H35 : Ret Z 14 #[pv v71 v72 v73 v74, pv v21 v22 v23 v24] (.bool true)) (H36 : Ret Z 8 #[] (.bool true)) : Ret Z 6 #[.string r, .string s, .string t, .string m, .string n] (.bool true) := by
  intro w hw
  have S := St.refl hw
  go_enter Tryd.func6, Tryd.ntmps6
  refine wp_seq_k fun K hK => ?_
  refine wr_list ?_
  refine wl_pure (.bool false) rfl (fun _ => by kernel_rfl) ?_
  intro a' ha
  simp only [Act.put, pA, pO, pS] at ha
  subst ha
  refine wl_nil (hK _ _ ?_)
  clear hK K
  refine wp_seq_k fun K hK => ?_
  refine wr_list ?_
  refine wl_pure (.string r) rfl (fun _ => by kernel_rfl) ?_
  intro a' ha
  simp only [Act.put, pA, pO, pS] at ha
  subst ha
  refine wl_call hZ S H1 rfl (fun _ => by kernel_rfl) ?_
  intro W1 a' S2 ha
  simp only [Act.put, pA, pO, pS] at ha
  subst ha
  refine wl_pure (.tuple #[pv x1 y1 z1 t1, .int .i64 0]) rfl (fun _ => by kernel_rfl) ?_
  intro a' ha
  simp only [Act.put, pA, pO, pS] at ha
  subst ha
  refine wl_pure (pv x1 y1 z1 t1) rfl (fun _ => by kernel_rfl) ?_
  intro a' ha
  simp only [Act.put, pA, pO, pS] at ha
  subst ha
  refine wl_pure (.int .i64 0) rfl (fun _ => by kernel_rfl) ?_
  intro a' ha
  simp only [Act.put, pA, pO, pS] at ha
  subst ha
  refine wl_alloc S2 (q4 0 0 0 0) 29 rfl (fun _ => by kernel_rfl) ?_
  intro b3 W4 a' S5 ha
  simp only [Act.put, pA, pO, pS] at ha
  subst ha
  refine wl_store S5 0 b3 29 16 (.tmp 11) (.tmp 32) (q4 0 0 0 0) (q4 x1 y1 z1 t1) rfl rfl rfl rfl rfl row29 rfl rfl (q4_one _ _ _ _) ?_
  intro W6 a' S7 ha
  simp only [Act.put, pA, pO, pS] at ha
  subst ha
  refine wl_pure (.int .i64 0) rfl (fun _ => by kernel_rfl) ?_
  intro a' ha
  simp only [Act.put, pA, pO, pS] at ha
  subst ha
  refine wl_nil (hK _ _ ?_)
  clear hK K
  refine wp_seq_k fun K hK => ?_
  refine wr_list ?_
  refine wl_pure (.string s) rfl (fun _ => by kernel_rfl) ?_
  intro a' ha
  simp only [Act.put, pA, pO, pS] at ha
  subst ha
  refine wl_call hZ S7 H2 rfl (fun _ => by kernel_rfl) ?_
  intro W8 a' S9 ha
  simp only [Act.put, pA, pO, pS] at ha
  subst ha
  refine wl_pure (.tuple #[pv x2 y2 z2 t2, .int .i64 0]) rfl (fun _ => by kernel_rfl) ?_
  intro a' ha
  simp only [Act.put, pA, pO, pS] at ha
  subst ha
  refine wl_pure (pv x2 y2 z2 t2) rfl (fun _ => by kernel_rfl) ?_
  intro a' ha
  simp only [Act.put, pA, pO, pS] at ha
  subst ha
  refine wl_pure (.int .i64 0) rfl (fun _ => by kernel_rfl) ?_
  intro a' ha
  simp only [Act.put, pA, pO, pS] at ha
  subst ha
  refine wl_alloc S9 (q4 0 0 0 0) 29 rfl (fun _ => by kernel_rfl) ?_
  intro b10 W11 a' S12 ha
  simp only [Act.put, pA, pO, pS] at ha
  subst ha
  refine wl_store S12 0 b10 29 16 (.tmp 13) (.tmp 37) (q4 0 0 0 0) (q4 x2 y2 z2 t2) rfl rfl rfl rfl rfl row29 rfl rfl (q4_one _ _ _ _) ?_
  intro W13 a' S14 ha
  simp only [Act.put, pA, pO, pS] at ha
  subst ha
  refine wl_pure (.int .i64 0) rfl (fun _ => by kernel_rfl) ?_
  intro a' ha
  simp only [Act.put, pA, pO, pS] at ha
  subst ha
  refine wl_nil (hK _ _ ?_)
  clear hK K
  refine wp_seq_k fun K hK => ?_
  refine wr_list ?_
  refine wl_pure (.string t) rfl (fun _ => by kernel_rfl) ?_
  intro a' ha
  simp only [Act.put, pA, pO, pS] at ha
  subst ha
  refine wl_call hZ S14 H3 rfl (fun _ => by kernel_rfl) ?_
  intro W15 a' S16 ha
  simp only [Act.put, pA, pO, pS] at ha
  subst ha
  refine wl_pure (.tuple #[pv x3 y3 z3 t3, .int .i64 0]) rfl (fun _ => by kernel_rfl) ?_
  intro a' ha
  simp only [Act.put, pA, pO, pS] at ha
  subst ha
  refine wl_pure (pv x3 y3 z3 t3) rfl (fun _ => by kernel_rfl) ?_
  intro a' ha
  simp only [Act.put, pA, pO, pS] at ha
  subst ha
  refine wl_pure (.int .i64 0) rfl (fun _ => by kernel_rfl) ?_
  intro a' ha
  simp only [Act.put, pA, pO, pS] at ha
  subst ha
  refine wl_alloc S16 (q4 0 0 0 0) 29 rfl (fun _ => by kernel_rfl) ?_
  intro b17 W18 a' S19 ha
  simp only [Act.put, pA, pO, pS] at ha
  subst ha
  refine wl_store S19 0 b17 29 16 (.tmp 15) (.tmp 42) (q4 0 0 0 0) (q4 x3 y3 z3 t3) rfl rfl rfl rfl rfl row29 rfl rfl (q4_one _ _ _ _) ?_
  intro W20 a' S21 ha
  simp only [Act.put, pA, pO, pS] at ha
  subst ha
  refine wl_pure (.int .i64 0) rfl (fun _ => by kernel_rfl) ?_
  intro a' ha
  simp only [Act.put, pA, pO, pS] at ha
  subst ha
  refine wl_nil (hK _ _ ?_)
  clear hK K
  refine wp_seq_k fun K hK => ?_
  refine wp_seq_k fun K hK => ?_
  refine wr_list ?_
  refine wl_pure (.int .i64 0) rfl (fun _ => by kernel_rfl) ?_
  intro a' ha
  simp only [Act.put, pA, pO, pS] at ha
  subst ha
  refine wl_pure (.bool true) rfl (fun _ => by kernel_rfl) ?_
  intro a' ha
  simp only [Act.put, pA, pO, pS] at ha
  subst ha
  refine wl_pure (.bool true) rfl (fun _ => by kernel_rfl) ?_
  intro a' ha
  simp only [Act.put, pA, pO, pS] at ha
  subst ha
  refine wl_pure (.int .i64 0) (by kernel_rfl) (fun _ => by kernel_rfl) ?_
  intro a' ha
  simp only [Act.put, pA, pO, pS] at ha
  subst ha
  refine wl_pure (.bool true) (by kernel_rfl) (fun _ => by kernel_rfl) ?_
  intro a' ha
  simp only [Act.put, pA, pO, pS] at ha
  subst ha
  refine wl_pure (.bool true) rfl (fun _ => by kernel_rfl) ?_
  intro a' ha
  simp only [Act.put, pA, pO, pS] at ha
  subst ha
  refine wl_pure (.bool true) rfl (fun _ => by kernel_rfl) ?_
  intro a' ha
  simp only [Act.put, pA, pO, pS] at ha
  subst ha
  refine wl_pure (.int .i64 0) (by kernel_rfl) (fun _ => by kernel_rfl) ?_
  intro a' ha
  simp only [Act.put, pA, pO, pS] at ha
  subst ha
  refine wl_pure (.bool true) (by kernel_rfl) (fun _ => by kernel_rfl) ?_
  intro a' ha
  simp only [Act.put, pA, pO, pS] at ha
  subst ha
  refine wl_pure (.bool true) rfl (fun _ => by kernel_rfl) ?_
  intro a' ha
  simp only [Act.put, pA, pO, pS] at ha
  subst ha
  refine wl_nil (hK _ _ ?_)
  clear hK K
  refine wp_cond_true rfl ?_
  refine wp_seq_k fun K hK => ?_
  refine wr_ext S21 (by kernel_rfl) (by kernel_rfl) ?_
  refine wq_load S21 2 b3 0 29 16 (.tmp 11) (q4 x1 y1 z1 t1) (q4 x1 y1 z1 t1) rfl rfl rfl rfl (Sub.self _) row29 rfl ?_
  intro a' ha
  simp only [Act.put, pA, pO, pS] at ha
  subst ha
  refine wq_load S21 1 b10 0 29 16 (.tmp 13) (q4 x2 y2 z2 t2) (q4 x2 y2 z2 t2) rfl rfl rfl rfl (Sub.self _) row29 rfl ?_
  intro a' ha
  simp only [Act.put, pA, pO, pS] at ha
  subst ha
  refine wq_call hZ S21 H4 rfl (fun _ => by kernel_rfl) ?_
  intro a' ha
  simp only [Act.put, pA, pO, pS] at ha
  subst ha
  refine wq_load S21 1 b10 0 29 16 (.tmp 13) (q4 x2 y2 z2 t2) (q4 x2 y2 z2 t2) rfl rfl rfl rfl (Sub.self _) row29 rfl ?_
  intro a' ha
  simp only [Act.put, pA, pO, pS] at ha
  subst ha
  refine wq_load S21 2 b3 0 29 16 (.tmp 11) (q4 x1 y1 z1 t1) (q4 x1 y1 z1 t1) rfl rfl rfl rfl (Sub.self _) row29 rfl ?_
  intro a' ha
  simp only [Act.put, pA, pO, pS] at ha
  subst ha
  refine wq_call hZ S21 H5 rfl (fun _ => by kernel_rfl) ?_
  intro a' ha
  simp only [Act.put, pA, pO, pS] at ha
  subst ha
  refine wq_call hZ S21 H6 rfl (fun _ => by kernel_rfl) ?_
  intro a' ha
  simp only [Act.put, pA, pO, pS] at ha
  subst ha
  refine wq_pure (.bool false) rfl (fun _ => by kernel_rfl) ?_
  intro a' ha
  simp only [Act.put, pA, pO, pS] at ha
  subst ha
  refine wq_pure (.bool false) rfl (fun _ => by kernel_rfl) ?_
  intro a' ha
  simp only [Act.put, pA, pO, pS] at ha
  subst ha
  refine wq_load S21 2 b3 0 29 16 (.tmp 11) (q4 x1 y1 z1 t1) (q4 x1 y1 z1 t1) (by kernel_rfl) rfl rfl rfl (Sub.self _) row29 rfl ?_
  intro a' ha
  simp only [Act.put, pA, pO, pS] at ha
  subst ha
  refine wq_load S21 1 b10 0 29 16 (.tmp 13) (q4 x2 y2 z2 t2) (q4 x2 y2 z2 t2) (by kernel_rfl) rfl rfl rfl (Sub.self _) row29 rfl ?_
  intro a' ha
  simp only [Act.put, pA, pO, pS] at ha
  subst ha
  refine wq_call hZ S21 H4 (by kernel_rfl) (fun _ => by kernel_rfl) ?_
  intro a' ha
  simp only [Act.put, pA, pO, pS] at ha
  subst ha
  refine wq_load S21 0 b17 0 29 16 (.tmp 15) (q4 x3 y3 z3 t3) (q4 x3 y3 z3 t3) (by kernel_rfl) rfl rfl rfl (Sub.self _) row29 rfl ?_
  intro a' ha
  simp only [Act.put, pA, pO, pS] at ha
  subst ha
  refine wq_call hZ S21 H7 (by kernel_rfl) (fun _ => by kernel_rfl) ?_
  intro a' ha
  simp only [Act.put, pA, pO, pS] at ha
  subst ha
  refine wq_load S21 2 b3 0 29 16 (.tmp 11) (q4 x1 y1 z1 t1) (q4 x1 y1 z1 t1) (by kernel_rfl) rfl rfl rfl (Sub.self _) row29 rfl ?_
  intro a' ha
  simp only [Act.put, pA, pO, pS] at ha
  subst ha
  refine wq_load S21 1 b10 0 29 16 (.tmp 13) (q4 x2 y2 z2 t2) (q4 x2 y2 z2 t2) (by kernel_rfl) rfl rfl rfl (Sub.self _) row29 rfl ?_
  intro a' ha
  simp only [Act.put, pA, pO, pS] at ha
  subst ha
  refine wq_load S21 0 b17 0 29 16 (.tmp 15) (q4 x3 y3 z3 t3) (q4 x3 y3 z3 t3) (by kernel_rfl) rfl rfl rfl (Sub.self _) row29 rfl ?_
  intro a' ha
  simp only [Act.put, pA, pO, pS] at ha
  subst ha
  refine wq_call hZ S21 H8 (by kernel_rfl) (fun _ => by kernel_rfl) ?_
  intro a' ha
  simp only [Act.put, pA, pO, pS] at ha
  subst ha
  refine wq_call hZ S21 H9 (by kernel_rfl) (fun _ => by kernel_rfl) ?_
  intro a' ha
  simp only [Act.put, pA, pO, pS] at ha
  subst ha
  refine wq_call hZ S21 H10 (by kernel_rfl) (fun _ => by kernel_rfl) ?_
  intro a' ha
  simp only [Act.put, pA, pO, pS] at ha
  subst ha
  refine wq_pure (.bool false) (by kernel_rfl) (fun _ => by kernel_rfl) ?_
  intro a' ha
  simp only [Act.put, pA, pO, pS] at ha
  subst ha
  refine wq_pure (.bool false) rfl (fun _ => by kernel_rfl) ?_
  intro a' ha
  simp only [Act.put, pA, pO, pS] at ha
  subst ha
  refine wq_pure (.bool false) rfl (fun _ => by kernel_rfl) ?_
  intro a' ha
  simp only [Act.put, pA, pO, pS] at ha
  subst ha
  refine wq_load S21 2 b3 0 29 16 (.tmp 11) (q4 x1 y1 z1 t1) (q4 x1 y1 z1 t1) (by kernel_rfl) rfl rfl rfl (Sub.self _) row29 rfl ?_
  intro a' ha
  simp only [Act.put, pA, pO, pS] at ha
  subst ha
  refine wq_call hZ S21 H11 (by kernel_rfl) (fun _ => by kernel_rfl) ?_
  intro a' ha
  simp only [Act.put, pA, pO, pS] at ha
  subst ha
  refine wq_call hZ S21 H12 (by kernel_rfl) (fun _ => by kernel_rfl) ?_
  intro a' ha
  simp only [Act.put, pA, pO, pS] at ha
  subst ha
  refine wq_load S21 2 b3 0 29 16 (.tmp 11) (q4 x1 y1 z1 t1) (q4 x1 y1 z1 t1) (by kernel_rfl) rfl rfl rfl (Sub.self _) row29 rfl ?_
  intro a' ha
  simp only [Act.put, pA, pO, pS] at ha
  subst ha
  refine wq_call hZ S21 H13 (by kernel_rfl) (fun _ => by kernel_rfl) ?_
  intro a' ha
  simp only [Act.put, pA, pO, pS] at ha
  subst ha
  refine wq_pure (.bool false) (by kernel_rfl) (fun _ => by kernel_rfl) ?_
  intro a' ha
  simp only [Act.put, pA, pO, pS] at ha
  subst ha
  refine wq_pure (.bool false) rfl (fun _ => by kernel_rfl) ?_
  intro a' ha
  simp only [Act.put, pA, pO, pS] at ha
  subst ha
  refine wq_pure (.bool false) rfl (fun _ => by kernel_rfl) ?_
  intro a' ha
  simp only [Act.put, pA, pO, pS] at ha
  subst ha
  refine wq_load S21 2 b3 0 29 16 (.tmp 11) (q4 x1 y1 z1 t1) (q4 x1 y1 z1 t1) (by kernel_rfl) rfl rfl rfl (Sub.self _) row29 rfl ?_
  intro a' ha
  simp only [Act.put, pA, pO, pS] at ha
  subst ha
  refine wq_call hZ S21 H14 (by kernel_rfl) (fun _ => by kernel_rfl) ?_
  intro a' ha
  simp only [Act.put, pA, pO, pS] at ha
  subst ha
  refine wq_load S21 2 b3 0 29 16 (.tmp 11) (q4 x1 y1 z1 t1) (q4 x1 y1 z1 t1) (by kernel_rfl) rfl rfl rfl (Sub.self _) row29 rfl ?_
  intro a' ha
  simp only [Act.put, pA, pO, pS] at ha
  subst ha
  refine wq_load S21 2 b3 0 29 16 (.tmp 11) (q4 x1 y1 z1 t1) (q4 x1 y1 z1 t1) (by kernel_rfl) rfl rfl rfl (Sub.self _) row29 rfl ?_
  intro a' ha
  simp only [Act.put, pA, pO, pS] at ha
  subst ha
  refine wq_call hZ S21 H15 (by kernel_rfl) (fun _ => by kernel_rfl) ?_
  intro a' ha
  simp only [Act.put, pA, pO, pS] at ha
  subst ha
  refine wq_call hZ S21 H16 (by kernel_rfl) (fun _ => by kernel_rfl) ?_
  intro a' ha
  simp only [Act.put, pA, pO, pS] at ha
  subst ha
  refine wq_pure (.bool false) (by kernel_rfl) (fun _ => by kernel_rfl) ?_
  intro a' ha
  simp only [Act.put, pA, pO, pS] at ha
  subst ha
  refine wq_pure (.bool false) rfl (fun _ => by kernel_rfl) ?_
  intro a' ha
  simp only [Act.put, pA, pO, pS] at ha
  subst ha
  refine wq_nil ?_
  intro W22 S23
  refine hK _ _ ?_
  clear hK K
  refine wp_cond_false rfl ?_
  refine wp_skip (hK _ _ ?_)
  clear hK K
  refine wp_seq_k fun K hK => ?_
  refine wr_list ?_
  refine wl_pure (.string m) rfl (fun _ => by kernel_rfl) ?_
  intro a' ha
  simp only [Act.put, pA, pO, pS] at ha
  subst ha
  refine wl_call hZ S23 H17 rfl (fun _ => by kernel_rfl) ?_
  intro W24 a' S25 ha
  simp only [Act.put, pA, pO, pS] at ha
  subst ha
  refine wl_pure (.tuple #[wd a, .int .i64 0]) rfl (fun _ => by kernel_rfl) ?_
  intro a' ha
  simp only [Act.put, pA, pO, pS] at ha
  subst ha
  refine wl_pure (wd a) rfl (fun _ => by kernel_rfl) ?_
  intro a' ha
  simp only [Act.put, pA, pO, pS] at ha
  subst ha
  refine wl_pure (.int .i64 0) rfl (fun _ => by kernel_rfl) ?_
  intro a' ha
  simp only [Act.put, pA, pO, pS] at ha
  subst ha
  refine wl_alloc S25 (e4 0) 46 rfl (fun _ => by kernel_rfl) ?_
  intro b26 W27 a' S28 ha
  simp only [Act.put, pA, pO, pS] at ha
  subst ha
  refine wl_store S28 0 b26 46 4 (.tmp 17) (.tmp 96) (e4 0) (e4 a) rfl rfl rfl rfl rfl row46 rfl rfl (e4_one _) ?_
  intro W29 a' S30 ha
  simp only [Act.put, pA, pO, pS] at ha
  subst ha
  refine wl_pure (.int .i64 0) rfl (fun _ => by kernel_rfl) ?_
  intro a' ha
  simp only [Act.put, pA, pO, pS] at ha
  subst ha
  refine wl_nil (hK _ _ ?_)
  clear hK K
  refine wp_seq_k fun K hK => ?_
  refine wr_list ?_
  refine wl_pure (.string n) rfl (fun _ => by kernel_rfl) ?_
  intro a' ha
  simp only [Act.put, pA, pO, pS] at ha
  subst ha
  refine wl_call hZ S30 H18 rfl (fun _ => by kernel_rfl) ?_
  intro W31 a' S32 ha
  simp only [Act.put, pA, pO, pS] at ha
  subst ha
  refine wl_pure (.tuple #[wd b, .int .i64 0]) rfl (fun _ => by kernel_rfl) ?_
  intro a' ha
  simp only [Act.put, pA, pO, pS] at ha
  subst ha
  refine wl_pure (wd b) rfl (fun _ => by kernel_rfl) ?_
  intro a' ha
  simp only [Act.put, pA, pO, pS] at ha
  subst ha
  refine wl_pure (.int .i64 0) rfl (fun _ => by kernel_rfl) ?_
  intro a' ha
  simp only [Act.put, pA, pO, pS] at ha
  subst ha
  refine wl_alloc S32 (e4 0) 46 rfl (fun _ => by kernel_rfl) ?_
  intro b33 W34 a' S35 ha
  simp only [Act.put, pA, pO, pS] at ha
  subst ha
  refine wl_store S35 0 b33 46 4 (.tmp 19) (.tmp 101) (e4 0) (e4 b) rfl rfl rfl rfl rfl row46 rfl rfl (e4_one _) ?_
  intro W36 a' S37 ha
  simp only [Act.put, pA, pO, pS] at ha
  subst ha
  refine wl_pure (.int .i64 0) rfl (fun _ => by kernel_rfl) ?_
  intro a' ha
  simp only [Act.put, pA, pO, pS] at ha
  subst ha
  refine wl_nil (hK _ _ ?_)
  clear hK K
  refine wp_seq_k fun K hK => ?_
  refine wp_seq_k fun K hK => ?_
  refine wr_list ?_
  refine wl_pure (.int .i64 0) rfl (fun _ => by kernel_rfl) ?_
  intro a' ha
  simp only [Act.put, pA, pO, pS] at ha
  subst ha
  refine wl_pure (.bool false) rfl (fun _ => by kernel_rfl) ?_
  intro a' ha
  simp only [Act.put, pA, pO, pS] at ha
  subst ha
  refine wl_pure (.bool false) rfl (fun _ => by kernel_rfl) ?_
  intro a' ha
  simp only [Act.put, pA, pO, pS] at ha
  subst ha
  refine wl_pure (.int .i64 0) (by kernel_rfl) (fun _ => by kernel_rfl) ?_
  intro a' ha
  simp only [Act.put, pA, pO, pS] at ha
  subst ha
  refine wl_pure (.bool false) (by kernel_rfl) (fun _ => by kernel_rfl) ?_
  intro a' ha
  simp only [Act.put, pA, pO, pS] at ha
  subst ha
  refine wl_pure (.bool false) rfl (fun _ => by kernel_rfl) ?_
  intro a' ha
  simp only [Act.put, pA, pO, pS] at ha
  subst ha
  refine wl_nil (hK _ _ ?_)
  clear hK K
  refine wp_cond_false rfl ?_
  refine wp_skip (hK _ _ ?_)
  clear hK K
  refine wp_seq_k fun K hK => ?_
  refine wr_list ?_
  refine wl_make S37 31 rfl (fun _ => by kernel_rfl) ?_
  intro b38 W39 a' S40 ha
  simp only [Act.put, pA, pO, pS] at ha
  subst ha
  refine wl_textz S40 0 b38 31 (.tmp 111) rfl rfl rfl rfl ?_
  intro a' ha
  simp only [Act.put, pA, pO, pS] at ha
  subst ha
  refine wl_pure (.string ((⟨#[1]⟩ : ByteArray) ++ ((zs 31) : ByteArray))) rfl (fun _ => by kernel_rfl) ?_
  intro a' ha
  simp only [Act.put, pA, pO, pS] at ha
  subst ha
  refine wl_call hZ S40 H19 rfl (fun _ => by kernel_rfl) ?_
  intro W41 a' S42 ha
  simp only [Act.put, pA, pO, pS] at ha
  subst ha
  refine wl_pure (.tuple #[wd one, .int .i64 0]) rfl (fun _ => by kernel_rfl) ?_
  intro a' ha
  simp only [Act.put, pA, pO, pS] at ha
  subst ha
  refine wl_pure (wd one) rfl (fun _ => by kernel_rfl) ?_
  intro a' ha
  simp only [Act.put, pA, pO, pS] at ha
  subst ha
  refine wl_pure (.int .i64 0) rfl (fun _ => by kernel_rfl) ?_
  intro a' ha
  simp only [Act.put, pA, pO, pS] at ha
  subst ha
  refine wl_alloc S42 (e4 0) 46 rfl (fun _ => by kernel_rfl) ?_
  intro b43 W44 a' S45 ha
  simp only [Act.put, pA, pO, pS] at ha
  subst ha
  refine wl_store S45 0 b43 46 4 (.tmp 21) (.tmp 115) (e4 0) (e4 one) rfl rfl rfl rfl rfl row46 rfl rfl (e4_one _) ?_
  intro W46 a' S47 ha
  simp only [Act.put, pA, pO, pS] at ha
  subst ha
  refine wl_pure (.int .i64 0) rfl (fun _ => by kernel_rfl) ?_
  intro a' ha
  simp only [Act.put, pA, pO, pS] at ha
  subst ha
  refine wl_nil (hK _ _ ?_)
  clear hK K
  refine wp_seq_k fun K hK => ?_
  refine wr_list ?_
  refine wl_make S47 15 rfl (fun _ => by kernel_rfl) ?_
  intro b48 W49 a' S50 ha
  simp only [Act.put, pA, pO, pS] at ha
  subst ha
  refine wl_textz S50 0 b48 15 (.tmp 118) rfl rfl rfl rfl ?_
  intro a' ha
  simp only [Act.put, pA, pO, pS] at ha
  subst ha
  refine wl_pure (.string ((⟨#[236, 211, 245, 92, 26, 99, 18, 88, 214, 156, 247, 162, 222, 249, 222, 20]⟩ : ByteArray) ++ ((zs 15) : ByteArray))) rfl (fun _ => by kernel_rfl) ?_
  intro a' ha
  simp only [Act.put, pA, pO, pS] at ha
  subst ha
  refine wl_pure (.string ((((⟨#[236, 211, 245, 92, 26, 99, 18, 88, 214, 156, 247, 162, 222, 249, 222, 20]⟩ : ByteArray) ++ ((zs 15) : ByteArray)) : ByteArray) ++ (⟨#[16]⟩ : ByteArray))) rfl (fun _ => by kernel_rfl) ?_
  intro a' ha
  simp only [Act.put, pA, pO, pS] at ha
  subst ha
  refine wl_call hZ S50 H20 rfl (fun _ => by kernel_rfl) ?_
  intro W51 a' S52 ha
  simp only [Act.put, pA, pO, pS] at ha
  subst ha
  refine wl_pure (.tuple #[wd less, .int .i64 0]) rfl (fun _ => by kernel_rfl) ?_
  intro a' ha
  simp only [Act.put, pA, pO, pS] at ha
  subst ha
  refine wl_pure (wd less) rfl (fun _ => by kernel_rfl) ?_
  intro a' ha
  simp only [Act.put, pA, pO, pS] at ha
  subst ha
  refine wl_pure (.int .i64 0) rfl (fun _ => by kernel_rfl) ?_
  intro a' ha
  simp only [Act.put, pA, pO, pS] at ha
  subst ha
  refine wl_alloc S52 (e4 0) 46 rfl (fun _ => by kernel_rfl) ?_
  intro b53 W54 a' S55 ha
  simp only [Act.put, pA, pO, pS] at ha
  subst ha
  refine wl_store S55 0 b53 46 4 (.tmp 23) (.tmp 123) (e4 0) (e4 less) rfl rfl rfl rfl rfl row46 rfl rfl (e4_one _) ?_
  intro W56 a' S57 ha
  simp only [Act.put, pA, pO, pS] at ha
  subst ha
  refine wl_pure (.int .i64 0) rfl (fun _ => by kernel_rfl) ?_
  intro a' ha
  simp only [Act.put, pA, pO, pS] at ha
  subst ha
  refine wl_nil (hK _ _ ?_)
  clear hK K
  refine wp_seq_k fun K hK => ?_
  refine wr_list ?_
  refine wl_pure (.agg (e4 0)) rfl (fun _ => by kernel_rfl) ?_
  intro a' ha
  simp only [Act.put, pA, pO, pS] at ha
  subst ha
  refine wl_alloc S57 (e4 0) 46 rfl (fun _ => by kernel_rfl) ?_
  intro b58 W59 a' S60 ha
  simp only [Act.put, pA, pO, pS] at ha
  subst ha
  refine wl_store S60 0 b58 46 4 (.tmp 25) (.tmp 125) (e4 0) (e4 0) rfl rfl rfl rfl rfl row46 rfl rfl (e4_one _) ?_
  intro W61 a' S62 ha
  simp only [Act.put, pA, pO, pS] at ha
  subst ha
  refine wl_nil (hK _ _ ?_)
  clear hK K
  refine wp_seq_k fun K hK => ?_
  refine wr_list ?_
  refine wl_call hZ S62 H21 rfl (fun _ => by kernel_rfl) ?_
  intro W63 a' S64 ha
  simp only [Act.put, pA, pO, pS] at ha
  subst ha
  refine wl_alloc S64 (q4 0 0 0 0) 29 rfl (fun _ => by kernel_rfl) ?_
  intro b65 W66 a' S67 ha
  simp only [Act.put, pA, pO, pS] at ha
  subst ha
  refine wl_store S67 0 b65 29 16 (.tmp 26) (.tmp 126) (q4 0 0 0 0) (q4 v37 v38 v39 v40) rfl rfl rfl rfl rfl row29 rfl rfl (q4_one _ _ _ _) ?_
  intro W68 a' S69 ha
  simp only [Act.put, pA, pO, pS] at ha
  subst ha
  refine wl_nil (hK _ _ ?_)
  clear hK K
  refine wp_seq_k fun K hK => ?_
  refine wr_list ?_
  refine wl_load S69 0 b65 0 29 16 (.tmp 26) (q4 v37 v38 v39 v40) (q4 v37 v38 v39 v40) rfl rfl rfl rfl (Sub.self _) row29 rfl ?_
  intro a' ha
  simp only [Act.put, pA, pO, pS] at ha
  subst ha
  refine wl_load S69 7 b26 0 46 4 (.tmp 17) (e4 a) (e4 a) rfl rfl rfl rfl (Sub.self _) row46 rfl ?_
  intro a' ha
  simp only [Act.put, pA, pO, pS] at ha
  subst ha
  refine wl_load S69 1 b58 0 46 4 (.tmp 25) (e4 0) (e4 0) rfl rfl rfl rfl (Sub.self _) row46 rfl ?_
  intro a' ha
  simp only [Act.put, pA, pO, pS] at ha
  subst ha
  refine wl_call hZ S69 H22 rfl (fun _ => by kernel_rfl) ?_
  intro W70 a' S71 ha
  simp only [Act.put, pA, pO, pS] at ha
  subst ha
  refine wl_alloc S71 (q4 0 0 0 0) 29 rfl (fun _ => by kernel_rfl) ?_
  intro b72 W73 a' S74 ha
  simp only [Act.put, pA, pO, pS] at ha
  subst ha
  refine wl_store S74 0 b72 29 16 (.tmp 27) (.tmp 130) (q4 0 0 0 0) (q4 v41 v42 v43 v44) rfl rfl rfl rfl rfl row29 rfl rfl (q4_one _ _ _ _) ?_
  intro W75 a' S76 ha
  simp only [Act.put, pA, pO, pS] at ha
  subst ha
  refine wl_nil (hK _ _ ?_)
  clear hK K
  refine wp_seq_k fun K hK => ?_
  refine wr_list ?_
  refine wl_load S76 1 b65 0 29 16 (.tmp 26) (q4 v37 v38 v39 v40) (q4 v37 v38 v39 v40) rfl rfl rfl rfl (Sub.self _) row29 rfl ?_
  intro a' ha
  simp only [Act.put, pA, pO, pS] at ha
  subst ha
  refine wl_load S76 2 b58 0 46 4 (.tmp 25) (e4 0) (e4 0) rfl rfl rfl rfl (Sub.self _) row46 rfl ?_
  intro a' ha
  simp only [Act.put, pA, pO, pS] at ha
  subst ha
  refine wl_load S76 7 b33 0 46 4 (.tmp 19) (e4 b) (e4 b) rfl rfl rfl rfl (Sub.self _) row46 rfl ?_
  intro a' ha
  simp only [Act.put, pA, pO, pS] at ha
  subst ha
  refine wl_call hZ S76 H23 rfl (fun _ => by kernel_rfl) ?_
  intro W77 a' S78 ha
  simp only [Act.put, pA, pO, pS] at ha
  subst ha
  refine wl_alloc S78 (q4 0 0 0 0) 29 rfl (fun _ => by kernel_rfl) ?_
  intro b79 W80 a' S81 ha
  simp only [Act.put, pA, pO, pS] at ha
  subst ha
  refine wl_store S81 0 b79 29 16 (.tmp 28) (.tmp 134) (q4 0 0 0 0) (q4 v45 v46 v47 v48) rfl rfl rfl rfl rfl row29 rfl rfl (q4_one _ _ _ _) ?_
  intro W82 a' S83 ha
  simp only [Act.put, pA, pO, pS] at ha
  subst ha
  refine wl_nil (hK _ _ ?_)
  clear hK K
  refine wp_seq_k fun K hK => ?_
  refine wr_ext S83 (by kernel_rfl) (by kernel_rfl) ?_
  refine wq_load S83 1 b72 0 29 16 (.tmp 27) (q4 v41 v42 v43 v44) (q4 v41 v42 v43 v44) rfl rfl rfl rfl (Sub.self _) row29 rfl ?_
  intro a' ha
  simp only [Act.put, pA, pO, pS] at ha
  subst ha
  refine wq_load S83 0 b79 0 29 16 (.tmp 28) (q4 v45 v46 v47 v48) (q4 v45 v46 v47 v48) rfl rfl rfl rfl (Sub.self _) row29 rfl ?_
  intro a' ha
  simp only [Act.put, pA, pO, pS] at ha
  subst ha
  refine wq_call hZ S83 H24 rfl (fun _ => by kernel_rfl) ?_
  intro a' ha
  simp only [Act.put, pA, pO, pS] at ha
  subst ha
  refine wq_load S83 2 b65 0 29 16 (.tmp 26) (q4 v37 v38 v39 v40) (q4 v37 v38 v39 v40) rfl rfl rfl rfl (Sub.self _) row29 rfl ?_
  intro a' ha
  simp only [Act.put, pA, pO, pS] at ha
  subst ha
  refine wq_load S83 9 b26 0 46 4 (.tmp 17) (e4 a) (e4 a) rfl rfl rfl rfl (Sub.self _) row46 rfl ?_
  intro a' ha
  simp only [Act.put, pA, pO, pS] at ha
  subst ha
  refine wq_load S83 8 b33 0 46 4 (.tmp 19) (e4 b) (e4 b) rfl rfl rfl rfl (Sub.self _) row46 rfl ?_
  intro a' ha
  simp only [Act.put, pA, pO, pS] at ha
  subst ha
  refine wq_call hZ S83 H25 rfl (fun _ => by kernel_rfl) ?_
  intro a' ha
  simp only [Act.put, pA, pO, pS] at ha
  subst ha
  refine wq_call hZ S83 H26 rfl (fun _ => by kernel_rfl) ?_
  intro a' ha
  simp only [Act.put, pA, pO, pS] at ha
  subst ha
  refine wq_pure (.bool true) rfl (fun _ => by kernel_rfl) ?_
  intro a' ha
  simp only [Act.put, pA, pO, pS] at ha
  subst ha
  refine wq_load S83 1 b72 0 29 16 (.tmp 27) (q4 v41 v42 v43 v44) (q4 v41 v42 v43 v44) (by kernel_rfl) rfl rfl rfl (Sub.self _) row29 rfl ?_
  intro a' ha
  simp only [Act.put, pA, pO, pS] at ha
  subst ha
  refine wq_load S83 0 b79 0 29 16 (.tmp 28) (q4 v45 v46 v47 v48) (q4 v45 v46 v47 v48) (by kernel_rfl) rfl rfl rfl (Sub.self _) row29 rfl ?_
  intro a' ha
  simp only [Act.put, pA, pO, pS] at ha
  subst ha
  refine wq_call hZ S83 H24 (by kernel_rfl) (fun _ => by kernel_rfl) ?_
  intro a' ha
  simp only [Act.put, pA, pO, pS] at ha
  subst ha
  refine wq_load S83 2 b65 0 29 16 (.tmp 26) (q4 v37 v38 v39 v40) (q4 v37 v38 v39 v40) (by kernel_rfl) rfl rfl rfl (Sub.self _) row29 rfl ?_
  intro a' ha
  simp only [Act.put, pA, pO, pS] at ha
  subst ha
  refine wq_load S83 9 b26 0 46 4 (.tmp 17) (e4 a) (e4 a) (by kernel_rfl) rfl rfl rfl (Sub.self _) row46 rfl ?_
  intro a' ha
  simp only [Act.put, pA, pO, pS] at ha
  subst ha
  refine wq_load S83 6 b43 0 46 4 (.tmp 21) (e4 one) (e4 one) (by kernel_rfl) rfl rfl rfl (Sub.self _) row46 rfl ?_
  intro a' ha
  simp only [Act.put, pA, pO, pS] at ha
  subst ha
  refine wq_load S83 8 b33 0 46 4 (.tmp 19) (e4 b) (e4 b) (by kernel_rfl) rfl rfl rfl (Sub.self _) row46 rfl ?_
  intro a' ha
  simp only [Act.put, pA, pO, pS] at ha
  subst ha
  refine wq_call hZ S83 H27 (by kernel_rfl) (fun _ => by kernel_rfl) ?_
  intro a' ha
  simp only [Act.put, pA, pO, pS] at ha
  subst ha
  refine wq_load S83 3 b58 0 46 4 (.tmp 25) (e4 0) (e4 0) (by kernel_rfl) rfl rfl rfl (Sub.self _) row46 rfl ?_
  intro a' ha
  simp only [Act.put, pA, pO, pS] at ha
  subst ha
  refine wq_call hZ S83 H28 (by kernel_rfl) (fun _ => by kernel_rfl) ?_
  intro a' ha
  simp only [Act.put, pA, pO, pS] at ha
  subst ha
  refine wq_call hZ S83 H29 (by kernel_rfl) (fun _ => by kernel_rfl) ?_
  intro a' ha
  simp only [Act.put, pA, pO, pS] at ha
  subst ha
  refine wq_pure (.bool true) rfl (fun _ => by kernel_rfl) ?_
  intro a' ha
  simp only [Act.put, pA, pO, pS] at ha
  subst ha
  refine wq_pure (.bool true) rfl (fun _ => by kernel_rfl) ?_
  intro a' ha
  simp only [Act.put, pA, pO, pS] at ha
  subst ha
  refine wq_load S83 1 b72 0 29 16 (.tmp 27) (q4 v41 v42 v43 v44) (q4 v41 v42 v43 v44) (by kernel_rfl) rfl rfl rfl (Sub.self _) row29 rfl ?_
  intro a' ha
  simp only [Act.put, pA, pO, pS] at ha
  subst ha
  refine wq_load S83 8 b33 0 46 4 (.tmp 19) (e4 b) (e4 b) (by kernel_rfl) rfl rfl rfl (Sub.self _) row46 rfl ?_
  intro a' ha
  simp only [Act.put, pA, pO, pS] at ha
  subst ha
  refine wq_load S83 3 b58 0 46 4 (.tmp 25) (e4 0) (e4 0) (by kernel_rfl) rfl rfl rfl (Sub.self _) row46 rfl ?_
  intro a' ha
  simp only [Act.put, pA, pO, pS] at ha
  subst ha
  refine wq_call hZ S83 H30 (by kernel_rfl) (fun _ => by kernel_rfl) ?_
  intro a' ha
  simp only [Act.put, pA, pO, pS] at ha
  subst ha
  refine wq_load S83 2 b65 0 29 16 (.tmp 26) (q4 v37 v38 v39 v40) (q4 v37 v38 v39 v40) (by kernel_rfl) rfl rfl rfl (Sub.self _) row29 rfl ?_
  intro a' ha
  simp only [Act.put, pA, pO, pS] at ha
  subst ha
  refine wq_load S83 9 b26 0 46 4 (.tmp 17) (e4 a) (e4 a) (by kernel_rfl) rfl rfl rfl (Sub.self _) row46 rfl ?_
  intro a' ha
  simp only [Act.put, pA, pO, pS] at ha
  subst ha
  refine wq_load S83 8 b33 0 46 4 (.tmp 19) (e4 b) (e4 b) (by kernel_rfl) rfl rfl rfl (Sub.self _) row46 rfl ?_
  intro a' ha
  simp only [Act.put, pA, pO, pS] at ha
  subst ha
  refine wq_load S83 3 b58 0 46 4 (.tmp 25) (e4 0) (e4 0) (by kernel_rfl) rfl rfl rfl (Sub.self _) row46 rfl ?_
  intro a' ha
  simp only [Act.put, pA, pO, pS] at ha
  subst ha
  refine wq_call hZ S83 H31 (by kernel_rfl) (fun _ => by kernel_rfl) ?_
  intro a' ha
  simp only [Act.put, pA, pO, pS] at ha
  subst ha
  refine wq_load S83 3 b58 0 46 4 (.tmp 25) (e4 0) (e4 0) (by kernel_rfl) rfl rfl rfl (Sub.self _) row46 rfl ?_
  intro a' ha
  simp only [Act.put, pA, pO, pS] at ha
  subst ha
  refine wq_call hZ S83 H32 (by kernel_rfl) (fun _ => by kernel_rfl) ?_
  intro a' ha
  simp only [Act.put, pA, pO, pS] at ha
  subst ha
  refine wq_call hZ S83 H33 (by kernel_rfl) (fun _ => by kernel_rfl) ?_
  intro a' ha
  simp only [Act.put, pA, pO, pS] at ha
  subst ha
  refine wq_pure (.bool true) rfl (fun _ => by kernel_rfl) ?_
  intro a' ha
  simp only [Act.put, pA, pO, pS] at ha
  subst ha
  refine wq_pure (.bool true) rfl (fun _ => by kernel_rfl) ?_
  intro a' ha
  simp only [Act.put, pA, pO, pS] at ha
  subst ha
  refine wq_load S83 2 b65 0 29 16 (.tmp 26) (q4 v37 v38 v39 v40) (q4 v37 v38 v39 v40) (by kernel_rfl) rfl rfl rfl (Sub.self _) row29 rfl ?_
  intro a' ha
  simp only [Act.put, pA, pO, pS] at ha
  subst ha
  refine wq_load S83 4 b53 0 46 4 (.tmp 23) (e4 less) (e4 less) (by kernel_rfl) rfl rfl rfl (Sub.self _) row46 rfl ?_
  intro a' ha
  simp only [Act.put, pA, pO, pS] at ha
  subst ha
  refine wq_load S83 6 b43 0 46 4 (.tmp 21) (e4 one) (e4 one) (by kernel_rfl) rfl rfl rfl (Sub.self _) row46 rfl ?_
  intro a' ha
  simp only [Act.put, pA, pO, pS] at ha
  subst ha
  refine wq_call hZ S83 H34 (by kernel_rfl) (fun _ => by kernel_rfl) ?_
  intro a' ha
  simp only [Act.put, pA, pO, pS] at ha
  subst ha
  refine wq_call hZ S83 H11 (by kernel_rfl) (fun _ => by kernel_rfl) ?_
  intro a' ha
  simp only [Act.put, pA, pO, pS] at ha
  subst ha
  refine wq_call hZ S83 H35 (by kernel_rfl) (fun _ => by kernel_rfl) ?_
  intro a' ha
  simp only [Act.put, pA, pO, pS] at ha
  subst ha
  refine wq_pure (.bool true) rfl (fun _ => by kernel_rfl) ?_
  intro a' ha
  simp only [Act.put, pA, pO, pS] at ha
  subst ha
  refine wq_pure (.bool true) rfl (fun _ => by kernel_rfl) ?_
  intro a' ha
  simp only [Act.put, pA, pO, pS] at ha
  subst ha
  refine wq_call hZ S83 H36 (by kernel_rfl) (fun _ => by kernel_rfl) ?_
  intro a' ha
  simp only [Act.put, pA, pO, pS] at ha
  subst ha
  refine wq_pure (.bool true) rfl (fun _ => by kernel_rfl) ?_
  intro a' ha
  simp only [Act.put, pA, pO, pS] at ha
  subst ha
  refine wq_pure (.bool true) rfl (fun _ => by kernel_rfl) ?_
  intro a' ha
  simp only [Act.put, pA, pO, pS] at ha
  subst ha
  refine wq_nil ?_
  intro W84 S85
  refine hK _ _ ?_
  clear hK K
  refine wp_ret ?_
  exact fin_tmp S85 rfl rfl rfl
end Go.Proofs.YtpdagpjjlnncbaaDoor
