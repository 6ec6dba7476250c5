/-
  The law's alive and EdwNone: walks. No statement is proved here.
-/
import Derived.Test.YtpdagpjjlnncbaaDoorEdwE
namespace Go.Proofs.YtpdagpjjlnncbaaDoor
open Go.RowKit Go.Lib Go.BigFrame
set_option linter.unusedVariables false
set_option linter.unusedSimpArgs false
set_option maxRecDepth 1000000
set_option maxHeartbeats 4000000

theorem alive_r {Z : World → Prop} (hZ : Keeps Z) {v1 v2 v3 v4 v5 v6 v7 v8 v9 v10 v11 v12 v13 v14 v15 v16 v17 v18 v19 : Nat} {s t : ByteArray} {x1 y1 z1 t1 : Nat} (ht : t.size = 32) (H1 : Ret Z 26 #[] (pv v1 v2 v3 v4)) (H2 : Ret Z 13 #[pv v1 v2 v3 v4] (.string s)) (H3 : Ret Z 9 #[.string s] (.tuple #[pv x1 y1 z1 t1, .int .i64 0])) (H4 : Ret Z 9 #[.string ⟨#[115, 104, 111, 114, 116]⟩] (.tuple #[pv 0 0 0 0, .int .i64 2])) (H5 : Ret Z 25 #[] (pv v5 v6 v7 v8)) (H6 : Ret Z 13 #[pv v5 v6 v7 v8] (.string t)) (H7 : Ret Z 14 #[pv x1 y1 z1 t1, pv v1 v2 v3 v4] (.bool true)) (H8 : Ret Z 20 #[pv v1 v2 v3 v4] (pv v9 v10 v11 v12)) (H9 : Ret Z 18 #[pv v1 v2 v3 v4, pv v1 v2 v3 v4] (pv v13 v14 v15 v16)) (H10 : Ret Z 14 #[pv v9 v10 v11 v12, pv v13 v14 v15 v16] (.bool true)) (H11 : Ret Z 14 #[pv v1 v2 v3 v4, pv v5 v6 v7 v8] (.bool false)) (H12 : Ret Z 13 #[pv 0 0 0 0] (.string ⟨#[]⟩)) (H13 : Ret Z 28 #[] (rp v17 v18 v19)) (H14 : Ret Z 29 #[rp v17 v18 v19] (.string s)) (hq1 : decide ((t.size : Int) = 32) = true) (hq2 : decide ((bys t 0) = 1) = true) (hq3 : ((⟨#[]⟩ : ByteArray).toList == (⟨#[]⟩ : ByteArray).toList) = true) (hq4 : ((s : ByteArray).toList == (s : ByteArray).toList) = true) : Ret Z 8 #[] (.bool true) := by
  intro w hw
  have S := St.refl hw
  go_enter Tryd.func8, Tryd.ntmps8
  refine wp_seq_k fun K hK => ?_
  refine wr_list ?_
  refine wl_pure (.bool false) rfl (fun _ => by kernel_rfl) ?_
  intro a' ha
  simp only [Act.put, List.setIfInBounds_toArray, List.set_cons_zero, List.set_cons_succ] at ha
  subst ha
  refine wl_nil (hK _ _ ?_)
  clear hK K
  refine wp_seq_k fun K hK => ?_
  refine wr_list ?_
  refine wl_call hZ S H1 rfl (fun _ => by kernel_rfl) ?_
  intro W1 a' S2 ha
  simp only [Act.put, List.setIfInBounds_toArray, List.set_cons_zero, List.set_cons_succ] at ha
  subst ha
  refine wl_alloc S2 (q4 0 0 0 0) 29 rfl (fun _ => by kernel_rfl) ?_
  intro b3 W4 a' S5 ha
  simp only [Act.put, List.setIfInBounds_toArray, List.set_cons_zero, List.set_cons_succ] at ha
  subst ha
  refine wl_store S5 0 b3 29 16 (.tmp 1) (.tmp 7) (q4 0 0 0 0) (q4 v1 v2 v3 v4) rfl rfl rfl rfl rfl row29 rfl rfl (q4_one _ _ _ _) ?_
  intro W6 a' S7 ha
  simp only [Act.put, List.setIfInBounds_toArray, List.set_cons_zero, List.set_cons_succ] at ha
  subst ha
  refine wl_nil (hK _ _ ?_)
  clear hK K
  refine wp_seq_k fun K hK => ?_
  refine wr_list ?_
  refine wl_load S7 0 b3 0 29 16 (.tmp 1) (q4 v1 v2 v3 v4) (q4 v1 v2 v3 v4) rfl rfl rfl rfl (Sub.self _) row29 rfl ?_
  intro a' ha
  simp only [Act.put, List.setIfInBounds_toArray, List.set_cons_zero, List.set_cons_succ] at ha
  subst ha
  refine wl_call hZ S7 H2 rfl (fun _ => by kernel_rfl) ?_
  intro W8 a' S9 ha
  simp only [Act.put, List.setIfInBounds_toArray, List.set_cons_zero, List.set_cons_succ] at ha
  subst ha
  refine wl_call hZ S9 H3 rfl (fun _ => by kernel_rfl) ?_
  intro W10 a' S11 ha
  simp only [Act.put, List.setIfInBounds_toArray, List.set_cons_zero, List.set_cons_succ] at ha
  subst ha
  refine wl_pure (.tuple #[pv x1 y1 z1 t1, .int .i64 0]) rfl (fun _ => by kernel_rfl) ?_
  intro a' ha
  simp only [Act.put, List.setIfInBounds_toArray, List.set_cons_zero, List.set_cons_succ] at ha
  subst ha
  refine wl_pure (pv x1 y1 z1 t1) rfl (fun _ => by kernel_rfl) ?_
  intro a' ha
  simp only [Act.put, List.setIfInBounds_toArray, List.set_cons_zero, List.set_cons_succ] at ha
  subst ha
  refine wl_pure (.int .i64 0) rfl (fun _ => by kernel_rfl) ?_
  intro a' ha
  simp only [Act.put, List.setIfInBounds_toArray, List.set_cons_zero, List.set_cons_succ] at ha
  subst ha
  refine wl_alloc S11 (q4 0 0 0 0) 29 rfl (fun _ => by kernel_rfl) ?_
  intro b12 W13 a' S14 ha
  simp only [Act.put, List.setIfInBounds_toArray, List.set_cons_zero, List.set_cons_succ] at ha
  subst ha
  refine wl_store S14 0 b12 29 16 (.tmp 2) (.tmp 12) (q4 0 0 0 0) (q4 x1 y1 z1 t1) rfl rfl rfl rfl rfl row29 rfl rfl (q4_one _ _ _ _) ?_
  intro W15 a' S16 ha
  simp only [Act.put, List.setIfInBounds_toArray, List.set_cons_zero, List.set_cons_succ] at ha
  subst ha
  refine wl_pure (.int .i64 0) rfl (fun _ => by kernel_rfl) ?_
  intro a' ha
  simp only [Act.put, List.setIfInBounds_toArray, List.set_cons_zero, List.set_cons_succ] at ha
  subst ha
  refine wl_nil (hK _ _ ?_)
  clear hK K
  refine wp_seq_k fun K hK => ?_
  refine wr_list ?_
  refine wl_call hZ S16 H4 rfl (fun _ => by kernel_rfl) ?_
  intro W17 a' S18 ha
  simp only [Act.put, List.setIfInBounds_toArray, List.set_cons_zero, List.set_cons_succ] at ha
  subst ha
  refine wl_pure (.tuple #[pv 0 0 0 0, .int .i64 2]) rfl (fun _ => by kernel_rfl) ?_
  intro a' ha
  simp only [Act.put, List.setIfInBounds_toArray, List.set_cons_zero, List.set_cons_succ] at ha
  subst ha
  refine wl_pure (pv 0 0 0 0) rfl (fun _ => by kernel_rfl) ?_
  intro a' ha
  simp only [Act.put, List.setIfInBounds_toArray, List.set_cons_zero, List.set_cons_succ] at ha
  subst ha
  refine wl_pure (.int .i64 2) rfl (fun _ => by kernel_rfl) ?_
  intro a' ha
  simp only [Act.put, List.setIfInBounds_toArray, List.set_cons_zero, List.set_cons_succ] at ha
  subst ha
  refine wl_alloc S18 (q4 0 0 0 0) 29 rfl (fun _ => by kernel_rfl) ?_
  intro b19 W20 a' S21 ha
  simp only [Act.put, List.setIfInBounds_toArray, List.set_cons_zero, List.set_cons_succ] at ha
  subst ha
  refine wl_store S21 0 b19 29 16 (.tmp 4) (.tmp 16) (q4 0 0 0 0) (q4 0 0 0 0) rfl rfl rfl rfl rfl row29 rfl rfl (q4_one _ _ _ _) ?_
  intro W22 a' S23 ha
  simp only [Act.put, List.setIfInBounds_toArray, List.set_cons_zero, List.set_cons_succ] at ha
  subst ha
  refine wl_pure (.int .i64 2) rfl (fun _ => by kernel_rfl) ?_
  intro a' ha
  simp only [Act.put, List.setIfInBounds_toArray, List.set_cons_zero, List.set_cons_succ] at ha
  subst ha
  refine wl_nil (hK _ _ ?_)
  clear hK K
  refine wp_seq_k fun K hK => ?_
  refine wr_list ?_
  refine wl_call hZ S23 H5 rfl (fun _ => by kernel_rfl) ?_
  intro W24 a' S25 ha
  simp only [Act.put, List.setIfInBounds_toArray, List.set_cons_zero, List.set_cons_succ] at ha
  subst ha
  refine wl_call hZ S25 H6 rfl (fun _ => by kernel_rfl) ?_
  intro W26 a' S27 ha
  simp only [Act.put, List.setIfInBounds_toArray, List.set_cons_zero, List.set_cons_succ] at ha
  subst ha
  refine wl_pure (.string t) rfl (fun _ => by kernel_rfl) ?_
  intro a' ha
  simp only [Act.put, List.setIfInBounds_toArray, List.set_cons_zero, List.set_cons_succ] at ha
  subst ha
  refine wl_nil (hK _ _ ?_)
  clear hK K
  refine wp_seq_k fun K hK => ?_
  refine wr_ext S27 (by kernel_rfl) (by kernel_rfl) ?_
  refine wq_pure (.int .i64 0) rfl (fun _ => by kernel_rfl) ?_
  intro a' ha
  simp only [Act.put, List.setIfInBounds_toArray, List.set_cons_zero, List.set_cons_succ] at ha
  subst ha
  refine wq_pure (.bool true) rfl (fun _ => by kernel_rfl) ?_
  intro a' ha
  simp only [Act.put, List.setIfInBounds_toArray, List.set_cons_zero, List.set_cons_succ] at ha
  subst ha
  refine wq_pure (.bool true) rfl (fun _ => by kernel_rfl) ?_
  intro a' ha
  simp only [Act.put, List.setIfInBounds_toArray, List.set_cons_zero, List.set_cons_succ] at ha
  subst ha
  refine wq_load S27 1 b12 0 29 16 (.tmp 2) (q4 x1 y1 z1 t1) (q4 x1 y1 z1 t1) (by kernel_rfl) rfl rfl rfl (Sub.self _) row29 rfl ?_
  intro a' ha
  simp only [Act.put, List.setIfInBounds_toArray, List.set_cons_zero, List.set_cons_succ] at ha
  subst ha
  refine wq_load S27 2 b3 0 29 16 (.tmp 1) (q4 v1 v2 v3 v4) (q4 v1 v2 v3 v4) (by kernel_rfl) rfl rfl rfl (Sub.self _) row29 rfl ?_
  intro a' ha
  simp only [Act.put, List.setIfInBounds_toArray, List.set_cons_zero, List.set_cons_succ] at ha
  subst ha
  refine wq_call hZ S27 H7 (by kernel_rfl) (fun _ => by kernel_rfl) ?_
  intro a' ha
  simp only [Act.put, List.setIfInBounds_toArray, List.set_cons_zero, List.set_cons_succ] at ha
  subst ha
  refine wq_pure (.bool true) rfl (fun _ => by kernel_rfl) ?_
  intro a' ha
  simp only [Act.put, List.setIfInBounds_toArray, List.set_cons_zero, List.set_cons_succ] at ha
  subst ha
  refine wq_pure (.bool true) rfl (fun _ => by kernel_rfl) ?_
  intro a' ha
  simp only [Act.put, List.setIfInBounds_toArray, List.set_cons_zero, List.set_cons_succ] at ha
  subst ha
  refine wq_pure (.int .i64 2) (by kernel_rfl) (fun _ => by kernel_rfl) ?_
  intro a' ha
  simp only [Act.put, List.setIfInBounds_toArray, List.set_cons_zero, List.set_cons_succ] at ha
  subst ha
  refine wq_pure (.bool true) (by kernel_rfl) (fun _ => by kernel_rfl) ?_
  intro a' ha
  simp only [Act.put, List.setIfInBounds_toArray, List.set_cons_zero, List.set_cons_succ] at ha
  subst ha
  refine wq_pure (.bool true) rfl (fun _ => by kernel_rfl) ?_
  intro a' ha
  simp only [Act.put, List.setIfInBounds_toArray, List.set_cons_zero, List.set_cons_succ] at ha
  subst ha
  refine wq_pure (.bool true) rfl (fun _ => by kernel_rfl) ?_
  intro a' ha
  simp only [Act.put, List.setIfInBounds_toArray, List.set_cons_zero, List.set_cons_succ] at ha
  subst ha
  refine wq_pure (.string t) (by kernel_rfl) (fun _ => by kernel_rfl) ?_
  intro a' ha
  simp only [Act.put, List.setIfInBounds_toArray, List.set_cons_zero, List.set_cons_succ] at ha
  subst ha
  refine wq_pure (.int .i64 (t.size : Int)) (by kernel_rfl) (fun _ => by kernel_rfl) ?_
  intro a' ha
  simp only [Act.put, List.setIfInBounds_toArray, List.set_cons_zero, List.set_cons_succ] at ha
  subst ha
  refine wq_pure (.bool true) (by kernel_rfl) (fun _ => (show (execOp _ _).run Tryd.prog _ = .ok (.value (.bool (decide ((t.size : Int) = 32)))) _ from by kernel_rfl).trans (by rw [hq1])) ?_
  intro a' ha
  simp only [Act.put, List.setIfInBounds_toArray, List.set_cons_zero, List.set_cons_succ] at ha
  subst ha
  refine wq_pure (.bool true) rfl (fun _ => by kernel_rfl) ?_
  intro a' ha
  simp only [Act.put, List.setIfInBounds_toArray, List.set_cons_zero, List.set_cons_succ] at ha
  subst ha
  refine wq_pure (.bool true) rfl (fun _ => by kernel_rfl) ?_
  intro a' ha
  simp only [Act.put, List.setIfInBounds_toArray, List.set_cons_zero, List.set_cons_succ] at ha
  subst ha
  refine wq_pure (.string t) (by kernel_rfl) (fun _ => by kernel_rfl) ?_
  intro a' ha
  simp only [Act.put, List.setIfInBounds_toArray, List.set_cons_zero, List.set_cons_succ] at ha
  subst ha
  refine wq_pure (.int .u8 (bys t 0)) (by kernel_rfl) (run_ix9 (.tmp 37) 0 rfl t rfl ht (by decide)) ?_
  intro a' ha
  simp only [Act.put, List.setIfInBounds_toArray, List.set_cons_zero, List.set_cons_succ] at ha
  subst ha
  refine wq_pure (.bool true) (by kernel_rfl) (fun _ => (show (execOp _ _).run Tryd.prog _ = .ok (.value (.bool (decide ((bys t 0) = 1)))) _ from by kernel_rfl).trans (by rw [hq2])) ?_
  intro a' ha
  simp only [Act.put, List.setIfInBounds_toArray, List.set_cons_zero, List.set_cons_succ] at ha
  subst ha
  refine wq_pure (.bool true) rfl (fun _ => by kernel_rfl) ?_
  intro a' ha
  simp only [Act.put, List.setIfInBounds_toArray, List.set_cons_zero, List.set_cons_succ] at ha
  subst ha
  refine wq_pure (.bool true) rfl (fun _ => by kernel_rfl) ?_
  intro a' ha
  simp only [Act.put, List.setIfInBounds_toArray, List.set_cons_zero, List.set_cons_succ] at ha
  subst ha
  refine wq_load S27 2 b3 0 29 16 (.tmp 1) (q4 v1 v2 v3 v4) (q4 v1 v2 v3 v4) (by kernel_rfl) rfl rfl rfl (Sub.self _) row29 rfl ?_
  intro a' ha
  simp only [Act.put, List.setIfInBounds_toArray, List.set_cons_zero, List.set_cons_succ] at ha
  subst ha
  refine wq_call hZ S27 H8 (by kernel_rfl) (fun _ => by kernel_rfl) ?_
  intro a' ha
  simp only [Act.put, List.setIfInBounds_toArray, List.set_cons_zero, List.set_cons_succ] at ha
  subst ha
  refine wq_load S27 2 b3 0 29 16 (.tmp 1) (q4 v1 v2 v3 v4) (q4 v1 v2 v3 v4) (by kernel_rfl) rfl rfl rfl (Sub.self _) row29 rfl ?_
  intro a' ha
  simp only [Act.put, List.setIfInBounds_toArray, List.set_cons_zero, List.set_cons_succ] at ha
  subst ha
  refine wq_load S27 2 b3 0 29 16 (.tmp 1) (q4 v1 v2 v3 v4) (q4 v1 v2 v3 v4) (by kernel_rfl) rfl rfl rfl (Sub.self _) row29 rfl ?_
  intro a' ha
  simp only [Act.put, List.setIfInBounds_toArray, List.set_cons_zero, List.set_cons_succ] at ha
  subst ha
  refine wq_call hZ S27 H9 (by kernel_rfl) (fun _ => by kernel_rfl) ?_
  intro a' ha
  simp only [Act.put, List.setIfInBounds_toArray, List.set_cons_zero, List.set_cons_succ] at ha
  subst ha
  refine wq_call hZ S27 H10 (by kernel_rfl) (fun _ => by kernel_rfl) ?_
  intro a' ha
  simp only [Act.put, List.setIfInBounds_toArray, List.set_cons_zero, List.set_cons_succ] at ha
  subst ha
  refine wq_pure (.bool true) rfl (fun _ => by kernel_rfl) ?_
  intro a' ha
  simp only [Act.put, List.setIfInBounds_toArray, List.set_cons_zero, List.set_cons_succ] at ha
  subst ha
  refine wq_pure (.bool true) rfl (fun _ => by kernel_rfl) ?_
  intro a' ha
  simp only [Act.put, List.setIfInBounds_toArray, List.set_cons_zero, List.set_cons_succ] at ha
  subst ha
  refine wq_load S27 2 b3 0 29 16 (.tmp 1) (q4 v1 v2 v3 v4) (q4 v1 v2 v3 v4) (by kernel_rfl) rfl rfl rfl (Sub.self _) row29 rfl ?_
  intro a' ha
  simp only [Act.put, List.setIfInBounds_toArray, List.set_cons_zero, List.set_cons_succ] at ha
  subst ha
  refine wq_call hZ S27 H5 (by kernel_rfl) (fun _ => by kernel_rfl) ?_
  intro a' ha
  simp only [Act.put, List.setIfInBounds_toArray, List.set_cons_zero, List.set_cons_succ] at ha
  subst ha
  refine wq_call hZ S27 H11 (by kernel_rfl) (fun _ => by kernel_rfl) ?_
  intro a' ha
  simp only [Act.put, List.setIfInBounds_toArray, List.set_cons_zero, List.set_cons_succ] at ha
  subst ha
  refine wq_pure (.bool true) (by kernel_rfl) (fun _ => by kernel_rfl) ?_
  intro a' ha
  simp only [Act.put, List.setIfInBounds_toArray, List.set_cons_zero, List.set_cons_succ] at ha
  subst ha
  refine wq_pure (.bool true) rfl (fun _ => by kernel_rfl) ?_
  intro a' ha
  simp only [Act.put, List.setIfInBounds_toArray, List.set_cons_zero, List.set_cons_succ] at ha
  subst ha
  refine wq_pure (.bool true) rfl (fun _ => by kernel_rfl) ?_
  intro a' ha
  simp only [Act.put, List.setIfInBounds_toArray, List.set_cons_zero, List.set_cons_succ] at ha
  subst ha
  refine wq_pure (.agg (q4 0 0 0 0)) (by kernel_rfl) (fun _ => by kernel_rfl) ?_
  intro a' ha
  simp only [Act.put, List.setIfInBounds_toArray, List.set_cons_zero, List.set_cons_succ] at ha
  subst ha
  refine wq_call hZ S27 H12 (by kernel_rfl) (fun _ => by kernel_rfl) ?_
  intro a' ha
  simp only [Act.put, List.setIfInBounds_toArray, List.set_cons_zero, List.set_cons_succ] at ha
  subst ha
  refine wq_pure (.bool true) (by kernel_rfl) (run_eq9 (.tmp 57) (.const (.string ⟨#[]⟩)) _ rfl ⟨#[]⟩ ⟨#[]⟩ rfl rfl hq3) ?_
  intro a' ha
  simp only [Act.put, List.setIfInBounds_toArray, List.set_cons_zero, List.set_cons_succ] at ha
  subst ha
  refine wq_pure (.bool true) rfl (fun _ => by kernel_rfl) ?_
  intro a' ha
  simp only [Act.put, List.setIfInBounds_toArray, List.set_cons_zero, List.set_cons_succ] at ha
  subst ha
  refine wq_pure (.bool true) rfl (fun _ => by kernel_rfl) ?_
  intro a' ha
  simp only [Act.put, List.setIfInBounds_toArray, List.set_cons_zero, List.set_cons_succ] at ha
  subst ha
  refine wq_load S27 2 b3 0 29 16 (.tmp 1) (q4 v1 v2 v3 v4) (q4 v1 v2 v3 v4) (by kernel_rfl) rfl rfl rfl (Sub.self _) row29 rfl ?_
  intro a' ha
  simp only [Act.put, List.setIfInBounds_toArray, List.set_cons_zero, List.set_cons_succ] at ha
  subst ha
  refine wq_call hZ S27 H2 (by kernel_rfl) (fun _ => by kernel_rfl) ?_
  intro a' ha
  simp only [Act.put, List.setIfInBounds_toArray, List.set_cons_zero, List.set_cons_succ] at ha
  subst ha
  refine wq_call hZ S27 H13 (by kernel_rfl) (fun _ => by kernel_rfl) ?_
  intro a' ha
  simp only [Act.put, List.setIfInBounds_toArray, List.set_cons_zero, List.set_cons_succ] at ha
  subst ha
  refine wq_call hZ S27 H14 (by kernel_rfl) (fun _ => by kernel_rfl) ?_
  intro a' ha
  simp only [Act.put, List.setIfInBounds_toArray, List.set_cons_zero, List.set_cons_succ] at ha
  subst ha
  refine wq_pure (.bool true) (by kernel_rfl) (run_eq9 (.tmp 62) (.tmp 64) _ rfl s s rfl rfl hq4) ?_
  intro a' ha
  simp only [Act.put, List.setIfInBounds_toArray, List.set_cons_zero, List.set_cons_succ] at ha
  subst ha
  refine wq_pure (.bool true) rfl (fun _ => by kernel_rfl) ?_
  intro a' ha
  simp only [Act.put, List.setIfInBounds_toArray, List.set_cons_zero, List.set_cons_succ] at ha
  subst ha
  refine wq_pure (.bool true) rfl (fun _ => by kernel_rfl) ?_
  intro a' ha
  simp only [Act.put, List.setIfInBounds_toArray, List.set_cons_zero, List.set_cons_succ] at ha
  subst ha
  refine wq_nil ?_
  intro W28 S29
  refine hK _ _ ?_
  clear hK K
  refine wp_ret ?_
  exact fin_tmp S29 rfl rfl rfl
theorem none_no {Z : World → Prop} (hZ : Keeps Z) {v : Nat} {n : ByteArray} (H1 : Ret Z 17 #[.string n] (.tuple #[wd v, .int .i64 2])) (H2 : Ret Z 8 #[] (.bool true)) : Ret Z 7 #[.string n] (.bool true) := by
  intro w hw
  have S := St.refl hw
  go_enter Tryd.func7, Tryd.ntmps7
  refine wp_seq_k fun K hK => ?_
  refine wr_list ?_
  refine wl_pure (.bool false) rfl (fun _ => by kernel_rfl) ?_
  intro a' ha
  simp only [Act.put, List.setIfInBounds_toArray, List.set_cons_zero, List.set_cons_succ] at ha
  subst ha
  refine wl_nil (hK _ _ ?_)
  clear hK K
  refine wp_seq_k fun K hK => ?_
  refine wr_list ?_
  refine wl_pure (.string n) rfl (fun _ => by kernel_rfl) ?_
  intro a' ha
  simp only [Act.put, List.setIfInBounds_toArray, List.set_cons_zero, List.set_cons_succ] at ha
  subst ha
  refine wl_call hZ S H1 rfl (fun _ => by kernel_rfl) ?_
  intro W1 a' S2 ha
  simp only [Act.put, List.setIfInBounds_toArray, List.set_cons_zero, List.set_cons_succ] at ha
  subst ha
  refine wl_pure (.tuple #[wd v, .int .i64 2]) rfl (fun _ => by kernel_rfl) ?_
  intro a' ha
  simp only [Act.put, List.setIfInBounds_toArray, List.set_cons_zero, List.set_cons_succ] at ha
  subst ha
  refine wl_pure (wd v) rfl (fun _ => by kernel_rfl) ?_
  intro a' ha
  simp only [Act.put, List.setIfInBounds_toArray, List.set_cons_zero, List.set_cons_succ] at ha
  subst ha
  refine wl_pure (.int .i64 2) rfl (fun _ => by kernel_rfl) ?_
  intro a' ha
  simp only [Act.put, List.setIfInBounds_toArray, List.set_cons_zero, List.set_cons_succ] at ha
  subst ha
  refine wl_alloc S2 (e4 0) 46 rfl (fun _ => by kernel_rfl) ?_
  intro b3 W4 a' S5 ha
  simp only [Act.put, List.setIfInBounds_toArray, List.set_cons_zero, List.set_cons_succ] at ha
  subst ha
  refine wl_store S5 0 b3 46 4 (.tmp 3) (.tmp 10) (e4 0) (e4 v) rfl rfl rfl rfl rfl row46 rfl rfl (e4_one _) ?_
  intro W6 a' S7 ha
  simp only [Act.put, List.setIfInBounds_toArray, List.set_cons_zero, List.set_cons_succ] at ha
  subst ha
  refine wl_pure (.int .i64 2) rfl (fun _ => by kernel_rfl) ?_
  intro a' ha
  simp only [Act.put, List.setIfInBounds_toArray, List.set_cons_zero, List.set_cons_succ] at ha
  subst ha
  refine wl_nil (hK _ _ ?_)
  clear hK K
  refine wp_seq_k fun K hK => ?_
  refine wp_seq_k fun K hK => ?_
  refine wr_list ?_
  refine wl_pure (.int .i64 2) rfl (fun _ => by kernel_rfl) ?_
  intro a' ha
  simp only [Act.put, List.setIfInBounds_toArray, List.set_cons_zero, List.set_cons_succ] at ha
  subst ha
  refine wl_pure (.bool true) rfl (fun _ => by kernel_rfl) ?_
  intro a' ha
  simp only [Act.put, List.setIfInBounds_toArray, List.set_cons_zero, List.set_cons_succ] at ha
  subst ha
  refine wl_nil (hK _ _ ?_)
  clear hK K
  refine wp_cond_true rfl ?_
  refine wp_seq_k fun K hK => ?_
  refine wr_list ?_
  refine wl_call hZ S7 H2 rfl (fun _ => by kernel_rfl) ?_
  intro W8 a' S9 ha
  simp only [Act.put, List.setIfInBounds_toArray, List.set_cons_zero, List.set_cons_succ] at ha
  subst ha
  refine wl_pure (.bool true) rfl (fun _ => by kernel_rfl) ?_
  intro a' ha
  simp only [Act.put, List.setIfInBounds_toArray, List.set_cons_zero, List.set_cons_succ] at ha
  subst ha
  refine wl_nil (hK _ _ ?_)
  clear hK K
  refine wp_ret ?_
  exact fin_tmp S9 rfl rfl rfl
theorem none_yes {Z : World → Prop} (hZ : Keeps Z) {v v1 v2 v3 v4 : Nat} {n : ByteArray} (H1 : Ret Z 17 #[.string n] (.tuple #[wd v, .int .i64 0])) (H2 : Ret Z 26 #[] (pv v1 v2 v3 v4)) (H3 : Ret Z 13 #[pv 0 0 0 0] (.string ⟨#[]⟩)) (H4 : Ret Z 18 #[pv v1 v2 v3 v4, pv 0 0 0 0] (pv 0 0 0 0)) (H5 : Ret Z 13 #[pv 0 0 0 0] (.string ⟨#[]⟩)) (H6 : Ret Z 18 #[pv 0 0 0 0, pv v1 v2 v3 v4] (pv 0 0 0 0)) (H7 : Ret Z 20 #[pv 0 0 0 0] (pv 0 0 0 0)) (H8 : Ret Z 21 #[pv 0 0 0 0, wd v, wd v] (pv 0 0 0 0)) (H9 : Ret Z 14 #[pv 0 0 0 0, pv 0 0 0 0] (.bool false)) (H10 : Ret Z 14 #[pv v1 v2 v3 v4, pv 0 0 0 0] (.bool false)) (H11 : Ret Z 14 #[pv 0 0 0 0, pv v1 v2 v3 v4] (.bool false)) (H12 : Ret Z 8 #[] (.bool true)) (hq1 : ((⟨#[]⟩ : ByteArray).toList == (⟨#[]⟩ : ByteArray).toList) = true) (hq2 : ((⟨#[]⟩ : ByteArray).toList == (⟨#[]⟩ : ByteArray).toList) = true) (hq3 : ((⟨#[]⟩ : ByteArray).toList == (⟨#[]⟩ : ByteArray).toList) = true) (hq4 : ((⟨#[]⟩ : ByteArray).toList == (⟨#[]⟩ : ByteArray).toList) = true) (hq5 : ((⟨#[]⟩ : ByteArray).toList == (⟨#[]⟩ : ByteArray).toList) = true) : Ret Z 7 #[.string n] (.bool true) := by
  intro w hw
  have S := St.refl hw
  go_enter Tryd.func7, Tryd.ntmps7
  refine wp_seq_k fun K hK => ?_
  refine wr_list ?_
  refine wl_pure (.bool false) rfl (fun _ => by kernel_rfl) ?_
  intro a' ha
  simp only [Act.put, List.setIfInBounds_toArray, List.set_cons_zero, List.set_cons_succ] at ha
  subst ha
  refine wl_nil (hK _ _ ?_)
  clear hK K
  refine wp_seq_k fun K hK => ?_
  refine wr_list ?_
  refine wl_pure (.string n) rfl (fun _ => by kernel_rfl) ?_
  intro a' ha
  simp only [Act.put, List.setIfInBounds_toArray, List.set_cons_zero, List.set_cons_succ] at ha
  subst ha
  refine wl_call hZ S H1 rfl (fun _ => by kernel_rfl) ?_
  intro W1 a' S2 ha
  simp only [Act.put, List.setIfInBounds_toArray, List.set_cons_zero, List.set_cons_succ] at ha
  subst ha
  refine wl_pure (.tuple #[wd v, .int .i64 0]) rfl (fun _ => by kernel_rfl) ?_
  intro a' ha
  simp only [Act.put, List.setIfInBounds_toArray, List.set_cons_zero, List.set_cons_succ] at ha
  subst ha
  refine wl_pure (wd v) rfl (fun _ => by kernel_rfl) ?_
  intro a' ha
  simp only [Act.put, List.setIfInBounds_toArray, List.set_cons_zero, List.set_cons_succ] at ha
  subst ha
  refine wl_pure (.int .i64 0) rfl (fun _ => by kernel_rfl) ?_
  intro a' ha
  simp only [Act.put, List.setIfInBounds_toArray, List.set_cons_zero, List.set_cons_succ] at ha
  subst ha
  refine wl_alloc S2 (e4 0) 46 rfl (fun _ => by kernel_rfl) ?_
  intro b3 W4 a' S5 ha
  simp only [Act.put, List.setIfInBounds_toArray, List.set_cons_zero, List.set_cons_succ] at ha
  subst ha
  refine wl_store S5 0 b3 46 4 (.tmp 3) (.tmp 10) (e4 0) (e4 v) rfl rfl rfl rfl rfl row46 rfl rfl (e4_one _) ?_
  intro W6 a' S7 ha
  simp only [Act.put, List.setIfInBounds_toArray, List.set_cons_zero, List.set_cons_succ] at ha
  subst ha
  refine wl_pure (.int .i64 0) rfl (fun _ => by kernel_rfl) ?_
  intro a' ha
  simp only [Act.put, List.setIfInBounds_toArray, List.set_cons_zero, List.set_cons_succ] at ha
  subst ha
  refine wl_nil (hK _ _ ?_)
  clear hK K
  refine wp_seq_k fun K hK => ?_
  refine wp_seq_k fun K hK => ?_
  refine wr_list ?_
  refine wl_pure (.int .i64 0) rfl (fun _ => by kernel_rfl) ?_
  intro a' ha
  simp only [Act.put, List.setIfInBounds_toArray, List.set_cons_zero, List.set_cons_succ] at ha
  subst ha
  refine wl_pure (.bool false) rfl (fun _ => by kernel_rfl) ?_
  intro a' ha
  simp only [Act.put, List.setIfInBounds_toArray, List.set_cons_zero, List.set_cons_succ] at ha
  subst ha
  refine wl_nil (hK _ _ ?_)
  clear hK K
  refine wp_cond_false rfl ?_
  refine wp_skip (hK _ _ ?_)
  clear hK K
  refine wp_seq_k fun K hK => ?_
  refine wr_list ?_
  refine wl_pure (.agg (q4 0 0 0 0)) rfl (fun _ => by kernel_rfl) ?_
  intro a' ha
  simp only [Act.put, List.setIfInBounds_toArray, List.set_cons_zero, List.set_cons_succ] at ha
  subst ha
  refine wl_alloc S7 (q4 0 0 0 0) 29 rfl (fun _ => by kernel_rfl) ?_
  intro b8 W9 a' S10 ha
  simp only [Act.put, List.setIfInBounds_toArray, List.set_cons_zero, List.set_cons_succ] at ha
  subst ha
  refine wl_store S10 0 b8 29 16 (.tmp 5) (.tmp 15) (q4 0 0 0 0) (q4 0 0 0 0) rfl rfl rfl rfl rfl row29 rfl rfl (q4_one _ _ _ _) ?_
  intro W11 a' S12 ha
  simp only [Act.put, List.setIfInBounds_toArray, List.set_cons_zero, List.set_cons_succ] at ha
  subst ha
  refine wl_nil (hK _ _ ?_)
  clear hK K
  refine wp_seq_k fun K hK => ?_
  refine wr_list ?_
  refine wl_call hZ S12 H2 rfl (fun _ => by kernel_rfl) ?_
  intro W13 a' S14 ha
  simp only [Act.put, List.setIfInBounds_toArray, List.set_cons_zero, List.set_cons_succ] at ha
  subst ha
  refine wl_alloc S14 (q4 0 0 0 0) 29 rfl (fun _ => by kernel_rfl) ?_
  intro b15 W16 a' S17 ha
  simp only [Act.put, List.setIfInBounds_toArray, List.set_cons_zero, List.set_cons_succ] at ha
  subst ha
  refine wl_store S17 0 b15 29 16 (.tmp 6) (.tmp 16) (q4 0 0 0 0) (q4 v1 v2 v3 v4) rfl rfl rfl rfl rfl row29 rfl rfl (q4_one _ _ _ _) ?_
  intro W18 a' S19 ha
  simp only [Act.put, List.setIfInBounds_toArray, List.set_cons_zero, List.set_cons_succ] at ha
  subst ha
  refine wl_nil (hK _ _ ?_)
  clear hK K
  refine wp_seq_k fun K hK => ?_
  refine wr_list ?_
  refine wl_load S19 1 b8 0 29 16 (.tmp 5) (q4 0 0 0 0) (q4 0 0 0 0) rfl rfl rfl rfl (Sub.self _) row29 rfl ?_
  intro a' ha
  simp only [Act.put, List.setIfInBounds_toArray, List.set_cons_zero, List.set_cons_succ] at ha
  subst ha
  refine wl_call hZ S19 H3 rfl (fun _ => by kernel_rfl) ?_
  intro W20 a' S21 ha
  simp only [Act.put, List.setIfInBounds_toArray, List.set_cons_zero, List.set_cons_succ] at ha
  subst ha
  refine wl_pure (.bool true) rfl (run_eq9 (.tmp 18) (.const (.string ⟨#[]⟩)) _ rfl ⟨#[]⟩ ⟨#[]⟩ rfl rfl hq1) ?_
  intro a' ha
  simp only [Act.put, List.setIfInBounds_toArray, List.set_cons_zero, List.set_cons_succ] at ha
  subst ha
  refine wl_pure (.bool true) rfl (fun _ => by kernel_rfl) ?_
  intro a' ha
  simp only [Act.put, List.setIfInBounds_toArray, List.set_cons_zero, List.set_cons_succ] at ha
  subst ha
  refine wl_load S21 0 b15 0 29 16 (.tmp 6) (q4 v1 v2 v3 v4) (q4 v1 v2 v3 v4) (by kernel_rfl) rfl rfl rfl (Sub.self _) row29 rfl ?_
  intro a' ha
  simp only [Act.put, List.setIfInBounds_toArray, List.set_cons_zero, List.set_cons_succ] at ha
  subst ha
  refine wl_load S21 1 b8 0 29 16 (.tmp 5) (q4 0 0 0 0) (q4 0 0 0 0) (by kernel_rfl) rfl rfl rfl (Sub.self _) row29 rfl ?_
  intro a' ha
  simp only [Act.put, List.setIfInBounds_toArray, List.set_cons_zero, List.set_cons_succ] at ha
  subst ha
  refine wl_call hZ S21 H4 (by kernel_rfl) (fun _ => by kernel_rfl) ?_
  intro W22 a' S23 ha
  simp only [Act.put, List.setIfInBounds_toArray, List.set_cons_zero, List.set_cons_succ] at ha
  subst ha
  refine wl_call hZ S23 H5 (by kernel_rfl) (fun _ => by kernel_rfl) ?_
  intro W24 a' S25 ha
  simp only [Act.put, List.setIfInBounds_toArray, List.set_cons_zero, List.set_cons_succ] at ha
  subst ha
  refine wl_pure (.bool true) (by kernel_rfl) (run_eq9 (.tmp 24) (.const (.string ⟨#[]⟩)) _ rfl ⟨#[]⟩ ⟨#[]⟩ rfl rfl hq2) ?_
  intro a' ha
  simp only [Act.put, List.setIfInBounds_toArray, List.set_cons_zero, List.set_cons_succ] at ha
  subst ha
  refine wl_pure (.bool true) rfl (fun _ => by kernel_rfl) ?_
  intro a' ha
  simp only [Act.put, List.setIfInBounds_toArray, List.set_cons_zero, List.set_cons_succ] at ha
  subst ha
  refine wl_pure (.bool true) rfl (fun _ => by kernel_rfl) ?_
  intro a' ha
  simp only [Act.put, List.setIfInBounds_toArray, List.set_cons_zero, List.set_cons_succ] at ha
  subst ha
  refine wl_load S25 1 b8 0 29 16 (.tmp 5) (q4 0 0 0 0) (q4 0 0 0 0) (by kernel_rfl) rfl rfl rfl (Sub.self _) row29 rfl ?_
  intro a' ha
  simp only [Act.put, List.setIfInBounds_toArray, List.set_cons_zero, List.set_cons_succ] at ha
  subst ha
  refine wl_load S25 0 b15 0 29 16 (.tmp 6) (q4 v1 v2 v3 v4) (q4 v1 v2 v3 v4) (by kernel_rfl) rfl rfl rfl (Sub.self _) row29 rfl ?_
  intro a' ha
  simp only [Act.put, List.setIfInBounds_toArray, List.set_cons_zero, List.set_cons_succ] at ha
  subst ha
  refine wl_call hZ S25 H6 (by kernel_rfl) (fun _ => by kernel_rfl) ?_
  intro W26 a' S27 ha
  simp only [Act.put, List.setIfInBounds_toArray, List.set_cons_zero, List.set_cons_succ] at ha
  subst ha
  refine wl_call hZ S27 H5 (by kernel_rfl) (fun _ => by kernel_rfl) ?_
  intro W28 a' S29 ha
  simp only [Act.put, List.setIfInBounds_toArray, List.set_cons_zero, List.set_cons_succ] at ha
  subst ha
  refine wl_pure (.bool true) (by kernel_rfl) (run_eq9 (.tmp 31) (.const (.string ⟨#[]⟩)) _ rfl ⟨#[]⟩ ⟨#[]⟩ rfl rfl hq3) ?_
  intro a' ha
  simp only [Act.put, List.setIfInBounds_toArray, List.set_cons_zero, List.set_cons_succ] at ha
  subst ha
  refine wl_pure (.bool true) rfl (fun _ => by kernel_rfl) ?_
  intro a' ha
  simp only [Act.put, List.setIfInBounds_toArray, List.set_cons_zero, List.set_cons_succ] at ha
  subst ha
  refine wl_pure (.bool true) rfl (fun _ => by kernel_rfl) ?_
  intro a' ha
  simp only [Act.put, List.setIfInBounds_toArray, List.set_cons_zero, List.set_cons_succ] at ha
  subst ha
  refine wl_load S29 1 b8 0 29 16 (.tmp 5) (q4 0 0 0 0) (q4 0 0 0 0) (by kernel_rfl) rfl rfl rfl (Sub.self _) row29 rfl ?_
  intro a' ha
  simp only [Act.put, List.setIfInBounds_toArray, List.set_cons_zero, List.set_cons_succ] at ha
  subst ha
  refine wl_call hZ S29 H7 (by kernel_rfl) (fun _ => by kernel_rfl) ?_
  intro W30 a' S31 ha
  simp only [Act.put, List.setIfInBounds_toArray, List.set_cons_zero, List.set_cons_succ] at ha
  subst ha
  refine wl_call hZ S31 H5 (by kernel_rfl) (fun _ => by kernel_rfl) ?_
  intro W32 a' S33 ha
  simp only [Act.put, List.setIfInBounds_toArray, List.set_cons_zero, List.set_cons_succ] at ha
  subst ha
  refine wl_pure (.bool true) (by kernel_rfl) (run_eq9 (.tmp 37) (.const (.string ⟨#[]⟩)) _ rfl ⟨#[]⟩ ⟨#[]⟩ rfl rfl hq4) ?_
  intro a' ha
  simp only [Act.put, List.setIfInBounds_toArray, List.set_cons_zero, List.set_cons_succ] at ha
  subst ha
  refine wl_pure (.bool true) rfl (fun _ => by kernel_rfl) ?_
  intro a' ha
  simp only [Act.put, List.setIfInBounds_toArray, List.set_cons_zero, List.set_cons_succ] at ha
  subst ha
  refine wl_pure (.bool true) rfl (fun _ => by kernel_rfl) ?_
  intro a' ha
  simp only [Act.put, List.setIfInBounds_toArray, List.set_cons_zero, List.set_cons_succ] at ha
  subst ha
  refine wl_load S33 1 b8 0 29 16 (.tmp 5) (q4 0 0 0 0) (q4 0 0 0 0) (by kernel_rfl) rfl rfl rfl (Sub.self _) row29 rfl ?_
  intro a' ha
  simp only [Act.put, List.setIfInBounds_toArray, List.set_cons_zero, List.set_cons_succ] at ha
  subst ha
  refine wl_load S33 2 b3 0 46 4 (.tmp 3) (e4 v) (e4 v) (by kernel_rfl) rfl rfl rfl (Sub.self _) row46 rfl ?_
  intro a' ha
  simp only [Act.put, List.setIfInBounds_toArray, List.set_cons_zero, List.set_cons_succ] at ha
  subst ha
  refine wl_load S33 2 b3 0 46 4 (.tmp 3) (e4 v) (e4 v) (by kernel_rfl) rfl rfl rfl (Sub.self _) row46 rfl ?_
  intro a' ha
  simp only [Act.put, List.setIfInBounds_toArray, List.set_cons_zero, List.set_cons_succ] at ha
  subst ha
  refine wl_call hZ S33 H8 (by kernel_rfl) (fun _ => by kernel_rfl) ?_
  intro W34 a' S35 ha
  simp only [Act.put, List.setIfInBounds_toArray, List.set_cons_zero, List.set_cons_succ] at ha
  subst ha
  refine wl_call hZ S35 H5 (by kernel_rfl) (fun _ => by kernel_rfl) ?_
  intro W36 a' S37 ha
  simp only [Act.put, List.setIfInBounds_toArray, List.set_cons_zero, List.set_cons_succ] at ha
  subst ha
  refine wl_pure (.bool true) (by kernel_rfl) (run_eq9 (.tmp 45) (.const (.string ⟨#[]⟩)) _ rfl ⟨#[]⟩ ⟨#[]⟩ rfl rfl hq5) ?_
  intro a' ha
  simp only [Act.put, List.setIfInBounds_toArray, List.set_cons_zero, List.set_cons_succ] at ha
  subst ha
  refine wl_pure (.bool true) rfl (fun _ => by kernel_rfl) ?_
  intro a' ha
  simp only [Act.put, List.setIfInBounds_toArray, List.set_cons_zero, List.set_cons_succ] at ha
  subst ha
  refine wl_pure (.bool true) rfl (fun _ => by kernel_rfl) ?_
  intro a' ha
  simp only [Act.put, List.setIfInBounds_toArray, List.set_cons_zero, List.set_cons_succ] at ha
  subst ha
  refine wl_load S37 1 b8 0 29 16 (.tmp 5) (q4 0 0 0 0) (q4 0 0 0 0) (by kernel_rfl) rfl rfl rfl (Sub.self _) row29 rfl ?_
  intro a' ha
  simp only [Act.put, List.setIfInBounds_toArray, List.set_cons_zero, List.set_cons_succ] at ha
  subst ha
  refine wl_load S37 1 b8 0 29 16 (.tmp 5) (q4 0 0 0 0) (q4 0 0 0 0) (by kernel_rfl) rfl rfl rfl (Sub.self _) row29 rfl ?_
  intro a' ha
  simp only [Act.put, List.setIfInBounds_toArray, List.set_cons_zero, List.set_cons_succ] at ha
  subst ha
  refine wl_call hZ S37 H9 (by kernel_rfl) (fun _ => by kernel_rfl) ?_
  intro W38 a' S39 ha
  simp only [Act.put, List.setIfInBounds_toArray, List.set_cons_zero, List.set_cons_succ] at ha
  subst ha
  refine wl_pure (.bool true) (by kernel_rfl) (fun _ => by kernel_rfl) ?_
  intro a' ha
  simp only [Act.put, List.setIfInBounds_toArray, List.set_cons_zero, List.set_cons_succ] at ha
  subst ha
  refine wl_pure (.bool true) rfl (fun _ => by kernel_rfl) ?_
  intro a' ha
  simp only [Act.put, List.setIfInBounds_toArray, List.set_cons_zero, List.set_cons_succ] at ha
  subst ha
  refine wl_pure (.bool true) rfl (fun _ => by kernel_rfl) ?_
  intro a' ha
  simp only [Act.put, List.setIfInBounds_toArray, List.set_cons_zero, List.set_cons_succ] at ha
  subst ha
  refine wl_load S39 0 b15 0 29 16 (.tmp 6) (q4 v1 v2 v3 v4) (q4 v1 v2 v3 v4) (by kernel_rfl) rfl rfl rfl (Sub.self _) row29 rfl ?_
  intro a' ha
  simp only [Act.put, List.setIfInBounds_toArray, List.set_cons_zero, List.set_cons_succ] at ha
  subst ha
  refine wl_load S39 1 b8 0 29 16 (.tmp 5) (q4 0 0 0 0) (q4 0 0 0 0) (by kernel_rfl) rfl rfl rfl (Sub.self _) row29 rfl ?_
  intro a' ha
  simp only [Act.put, List.setIfInBounds_toArray, List.set_cons_zero, List.set_cons_succ] at ha
  subst ha
  refine wl_call hZ S39 H10 (by kernel_rfl) (fun _ => by kernel_rfl) ?_
  intro W40 a' S41 ha
  simp only [Act.put, List.setIfInBounds_toArray, List.set_cons_zero, List.set_cons_succ] at ha
  subst ha
  refine wl_pure (.bool true) (by kernel_rfl) (fun _ => by kernel_rfl) ?_
  intro a' ha
  simp only [Act.put, List.setIfInBounds_toArray, List.set_cons_zero, List.set_cons_succ] at ha
  subst ha
  refine wl_pure (.bool true) rfl (fun _ => by kernel_rfl) ?_
  intro a' ha
  simp only [Act.put, List.setIfInBounds_toArray, List.set_cons_zero, List.set_cons_succ] at ha
  subst ha
  refine wl_pure (.bool true) rfl (fun _ => by kernel_rfl) ?_
  intro a' ha
  simp only [Act.put, List.setIfInBounds_toArray, List.set_cons_zero, List.set_cons_succ] at ha
  subst ha
  refine wl_load S41 1 b8 0 29 16 (.tmp 5) (q4 0 0 0 0) (q4 0 0 0 0) (by kernel_rfl) rfl rfl rfl (Sub.self _) row29 rfl ?_
  intro a' ha
  simp only [Act.put, List.setIfInBounds_toArray, List.set_cons_zero, List.set_cons_succ] at ha
  subst ha
  refine wl_load S41 0 b15 0 29 16 (.tmp 6) (q4 v1 v2 v3 v4) (q4 v1 v2 v3 v4) (by kernel_rfl) rfl rfl rfl (Sub.self _) row29 rfl ?_
  intro a' ha
  simp only [Act.put, List.setIfInBounds_toArray, List.set_cons_zero, List.set_cons_succ] at ha
  subst ha
  refine wl_call hZ S41 H11 (by kernel_rfl) (fun _ => by kernel_rfl) ?_
  intro W42 a' S43 ha
  simp only [Act.put, List.setIfInBounds_toArray, List.set_cons_zero, List.set_cons_succ] at ha
  subst ha
  refine wl_pure (.bool true) (by kernel_rfl) (fun _ => by kernel_rfl) ?_
  intro a' ha
  simp only [Act.put, List.setIfInBounds_toArray, List.set_cons_zero, List.set_cons_succ] at ha
  subst ha
  refine wl_pure (.bool true) rfl (fun _ => by kernel_rfl) ?_
  intro a' ha
  simp only [Act.put, List.setIfInBounds_toArray, List.set_cons_zero, List.set_cons_succ] at ha
  subst ha
  refine wl_pure (.bool true) rfl (fun _ => by kernel_rfl) ?_
  intro a' ha
  simp only [Act.put, List.setIfInBounds_toArray, List.set_cons_zero, List.set_cons_succ] at ha
  subst ha
  refine wl_call hZ S43 H12 (by kernel_rfl) (fun _ => by kernel_rfl) ?_
  intro W44 a' S45 ha
  simp only [Act.put, List.setIfInBounds_toArray, List.set_cons_zero, List.set_cons_succ] at ha
  subst ha
  refine wl_pure (.bool true) rfl (fun _ => by kernel_rfl) ?_
  intro a' ha
  simp only [Act.put, List.setIfInBounds_toArray, List.set_cons_zero, List.set_cons_succ] at ha
  subst ha
  refine wl_pure (.bool true) rfl (fun _ => by kernel_rfl) ?_
  intro a' ha
  simp only [Act.put, List.setIfInBounds_toArray, List.set_cons_zero, List.set_cons_succ] at ha
  subst ha
  refine wl_nil (hK _ _ ?_)
  clear hK K
  refine wp_ret ?_
  exact fin_tmp S45 rfl rfl rfl
end Go.Proofs.YtpdagpjjlnncbaaDoor
