/-
  EdwReads: its walk. No statement is proved here.
-/
import Derived.Test.YtpdagpjjlnncbaaDoorEdwM
namespace Go.Proofs.YtpdagpjjlnncbaaDoor
open Go.RowKit Go.Lib Go.BigFrame
set_option linter.unusedVariables false
set_option linter.unusedSimpArgs false
set_option maxRecDepth 1000000
set_option maxHeartbeats 4000000

theorem reads_long {Z : World → Prop} (hZ : Keeps Z)  {s : ByteArray} (H1 : Ret Z 8 #[] (.bool true)) (hq1 : decide (4096 < (s.size : Int)) = true) : Ret Z 3 #[.string s] (.bool true) := by
  intro w hw
  have S := St.refl hw
  go_enter Tryd.func3, Tryd.ntmps3
  refine wp_seq_k fun K hK => ?_
  refine wr_list ?_
  refine wl_pure (.bool false) rfl (fun _ => by kernel_rfl) ?_
  intro a' ha
  simp only [Act.put, List.setIfInBounds_toArray, List.set_cons_zero, List.set_cons_succ] at ha
  subst ha
  refine wl_nil (hK _ _ ?_)
  clear hK K
  refine wp_seq_k fun K hK => ?_
  refine wp_seq_k fun K hK => ?_
  refine wr_list ?_
  refine wl_pure (.string s) rfl (fun _ => by kernel_rfl) ?_
  intro a' ha
  simp only [Act.put, List.setIfInBounds_toArray, List.set_cons_zero, List.set_cons_succ] at ha
  subst ha
  refine wl_pure (.int .i64 (s.size : Int)) rfl (fun _ => by kernel_rfl) ?_
  intro a' ha
  simp only [Act.put, List.setIfInBounds_toArray, List.set_cons_zero, List.set_cons_succ] at ha
  subst ha
  refine wl_pure (.bool true) rfl (fun _ => (show (execOp _ _).run Tryd.prog _ = .ok (.value (.bool (decide (4096 < (s.size : Int))))) _ from by kernel_rfl).trans (by rw [hq1])) ?_
  intro a' ha
  simp only [Act.put, List.setIfInBounds_toArray, List.set_cons_zero, List.set_cons_succ] at ha
  subst ha
  refine wl_nil (hK _ _ ?_)
  clear hK K
  refine wp_cond_true rfl ?_
  refine wp_seq_k fun K hK => ?_
  refine wr_list ?_
  refine wl_call hZ S H1 rfl (fun _ => by kernel_rfl) ?_
  intro W1 a' S2 ha
  simp only [Act.put, List.setIfInBounds_toArray, List.set_cons_zero, List.set_cons_succ] at ha
  subst ha
  refine wl_pure (.bool true) rfl (fun _ => by kernel_rfl) ?_
  intro a' ha
  simp only [Act.put, List.setIfInBounds_toArray, List.set_cons_zero, List.set_cons_succ] at ha
  subst ha
  refine wl_nil (hK _ _ ?_)
  clear hK K
  refine wp_ret ?_
  exact fin_tmp S2 rfl rfl rfl
theorem reads_no2 {Z : World → Prop} (hZ : Keeps Z) {v : Nat} {s : ByteArray} (H1 : Ret Z 9 #[.string s] (.tuple #[pv 0 0 0 0, .int .i64 2])) (H2 : Ret Z 10 #[.string s] (.tuple #[rp 0 0 0, .int .i64 2])) (H3 : Ret Z 11 #[] (nd v)) (H4 : Ret Z 12 #[] (nd v)) (H5 : Ret Z 13 #[pv 0 0 0 0] (.string ⟨#[]⟩)) (H6 : Ret Z 14 #[pv 0 0 0 0, pv 0 0 0 0] (.bool false)) (H7 : Ret Z 8 #[] (.bool true)) (hq1 : decide (4096 < (s.size : Int)) = false) (hq2 : decide (dts v = dts v) = true) (hq3 : ((⟨#[]⟩ : ByteArray).toList == (⟨#[]⟩ : ByteArray).toList) = true) : Ret Z 3 #[.string s] (.bool true) := by
  intro w hw
  have S := St.refl hw
  go_enter Tryd.func3, Tryd.ntmps3
  refine wp_seq_k fun K hK => ?_
  refine wr_list ?_
  refine wl_pure (.bool false) rfl (fun _ => by kernel_rfl) ?_
  intro a' ha
  simp only [Act.put, List.setIfInBounds_toArray, List.set_cons_zero, List.set_cons_succ] at ha
  subst ha
  refine wl_nil (hK _ _ ?_)
  clear hK K
  refine wp_seq_k fun K hK => ?_
  refine wp_seq_k fun K hK => ?_
  refine wr_list ?_
  refine wl_pure (.string s) rfl (fun _ => by kernel_rfl) ?_
  intro a' ha
  simp only [Act.put, List.setIfInBounds_toArray, List.set_cons_zero, List.set_cons_succ] at ha
  subst ha
  refine wl_pure (.int .i64 (s.size : Int)) rfl (fun _ => by kernel_rfl) ?_
  intro a' ha
  simp only [Act.put, List.setIfInBounds_toArray, List.set_cons_zero, List.set_cons_succ] at ha
  subst ha
  refine wl_pure (.bool false) rfl (fun _ => (show (execOp _ _).run Tryd.prog _ = .ok (.value (.bool (decide (4096 < (s.size : Int))))) _ from by kernel_rfl).trans (by rw [hq1])) ?_
  intro a' ha
  simp only [Act.put, List.setIfInBounds_toArray, List.set_cons_zero, List.set_cons_succ] at ha
  subst ha
  refine wl_nil (hK _ _ ?_)
  clear hK K
  refine wp_cond_false rfl ?_
  refine wp_skip (hK _ _ ?_)
  clear hK K
  refine wp_seq_k fun K hK => ?_
  refine wr_list ?_
  refine wl_pure (.string s) rfl (fun _ => by kernel_rfl) ?_
  intro a' ha
  simp only [Act.put, List.setIfInBounds_toArray, List.set_cons_zero, List.set_cons_succ] at ha
  subst ha
  refine wl_call hZ S H1 rfl (fun _ => by kernel_rfl) ?_
  intro W1 a' S2 ha
  simp only [Act.put, List.setIfInBounds_toArray, List.set_cons_zero, List.set_cons_succ] at ha
  subst ha
  refine wl_pure (.tuple #[pv 0 0 0 0, .int .i64 2]) rfl (fun _ => by kernel_rfl) ?_
  intro a' ha
  simp only [Act.put, List.setIfInBounds_toArray, List.set_cons_zero, List.set_cons_succ] at ha
  subst ha
  refine wl_pure (pv 0 0 0 0) rfl (fun _ => by kernel_rfl) ?_
  intro a' ha
  simp only [Act.put, List.setIfInBounds_toArray, List.set_cons_zero, List.set_cons_succ] at ha
  subst ha
  refine wl_pure (.int .i64 2) rfl (fun _ => by kernel_rfl) ?_
  intro a' ha
  simp only [Act.put, List.setIfInBounds_toArray, List.set_cons_zero, List.set_cons_succ] at ha
  subst ha
  refine wl_alloc S2 (q4 0 0 0 0) 29 rfl (fun _ => by kernel_rfl) ?_
  intro b3 W4 a' S5 ha
  simp only [Act.put, List.setIfInBounds_toArray, List.set_cons_zero, List.set_cons_succ] at ha
  subst ha
  refine wl_store S5 0 b3 29 16 (.tmp 3) (.tmp 14) (q4 0 0 0 0) (q4 0 0 0 0) rfl rfl rfl rfl rfl row29 rfl rfl (q4_one _ _ _ _) ?_
  intro W6 a' S7 ha
  simp only [Act.put, List.setIfInBounds_toArray, List.set_cons_zero, List.set_cons_succ] at ha
  subst ha
  refine wl_pure (.int .i64 2) rfl (fun _ => by kernel_rfl) ?_
  intro a' ha
  simp only [Act.put, List.setIfInBounds_toArray, List.set_cons_zero, List.set_cons_succ] at ha
  subst ha
  refine wl_nil (hK _ _ ?_)
  clear hK K
  refine wp_seq_k fun K hK => ?_
  refine wr_list ?_
  refine wl_pure (.string s) rfl (fun _ => by kernel_rfl) ?_
  intro a' ha
  simp only [Act.put, List.setIfInBounds_toArray, List.set_cons_zero, List.set_cons_succ] at ha
  subst ha
  refine wl_call hZ S7 H2 rfl (fun _ => by kernel_rfl) ?_
  intro W8 a' S9 ha
  simp only [Act.put, List.setIfInBounds_toArray, List.set_cons_zero, List.set_cons_succ] at ha
  subst ha
  refine wl_pure (.tuple #[rp 0 0 0, .int .i64 2]) rfl (fun _ => by kernel_rfl) ?_
  intro a' ha
  simp only [Act.put, List.setIfInBounds_toArray, List.set_cons_zero, List.set_cons_succ] at ha
  subst ha
  refine wl_pure (rp 0 0 0) rfl (fun _ => by kernel_rfl) ?_
  intro a' ha
  simp only [Act.put, List.setIfInBounds_toArray, List.set_cons_zero, List.set_cons_succ] at ha
  subst ha
  refine wl_pure (.int .i64 2) rfl (fun _ => by kernel_rfl) ?_
  intro a' ha
  simp only [Act.put, List.setIfInBounds_toArray, List.set_cons_zero, List.set_cons_succ] at ha
  subst ha
  refine wl_alloc S9 (n27 0 0 0) 36 rfl (fun _ => by kernel_rfl) ?_
  intro b10 W11 a' S12 ha
  simp only [Act.put, List.setIfInBounds_toArray, List.set_cons_zero, List.set_cons_succ] at ha
  subst ha
  refine wl_store S12 0 b10 36 27 (.tmp 5) (.tmp 19) (n27 0 0 0) (n27 0 0 0) rfl rfl rfl rfl rfl row36 (n27_size _ _ _) (n27_size _ _ _) (n27_one _ _ _) ?_
  intro W13 a' S14 ha
  simp only [Act.put, List.setIfInBounds_toArray, List.set_cons_zero, List.set_cons_succ] at ha
  subst ha
  refine wl_pure (.int .i64 2) rfl (fun _ => by kernel_rfl) ?_
  intro a' ha
  simp only [Act.put, List.setIfInBounds_toArray, List.set_cons_zero, List.set_cons_succ] at ha
  subst ha
  refine wl_nil (hK _ _ ?_)
  clear hK K
  refine wp_seq_k fun K hK => ?_
  refine wp_seq_k fun K hK => ?_
  refine wr_list ?_
  refine wl_pure (.int .i64 2) rfl (fun _ => by kernel_rfl) ?_
  intro a' ha
  simp only [Act.put, List.setIfInBounds_toArray, List.set_cons_zero, List.set_cons_succ] at ha
  subst ha
  refine wl_pure (.int .i64 2) rfl (fun _ => by kernel_rfl) ?_
  intro a' ha
  simp only [Act.put, List.setIfInBounds_toArray, List.set_cons_zero, List.set_cons_succ] at ha
  subst ha
  refine wl_pure (.bool false) rfl (fun _ => by kernel_rfl) ?_
  intro a' ha
  simp only [Act.put, List.setIfInBounds_toArray, List.set_cons_zero, List.set_cons_succ] at ha
  subst ha
  refine wl_pure (.bool false) rfl (fun _ => by kernel_rfl) ?_
  intro a' ha
  simp only [Act.put, List.setIfInBounds_toArray, List.set_cons_zero, List.set_cons_succ] at ha
  subst ha
  refine wl_call hZ S14 H3 (by kernel_rfl) (fun _ => by kernel_rfl) ?_
  intro W15 a' S16 ha
  simp only [Act.put, List.setIfInBounds_toArray, List.set_cons_zero, List.set_cons_succ] at ha
  subst ha
  refine wl_call hZ S16 H4 (by kernel_rfl) (fun _ => by kernel_rfl) ?_
  intro W17 a' S18 ha
  simp only [Act.put, List.setIfInBounds_toArray, List.set_cons_zero, List.set_cons_succ] at ha
  subst ha
  refine wl_pure (.bool false) (by kernel_rfl) (run_ne34 (.tmp 25) (.tmp 26) _ rfl v v rfl rfl hq2) ?_
  intro a' ha
  simp only [Act.put, List.setIfInBounds_toArray, List.set_cons_zero, List.set_cons_succ] at ha
  subst ha
  refine wl_pure (.bool false) rfl (fun _ => by kernel_rfl) ?_
  intro a' ha
  simp only [Act.put, List.setIfInBounds_toArray, List.set_cons_zero, List.set_cons_succ] at ha
  subst ha
  refine wl_nil (hK _ _ ?_)
  clear hK K
  refine wp_cond_false rfl ?_
  refine wp_skip (hK _ _ ?_)
  clear hK K
  refine wp_seq_k fun K hK => ?_
  refine wp_seq_k fun K hK => ?_
  refine wr_list ?_
  refine wl_pure (.int .i64 2) rfl (fun _ => by kernel_rfl) ?_
  intro a' ha
  simp only [Act.put, List.setIfInBounds_toArray, List.set_cons_zero, List.set_cons_succ] at ha
  subst ha
  refine wl_pure (.bool true) rfl (fun _ => by kernel_rfl) ?_
  intro a' ha
  simp only [Act.put, List.setIfInBounds_toArray, List.set_cons_zero, List.set_cons_succ] at ha
  subst ha
  refine wl_nil (hK _ _ ?_)
  clear hK K
  refine wp_cond_true rfl ?_
  refine wp_seq_k fun K hK => ?_
  refine wr_list ?_
  refine wl_load S18 1 b3 0 29 16 (.tmp 3) (q4 0 0 0 0) (q4 0 0 0 0) rfl rfl rfl rfl (Sub.self _) row29 rfl ?_
  intro a' ha
  simp only [Act.put, List.setIfInBounds_toArray, List.set_cons_zero, List.set_cons_succ] at ha
  subst ha
  refine wl_call hZ S18 H5 rfl (fun _ => by kernel_rfl) ?_
  intro W19 a' S20 ha
  simp only [Act.put, List.setIfInBounds_toArray, List.set_cons_zero, List.set_cons_succ] at ha
  subst ha
  refine wl_pure (.bool true) rfl (run_eq9 (.tmp 32) (.const (.string ⟨#[]⟩)) _ rfl ⟨#[]⟩ ⟨#[]⟩ rfl rfl hq3) ?_
  intro a' ha
  simp only [Act.put, List.setIfInBounds_toArray, List.set_cons_zero, List.set_cons_succ] at ha
  subst ha
  refine wl_pure (.bool true) rfl (fun _ => by kernel_rfl) ?_
  intro a' ha
  simp only [Act.put, List.setIfInBounds_toArray, List.set_cons_zero, List.set_cons_succ] at ha
  subst ha
  refine wl_load S20 1 b3 0 29 16 (.tmp 3) (q4 0 0 0 0) (q4 0 0 0 0) (by kernel_rfl) rfl rfl rfl (Sub.self _) row29 rfl ?_
  intro a' ha
  simp only [Act.put, List.setIfInBounds_toArray, List.set_cons_zero, List.set_cons_succ] at ha
  subst ha
  refine wl_load S20 1 b3 0 29 16 (.tmp 3) (q4 0 0 0 0) (q4 0 0 0 0) (by kernel_rfl) rfl rfl rfl (Sub.self _) row29 rfl ?_
  intro a' ha
  simp only [Act.put, List.setIfInBounds_toArray, List.set_cons_zero, List.set_cons_succ] at ha
  subst ha
  refine wl_call hZ S20 H6 (by kernel_rfl) (fun _ => by kernel_rfl) ?_
  intro W21 a' S22 ha
  simp only [Act.put, List.setIfInBounds_toArray, List.set_cons_zero, List.set_cons_succ] at ha
  subst ha
  refine wl_pure (.bool true) (by kernel_rfl) (fun _ => by kernel_rfl) ?_
  intro a' ha
  simp only [Act.put, List.setIfInBounds_toArray, List.set_cons_zero, List.set_cons_succ] at ha
  subst ha
  refine wl_pure (.bool true) rfl (fun _ => by kernel_rfl) ?_
  intro a' ha
  simp only [Act.put, List.setIfInBounds_toArray, List.set_cons_zero, List.set_cons_succ] at ha
  subst ha
  refine wl_pure (.bool true) rfl (fun _ => by kernel_rfl) ?_
  intro a' ha
  simp only [Act.put, List.setIfInBounds_toArray, List.set_cons_zero, List.set_cons_succ] at ha
  subst ha
  refine wl_call hZ S22 H7 (by kernel_rfl) (fun _ => by kernel_rfl) ?_
  intro W23 a' S24 ha
  simp only [Act.put, List.setIfInBounds_toArray, List.set_cons_zero, List.set_cons_succ] at ha
  subst ha
  refine wl_pure (.bool true) rfl (fun _ => by kernel_rfl) ?_
  intro a' ha
  simp only [Act.put, List.setIfInBounds_toArray, List.set_cons_zero, List.set_cons_succ] at ha
  subst ha
  refine wl_pure (.bool true) rfl (fun _ => by kernel_rfl) ?_
  intro a' ha
  simp only [Act.put, List.setIfInBounds_toArray, List.set_cons_zero, List.set_cons_succ] at ha
  subst ha
  refine wl_nil (hK _ _ ?_)
  clear hK K
  refine wp_ret ?_
  exact fin_tmp S24 rfl rfl rfl
theorem reads_no90 {Z : World → Prop} (hZ : Keeps Z) {v : Nat} {s : ByteArray} (H1 : Ret Z 9 #[.string s] (.tuple #[pv 0 0 0 0, .int .i64 90])) (H2 : Ret Z 10 #[.string s] (.tuple #[rp 0 0 0, .int .i64 90])) (H3 : Ret Z 11 #[] (nd v)) (H4 : Ret Z 12 #[] (nd v)) (H5 : Ret Z 13 #[pv 0 0 0 0] (.string ⟨#[]⟩)) (H6 : Ret Z 14 #[pv 0 0 0 0, pv 0 0 0 0] (.bool false)) (H7 : Ret Z 8 #[] (.bool true)) (hq1 : decide (4096 < (s.size : Int)) = false) (hq2 : decide (dts v = dts v) = true) (hq3 : ((⟨#[]⟩ : ByteArray).toList == (⟨#[]⟩ : ByteArray).toList) = true) : Ret Z 3 #[.string s] (.bool true) := by
  intro w hw
  have S := St.refl hw
  go_enter Tryd.func3, Tryd.ntmps3
  refine wp_seq_k fun K hK => ?_
  refine wr_list ?_
  refine wl_pure (.bool false) rfl (fun _ => by kernel_rfl) ?_
  intro a' ha
  simp only [Act.put, List.setIfInBounds_toArray, List.set_cons_zero, List.set_cons_succ] at ha
  subst ha
  refine wl_nil (hK _ _ ?_)
  clear hK K
  refine wp_seq_k fun K hK => ?_
  refine wp_seq_k fun K hK => ?_
  refine wr_list ?_
  refine wl_pure (.string s) rfl (fun _ => by kernel_rfl) ?_
  intro a' ha
  simp only [Act.put, List.setIfInBounds_toArray, List.set_cons_zero, List.set_cons_succ] at ha
  subst ha
  refine wl_pure (.int .i64 (s.size : Int)) rfl (fun _ => by kernel_rfl) ?_
  intro a' ha
  simp only [Act.put, List.setIfInBounds_toArray, List.set_cons_zero, List.set_cons_succ] at ha
  subst ha
  refine wl_pure (.bool false) rfl (fun _ => (show (execOp _ _).run Tryd.prog _ = .ok (.value (.bool (decide (4096 < (s.size : Int))))) _ from by kernel_rfl).trans (by rw [hq1])) ?_
  intro a' ha
  simp only [Act.put, List.setIfInBounds_toArray, List.set_cons_zero, List.set_cons_succ] at ha
  subst ha
  refine wl_nil (hK _ _ ?_)
  clear hK K
  refine wp_cond_false rfl ?_
  refine wp_skip (hK _ _ ?_)
  clear hK K
  refine wp_seq_k fun K hK => ?_
  refine wr_list ?_
  refine wl_pure (.string s) rfl (fun _ => by kernel_rfl) ?_
  intro a' ha
  simp only [Act.put, List.setIfInBounds_toArray, List.set_cons_zero, List.set_cons_succ] at ha
  subst ha
  refine wl_call hZ S H1 rfl (fun _ => by kernel_rfl) ?_
  intro W1 a' S2 ha
  simp only [Act.put, List.setIfInBounds_toArray, List.set_cons_zero, List.set_cons_succ] at ha
  subst ha
  refine wl_pure (.tuple #[pv 0 0 0 0, .int .i64 90]) rfl (fun _ => by kernel_rfl) ?_
  intro a' ha
  simp only [Act.put, List.setIfInBounds_toArray, List.set_cons_zero, List.set_cons_succ] at ha
  subst ha
  refine wl_pure (pv 0 0 0 0) rfl (fun _ => by kernel_rfl) ?_
  intro a' ha
  simp only [Act.put, List.setIfInBounds_toArray, List.set_cons_zero, List.set_cons_succ] at ha
  subst ha
  refine wl_pure (.int .i64 90) rfl (fun _ => by kernel_rfl) ?_
  intro a' ha
  simp only [Act.put, List.setIfInBounds_toArray, List.set_cons_zero, List.set_cons_succ] at ha
  subst ha
  refine wl_alloc S2 (q4 0 0 0 0) 29 rfl (fun _ => by kernel_rfl) ?_
  intro b3 W4 a' S5 ha
  simp only [Act.put, List.setIfInBounds_toArray, List.set_cons_zero, List.set_cons_succ] at ha
  subst ha
  refine wl_store S5 0 b3 29 16 (.tmp 3) (.tmp 14) (q4 0 0 0 0) (q4 0 0 0 0) rfl rfl rfl rfl rfl row29 rfl rfl (q4_one _ _ _ _) ?_
  intro W6 a' S7 ha
  simp only [Act.put, List.setIfInBounds_toArray, List.set_cons_zero, List.set_cons_succ] at ha
  subst ha
  refine wl_pure (.int .i64 90) rfl (fun _ => by kernel_rfl) ?_
  intro a' ha
  simp only [Act.put, List.setIfInBounds_toArray, List.set_cons_zero, List.set_cons_succ] at ha
  subst ha
  refine wl_nil (hK _ _ ?_)
  clear hK K
  refine wp_seq_k fun K hK => ?_
  refine wr_list ?_
  refine wl_pure (.string s) rfl (fun _ => by kernel_rfl) ?_
  intro a' ha
  simp only [Act.put, List.setIfInBounds_toArray, List.set_cons_zero, List.set_cons_succ] at ha
  subst ha
  refine wl_call hZ S7 H2 rfl (fun _ => by kernel_rfl) ?_
  intro W8 a' S9 ha
  simp only [Act.put, List.setIfInBounds_toArray, List.set_cons_zero, List.set_cons_succ] at ha
  subst ha
  refine wl_pure (.tuple #[rp 0 0 0, .int .i64 90]) rfl (fun _ => by kernel_rfl) ?_
  intro a' ha
  simp only [Act.put, List.setIfInBounds_toArray, List.set_cons_zero, List.set_cons_succ] at ha
  subst ha
  refine wl_pure (rp 0 0 0) rfl (fun _ => by kernel_rfl) ?_
  intro a' ha
  simp only [Act.put, List.setIfInBounds_toArray, List.set_cons_zero, List.set_cons_succ] at ha
  subst ha
  refine wl_pure (.int .i64 90) rfl (fun _ => by kernel_rfl) ?_
  intro a' ha
  simp only [Act.put, List.setIfInBounds_toArray, List.set_cons_zero, List.set_cons_succ] at ha
  subst ha
  refine wl_alloc S9 (n27 0 0 0) 36 rfl (fun _ => by kernel_rfl) ?_
  intro b10 W11 a' S12 ha
  simp only [Act.put, List.setIfInBounds_toArray, List.set_cons_zero, List.set_cons_succ] at ha
  subst ha
  refine wl_store S12 0 b10 36 27 (.tmp 5) (.tmp 19) (n27 0 0 0) (n27 0 0 0) rfl rfl rfl rfl rfl row36 (n27_size _ _ _) (n27_size _ _ _) (n27_one _ _ _) ?_
  intro W13 a' S14 ha
  simp only [Act.put, List.setIfInBounds_toArray, List.set_cons_zero, List.set_cons_succ] at ha
  subst ha
  refine wl_pure (.int .i64 90) rfl (fun _ => by kernel_rfl) ?_
  intro a' ha
  simp only [Act.put, List.setIfInBounds_toArray, List.set_cons_zero, List.set_cons_succ] at ha
  subst ha
  refine wl_nil (hK _ _ ?_)
  clear hK K
  refine wp_seq_k fun K hK => ?_
  refine wp_seq_k fun K hK => ?_
  refine wr_list ?_
  refine wl_pure (.int .i64 90) rfl (fun _ => by kernel_rfl) ?_
  intro a' ha
  simp only [Act.put, List.setIfInBounds_toArray, List.set_cons_zero, List.set_cons_succ] at ha
  subst ha
  refine wl_pure (.int .i64 90) rfl (fun _ => by kernel_rfl) ?_
  intro a' ha
  simp only [Act.put, List.setIfInBounds_toArray, List.set_cons_zero, List.set_cons_succ] at ha
  subst ha
  refine wl_pure (.bool false) rfl (fun _ => by kernel_rfl) ?_
  intro a' ha
  simp only [Act.put, List.setIfInBounds_toArray, List.set_cons_zero, List.set_cons_succ] at ha
  subst ha
  refine wl_pure (.bool false) rfl (fun _ => by kernel_rfl) ?_
  intro a' ha
  simp only [Act.put, List.setIfInBounds_toArray, List.set_cons_zero, List.set_cons_succ] at ha
  subst ha
  refine wl_call hZ S14 H3 (by kernel_rfl) (fun _ => by kernel_rfl) ?_
  intro W15 a' S16 ha
  simp only [Act.put, List.setIfInBounds_toArray, List.set_cons_zero, List.set_cons_succ] at ha
  subst ha
  refine wl_call hZ S16 H4 (by kernel_rfl) (fun _ => by kernel_rfl) ?_
  intro W17 a' S18 ha
  simp only [Act.put, List.setIfInBounds_toArray, List.set_cons_zero, List.set_cons_succ] at ha
  subst ha
  refine wl_pure (.bool false) (by kernel_rfl) (run_ne34 (.tmp 25) (.tmp 26) _ rfl v v rfl rfl hq2) ?_
  intro a' ha
  simp only [Act.put, List.setIfInBounds_toArray, List.set_cons_zero, List.set_cons_succ] at ha
  subst ha
  refine wl_pure (.bool false) rfl (fun _ => by kernel_rfl) ?_
  intro a' ha
  simp only [Act.put, List.setIfInBounds_toArray, List.set_cons_zero, List.set_cons_succ] at ha
  subst ha
  refine wl_nil (hK _ _ ?_)
  clear hK K
  refine wp_cond_false rfl ?_
  refine wp_skip (hK _ _ ?_)
  clear hK K
  refine wp_seq_k fun K hK => ?_
  refine wp_seq_k fun K hK => ?_
  refine wr_list ?_
  refine wl_pure (.int .i64 90) rfl (fun _ => by kernel_rfl) ?_
  intro a' ha
  simp only [Act.put, List.setIfInBounds_toArray, List.set_cons_zero, List.set_cons_succ] at ha
  subst ha
  refine wl_pure (.bool true) rfl (fun _ => by kernel_rfl) ?_
  intro a' ha
  simp only [Act.put, List.setIfInBounds_toArray, List.set_cons_zero, List.set_cons_succ] at ha
  subst ha
  refine wl_nil (hK _ _ ?_)
  clear hK K
  refine wp_cond_true rfl ?_
  refine wp_seq_k fun K hK => ?_
  refine wr_list ?_
  refine wl_load S18 1 b3 0 29 16 (.tmp 3) (q4 0 0 0 0) (q4 0 0 0 0) rfl rfl rfl rfl (Sub.self _) row29 rfl ?_
  intro a' ha
  simp only [Act.put, List.setIfInBounds_toArray, List.set_cons_zero, List.set_cons_succ] at ha
  subst ha
  refine wl_call hZ S18 H5 rfl (fun _ => by kernel_rfl) ?_
  intro W19 a' S20 ha
  simp only [Act.put, List.setIfInBounds_toArray, List.set_cons_zero, List.set_cons_succ] at ha
  subst ha
  refine wl_pure (.bool true) rfl (run_eq9 (.tmp 32) (.const (.string ⟨#[]⟩)) _ rfl ⟨#[]⟩ ⟨#[]⟩ rfl rfl hq3) ?_
  intro a' ha
  simp only [Act.put, List.setIfInBounds_toArray, List.set_cons_zero, List.set_cons_succ] at ha
  subst ha
  refine wl_pure (.bool true) rfl (fun _ => by kernel_rfl) ?_
  intro a' ha
  simp only [Act.put, List.setIfInBounds_toArray, List.set_cons_zero, List.set_cons_succ] at ha
  subst ha
  refine wl_load S20 1 b3 0 29 16 (.tmp 3) (q4 0 0 0 0) (q4 0 0 0 0) (by kernel_rfl) rfl rfl rfl (Sub.self _) row29 rfl ?_
  intro a' ha
  simp only [Act.put, List.setIfInBounds_toArray, List.set_cons_zero, List.set_cons_succ] at ha
  subst ha
  refine wl_load S20 1 b3 0 29 16 (.tmp 3) (q4 0 0 0 0) (q4 0 0 0 0) (by kernel_rfl) rfl rfl rfl (Sub.self _) row29 rfl ?_
  intro a' ha
  simp only [Act.put, List.setIfInBounds_toArray, List.set_cons_zero, List.set_cons_succ] at ha
  subst ha
  refine wl_call hZ S20 H6 (by kernel_rfl) (fun _ => by kernel_rfl) ?_
  intro W21 a' S22 ha
  simp only [Act.put, List.setIfInBounds_toArray, List.set_cons_zero, List.set_cons_succ] at ha
  subst ha
  refine wl_pure (.bool true) (by kernel_rfl) (fun _ => by kernel_rfl) ?_
  intro a' ha
  simp only [Act.put, List.setIfInBounds_toArray, List.set_cons_zero, List.set_cons_succ] at ha
  subst ha
  refine wl_pure (.bool true) rfl (fun _ => by kernel_rfl) ?_
  intro a' ha
  simp only [Act.put, List.setIfInBounds_toArray, List.set_cons_zero, List.set_cons_succ] at ha
  subst ha
  refine wl_pure (.bool true) rfl (fun _ => by kernel_rfl) ?_
  intro a' ha
  simp only [Act.put, List.setIfInBounds_toArray, List.set_cons_zero, List.set_cons_succ] at ha
  subst ha
  refine wl_call hZ S22 H7 (by kernel_rfl) (fun _ => by kernel_rfl) ?_
  intro W23 a' S24 ha
  simp only [Act.put, List.setIfInBounds_toArray, List.set_cons_zero, List.set_cons_succ] at ha
  subst ha
  refine wl_pure (.bool true) rfl (fun _ => by kernel_rfl) ?_
  intro a' ha
  simp only [Act.put, List.setIfInBounds_toArray, List.set_cons_zero, List.set_cons_succ] at ha
  subst ha
  refine wl_pure (.bool true) rfl (fun _ => by kernel_rfl) ?_
  intro a' ha
  simp only [Act.put, List.setIfInBounds_toArray, List.set_cons_zero, List.set_cons_succ] at ha
  subst ha
  refine wl_nil (hK _ _ ?_)
  clear hK K
  refine wp_ret ?_
  exact fin_tmp S24 rfl rfl rfl
theorem reads_yes {Z : World → Prop} (hZ : Keeps Z) {x1 y1 z1 t1 x2 y2 z2 v : Nat} {s : ByteArray} (H1 : Ret Z 9 #[.string s] (.tuple #[pv x1 y1 z1 t1, .int .i64 0])) (H2 : Ret Z 10 #[.string s] (.tuple #[rp x2 y2 z2, .int .i64 0])) (H3 : Ret Z 11 #[] (nd v)) (H4 : Ret Z 12 #[] (nd v)) (H5 : Ret Z 13 #[pv x1 y1 z1 t1] (.string s)) (H6 : Ret Z 15 #[pv x1 y1 z1 t1, rp x2 y2 z2] (.bool true)) (H7 : Ret Z 16 #[rp x2 y2 z2] (.bool true)) (H8 : Ret Z 8 #[] (.bool true)) (hq1 : decide (4096 < (s.size : Int)) = false) (hq2 : decide (dts v = dts v) = true) (hq3 : ((s : ByteArray).toList == (s : ByteArray).toList) = true) : Ret Z 3 #[.string s] (.bool true) := by
  intro w hw
  have S := St.refl hw
  go_enter Tryd.func3, Tryd.ntmps3
  refine wp_seq_k fun K hK => ?_
  refine wr_list ?_
  refine wl_pure (.bool false) rfl (fun _ => by kernel_rfl) ?_
  intro a' ha
  simp only [Act.put, List.setIfInBounds_toArray, List.set_cons_zero, List.set_cons_succ] at ha
  subst ha
  refine wl_nil (hK _ _ ?_)
  clear hK K
  refine wp_seq_k fun K hK => ?_
  refine wp_seq_k fun K hK => ?_
  refine wr_list ?_
  refine wl_pure (.string s) rfl (fun _ => by kernel_rfl) ?_
  intro a' ha
  simp only [Act.put, List.setIfInBounds_toArray, List.set_cons_zero, List.set_cons_succ] at ha
  subst ha
  refine wl_pure (.int .i64 (s.size : Int)) rfl (fun _ => by kernel_rfl) ?_
  intro a' ha
  simp only [Act.put, List.setIfInBounds_toArray, List.set_cons_zero, List.set_cons_succ] at ha
  subst ha
  refine wl_pure (.bool false) rfl (fun _ => (show (execOp _ _).run Tryd.prog _ = .ok (.value (.bool (decide (4096 < (s.size : Int))))) _ from by kernel_rfl).trans (by rw [hq1])) ?_
  intro a' ha
  simp only [Act.put, List.setIfInBounds_toArray, List.set_cons_zero, List.set_cons_succ] at ha
  subst ha
  refine wl_nil (hK _ _ ?_)
  clear hK K
  refine wp_cond_false rfl ?_
  refine wp_skip (hK _ _ ?_)
  clear hK K
  refine wp_seq_k fun K hK => ?_
  refine wr_list ?_
  refine wl_pure (.string s) rfl (fun _ => by kernel_rfl) ?_
  intro a' ha
  simp only [Act.put, List.setIfInBounds_toArray, List.set_cons_zero, List.set_cons_succ] at ha
  subst ha
  refine wl_call hZ S H1 rfl (fun _ => by kernel_rfl) ?_
  intro W1 a' S2 ha
  simp only [Act.put, List.setIfInBounds_toArray, List.set_cons_zero, List.set_cons_succ] at ha
  subst ha
  refine wl_pure (.tuple #[pv x1 y1 z1 t1, .int .i64 0]) rfl (fun _ => by kernel_rfl) ?_
  intro a' ha
  simp only [Act.put, List.setIfInBounds_toArray, List.set_cons_zero, List.set_cons_succ] at ha
  subst ha
  refine wl_pure (pv x1 y1 z1 t1) rfl (fun _ => by kernel_rfl) ?_
  intro a' ha
  simp only [Act.put, List.setIfInBounds_toArray, List.set_cons_zero, List.set_cons_succ] at ha
  subst ha
  refine wl_pure (.int .i64 0) rfl (fun _ => by kernel_rfl) ?_
  intro a' ha
  simp only [Act.put, List.setIfInBounds_toArray, List.set_cons_zero, List.set_cons_succ] at ha
  subst ha
  refine wl_alloc S2 (q4 0 0 0 0) 29 rfl (fun _ => by kernel_rfl) ?_
  intro b3 W4 a' S5 ha
  simp only [Act.put, List.setIfInBounds_toArray, List.set_cons_zero, List.set_cons_succ] at ha
  subst ha
  refine wl_store S5 0 b3 29 16 (.tmp 3) (.tmp 14) (q4 0 0 0 0) (q4 x1 y1 z1 t1) rfl rfl rfl rfl rfl row29 rfl rfl (q4_one _ _ _ _) ?_
  intro W6 a' S7 ha
  simp only [Act.put, List.setIfInBounds_toArray, List.set_cons_zero, List.set_cons_succ] at ha
  subst ha
  refine wl_pure (.int .i64 0) rfl (fun _ => by kernel_rfl) ?_
  intro a' ha
  simp only [Act.put, List.setIfInBounds_toArray, List.set_cons_zero, List.set_cons_succ] at ha
  subst ha
  refine wl_nil (hK _ _ ?_)
  clear hK K
  refine wp_seq_k fun K hK => ?_
  refine wr_list ?_
  refine wl_pure (.string s) rfl (fun _ => by kernel_rfl) ?_
  intro a' ha
  simp only [Act.put, List.setIfInBounds_toArray, List.set_cons_zero, List.set_cons_succ] at ha
  subst ha
  refine wl_call hZ S7 H2 rfl (fun _ => by kernel_rfl) ?_
  intro W8 a' S9 ha
  simp only [Act.put, List.setIfInBounds_toArray, List.set_cons_zero, List.set_cons_succ] at ha
  subst ha
  refine wl_pure (.tuple #[rp x2 y2 z2, .int .i64 0]) rfl (fun _ => by kernel_rfl) ?_
  intro a' ha
  simp only [Act.put, List.setIfInBounds_toArray, List.set_cons_zero, List.set_cons_succ] at ha
  subst ha
  refine wl_pure (rp x2 y2 z2) rfl (fun _ => by kernel_rfl) ?_
  intro a' ha
  simp only [Act.put, List.setIfInBounds_toArray, List.set_cons_zero, List.set_cons_succ] at ha
  subst ha
  refine wl_pure (.int .i64 0) rfl (fun _ => by kernel_rfl) ?_
  intro a' ha
  simp only [Act.put, List.setIfInBounds_toArray, List.set_cons_zero, List.set_cons_succ] at ha
  subst ha
  refine wl_alloc S9 (n27 0 0 0) 36 rfl (fun _ => by kernel_rfl) ?_
  intro b10 W11 a' S12 ha
  simp only [Act.put, List.setIfInBounds_toArray, List.set_cons_zero, List.set_cons_succ] at ha
  subst ha
  refine wl_store S12 0 b10 36 27 (.tmp 5) (.tmp 19) (n27 0 0 0) (n27 x2 y2 z2) rfl rfl rfl rfl rfl row36 (n27_size _ _ _) (n27_size _ _ _) (n27_one _ _ _) ?_
  intro W13 a' S14 ha
  simp only [Act.put, List.setIfInBounds_toArray, List.set_cons_zero, List.set_cons_succ] at ha
  subst ha
  refine wl_pure (.int .i64 0) rfl (fun _ => by kernel_rfl) ?_
  intro a' ha
  simp only [Act.put, List.setIfInBounds_toArray, List.set_cons_zero, List.set_cons_succ] at ha
  subst ha
  refine wl_nil (hK _ _ ?_)
  clear hK K
  refine wp_seq_k fun K hK => ?_
  refine wp_seq_k fun K hK => ?_
  refine wr_list ?_
  refine wl_pure (.int .i64 0) rfl (fun _ => by kernel_rfl) ?_
  intro a' ha
  simp only [Act.put, List.setIfInBounds_toArray, List.set_cons_zero, List.set_cons_succ] at ha
  subst ha
  refine wl_pure (.int .i64 0) rfl (fun _ => by kernel_rfl) ?_
  intro a' ha
  simp only [Act.put, List.setIfInBounds_toArray, List.set_cons_zero, List.set_cons_succ] at ha
  subst ha
  refine wl_pure (.bool false) rfl (fun _ => by kernel_rfl) ?_
  intro a' ha
  simp only [Act.put, List.setIfInBounds_toArray, List.set_cons_zero, List.set_cons_succ] at ha
  subst ha
  refine wl_pure (.bool false) rfl (fun _ => by kernel_rfl) ?_
  intro a' ha
  simp only [Act.put, List.setIfInBounds_toArray, List.set_cons_zero, List.set_cons_succ] at ha
  subst ha
  refine wl_call hZ S14 H3 (by kernel_rfl) (fun _ => by kernel_rfl) ?_
  intro W15 a' S16 ha
  simp only [Act.put, List.setIfInBounds_toArray, List.set_cons_zero, List.set_cons_succ] at ha
  subst ha
  refine wl_call hZ S16 H4 (by kernel_rfl) (fun _ => by kernel_rfl) ?_
  intro W17 a' S18 ha
  simp only [Act.put, List.setIfInBounds_toArray, List.set_cons_zero, List.set_cons_succ] at ha
  subst ha
  refine wl_pure (.bool false) (by kernel_rfl) (run_ne34 (.tmp 25) (.tmp 26) _ rfl v v rfl rfl hq2) ?_
  intro a' ha
  simp only [Act.put, List.setIfInBounds_toArray, List.set_cons_zero, List.set_cons_succ] at ha
  subst ha
  refine wl_pure (.bool false) rfl (fun _ => by kernel_rfl) ?_
  intro a' ha
  simp only [Act.put, List.setIfInBounds_toArray, List.set_cons_zero, List.set_cons_succ] at ha
  subst ha
  refine wl_nil (hK _ _ ?_)
  clear hK K
  refine wp_cond_false rfl ?_
  refine wp_skip (hK _ _ ?_)
  clear hK K
  refine wp_seq_k fun K hK => ?_
  refine wp_seq_k fun K hK => ?_
  refine wr_list ?_
  refine wl_pure (.int .i64 0) rfl (fun _ => by kernel_rfl) ?_
  intro a' ha
  simp only [Act.put, List.setIfInBounds_toArray, List.set_cons_zero, List.set_cons_succ] at ha
  subst ha
  refine wl_pure (.bool false) rfl (fun _ => by kernel_rfl) ?_
  intro a' ha
  simp only [Act.put, List.setIfInBounds_toArray, List.set_cons_zero, List.set_cons_succ] at ha
  subst ha
  refine wl_nil (hK _ _ ?_)
  clear hK K
  refine wp_cond_false rfl ?_
  refine wp_skip (hK _ _ ?_)
  clear hK K
  refine wp_seq_k fun K hK => ?_
  refine wr_list ?_
  refine wl_load S18 1 b3 0 29 16 (.tmp 3) (q4 x1 y1 z1 t1) (q4 x1 y1 z1 t1) rfl rfl rfl rfl (Sub.self _) row29 rfl ?_
  intro a' ha
  simp only [Act.put, List.setIfInBounds_toArray, List.set_cons_zero, List.set_cons_succ] at ha
  subst ha
  refine wl_call hZ S18 H5 rfl (fun _ => by kernel_rfl) ?_
  intro W19 a' S20 ha
  simp only [Act.put, List.setIfInBounds_toArray, List.set_cons_zero, List.set_cons_succ] at ha
  subst ha
  refine wl_pure (.string s) rfl (fun _ => by kernel_rfl) ?_
  intro a' ha
  simp only [Act.put, List.setIfInBounds_toArray, List.set_cons_zero, List.set_cons_succ] at ha
  subst ha
  refine wl_pure (.bool true) rfl (run_eq9 (.tmp 44) (.tmp 45) _ rfl s s rfl rfl hq3) ?_
  intro a' ha
  simp only [Act.put, List.setIfInBounds_toArray, List.set_cons_zero, List.set_cons_succ] at ha
  subst ha
  refine wl_pure (.bool true) rfl (fun _ => by kernel_rfl) ?_
  intro a' ha
  simp only [Act.put, List.setIfInBounds_toArray, List.set_cons_zero, List.set_cons_succ] at ha
  subst ha
  refine wl_load S20 1 b3 0 29 16 (.tmp 3) (q4 x1 y1 z1 t1) (q4 x1 y1 z1 t1) (by kernel_rfl) rfl rfl rfl (Sub.self _) row29 rfl ?_
  intro a' ha
  simp only [Act.put, List.setIfInBounds_toArray, List.set_cons_zero, List.set_cons_succ] at ha
  subst ha
  refine wl_load S20 0 b10 0 36 27 (.tmp 5) (n27 x2 y2 z2) (n27 x2 y2 z2) (by kernel_rfl) rfl rfl rfl (Sub.self _) row36 (n27_size _ _ _) ?_
  intro a' ha
  simp only [Act.put, List.setIfInBounds_toArray, List.set_cons_zero, List.set_cons_succ] at ha
  subst ha
  refine wl_call hZ S20 H6 (by kernel_rfl) (fun _ => by kernel_rfl) ?_
  intro W21 a' S22 ha
  simp only [Act.put, List.setIfInBounds_toArray, List.set_cons_zero, List.set_cons_succ] at ha
  subst ha
  refine wl_pure (.bool true) rfl (fun _ => by kernel_rfl) ?_
  intro a' ha
  simp only [Act.put, List.setIfInBounds_toArray, List.set_cons_zero, List.set_cons_succ] at ha
  subst ha
  refine wl_pure (.bool true) rfl (fun _ => by kernel_rfl) ?_
  intro a' ha
  simp only [Act.put, List.setIfInBounds_toArray, List.set_cons_zero, List.set_cons_succ] at ha
  subst ha
  refine wl_load S22 0 b10 0 36 27 (.tmp 5) (n27 x2 y2 z2) (n27 x2 y2 z2) (by kernel_rfl) rfl rfl rfl (Sub.self _) row36 (n27_size _ _ _) ?_
  intro a' ha
  simp only [Act.put, List.setIfInBounds_toArray, List.set_cons_zero, List.set_cons_succ] at ha
  subst ha
  refine wl_call hZ S22 H7 (by kernel_rfl) (fun _ => by kernel_rfl) ?_
  intro W23 a' S24 ha
  simp only [Act.put, List.setIfInBounds_toArray, List.set_cons_zero, List.set_cons_succ] at ha
  subst ha
  refine wl_pure (.bool true) rfl (fun _ => by kernel_rfl) ?_
  intro a' ha
  simp only [Act.put, List.setIfInBounds_toArray, List.set_cons_zero, List.set_cons_succ] at ha
  subst ha
  refine wl_pure (.bool true) rfl (fun _ => by kernel_rfl) ?_
  intro a' ha
  simp only [Act.put, List.setIfInBounds_toArray, List.set_cons_zero, List.set_cons_succ] at ha
  subst ha
  refine wl_call hZ S24 H8 (by kernel_rfl) (fun _ => by kernel_rfl) ?_
  intro W25 a' S26 ha
  simp only [Act.put, List.setIfInBounds_toArray, List.set_cons_zero, List.set_cons_succ] at ha
  subst ha
  refine wl_pure (.bool true) rfl (fun _ => by kernel_rfl) ?_
  intro a' ha
  simp only [Act.put, List.setIfInBounds_toArray, List.set_cons_zero, List.set_cons_succ] at ha
  subst ha
  refine wl_pure (.bool true) rfl (fun _ => by kernel_rfl) ?_
  intro a' ha
  simp only [Act.put, List.setIfInBounds_toArray, List.set_cons_zero, List.set_cons_succ] at ha
  subst ha
  refine wl_nil (hK _ _ ?_)
  clear hK K
  refine wp_ret ?_
  exact fin_tmp S26 rfl rfl rfl
theorem reads_any (s : ByteArray) : Ret PV 3 #[.string s] (.bool true) := by
  by_cases hl : 4096 < s.size
  · exact reads_long keeps2 (c_alive env2) (decide_eq_true (by omega))
  · have hl' : decide ((4096 : Int) < (s.size : Int)) = false := decide_eq_false (by omega)
    by_cases h : ∃ p : Ed.Pt, p.On ∧ enc p = s
    · obtain ⟨p, hp, rfl⟩ := h
      have h1 : Is (atp p.x.val p.y.val) p := Is.at (Ed.val_lt _) (Ed.val_lt _) (Ed.fe_of _) (Ed.fe_of _) hp
      have h2 : IsR ⟨p.x.val, p.y.val, 1⟩ p := IsR.at (Ed.val_lt _) (Ed.val_lt _) (Ed.fe_of _) (Ed.fe_of _) hp
      exact reads_yes keeps2 (c_dec env2 hp) (d_dec env2 hp) (d_given env2) (d_d env2) (c_bytes env2 h1) (c_is env2 h1 h2) (d_on env2 h2) (c_alive env2) hl' (by simp) (by simp)
    · have h1 := c_dec_no env2 h
      have h2 := d_dec_no env2 h
      by_cases hs : s.size = 32
      · rw [if_pos hs] at h1 h2
        exact reads_no90 keeps2 h1 h2 (d_given env2) (d_d env2) (c_bytes0 env2) (same_no1 keeps2 (c_none env2)) (c_alive env2) hl' (by simp) (by simp)
      · rw [if_neg hs] at h1 h2
        exact reads_no2 keeps2 h1 h2 (d_given env2) (d_d env2) (c_bytes0 env2) (same_no1 keeps2 (c_none env2)) (c_alive env2) hl' (by simp) (by simp)
end Go.Proofs.YtpdagpjjlnncbaaDoor
