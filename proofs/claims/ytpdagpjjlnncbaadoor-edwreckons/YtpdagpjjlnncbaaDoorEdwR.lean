/-
  EdwReckons: its walk. No statement is proved here.
-/
import Derived.Test.YtpdagpjjlnncbaaDoorEdwQ
namespace Go.Proofs.YtpdagpjjlnncbaaDoor
open Go.RowKit Go.Lib Go.BigFrame
set_option linter.unusedVariables false
set_option linter.unusedSimpArgs false
set_option maxRecDepth 1000000
set_option maxHeartbeats 4000000

theorem reck_no1 {Z : World → Prop} (hZ : Keeps Z) {x1 y1 z1 t1 x2 y2 z2 t2 a b : Nat} {s t m n : ByteArray} {e f g h : Int} (H1 : Ret Z 9 #[.string s] (.tuple #[pv x1 y1 z1 t1, .int .i64 e])) (H2 : Ret Z 9 #[.string t] (.tuple #[pv x2 y2 z2 t2, .int .i64 f])) (H3 : Ret Z 17 #[.string m] (.tuple #[wd a, .int .i64 g])) (H4 : Ret Z 17 #[.string n] (.tuple #[wd b, .int .i64 h])) (H5 : Ret Z 8 #[] (.bool true)) (hq1 : decide (e = 0) = false) : Ret Z 4 #[.string s, .string t, .string m, .string n] (.bool true) := by
  intro w hw
  have S := St.refl hw
  go_enter Tryd.func4, Tryd.ntmps4
  refine wp_seq_k fun K hK => ?_
  refine wr_list ?_
  refine wl_pure (.bool false) rfl (fun _ => by kernel_rfl) ?_
  intro a' ha
  simp only [Act.put, pA, pO, pS] at ha
  subst ha
  refine wl_nil (hK _ _ ?_)
  clear hK K
  refine wp_seq_k fun K hK => ?_
  refine wr_list ?_
  refine wl_pure (.string s) rfl (fun _ => by kernel_rfl) ?_
  intro a' ha
  simp only [Act.put, pA, pO, pS] at ha
  subst ha
  refine wl_call hZ S H1 rfl (fun _ => by kernel_rfl) ?_
  intro W1 a' S2 ha
  simp only [Act.put, pA, pO, pS] at ha
  subst ha
  refine wl_pure (.tuple #[pv x1 y1 z1 t1, .int .i64 e]) rfl (fun _ => by kernel_rfl) ?_
  intro a' ha
  simp only [Act.put, pA, pO, pS] at ha
  subst ha
  refine wl_pure (pv x1 y1 z1 t1) rfl (fun _ => by kernel_rfl) ?_
  intro a' ha
  simp only [Act.put, pA, pO, pS] at ha
  subst ha
  refine wl_pure (.int .i64 e) rfl (fun _ => by kernel_rfl) ?_
  intro a' ha
  simp only [Act.put, pA, pO, pS] at ha
  subst ha
  refine wl_alloc S2 (q4 0 0 0 0) 29 rfl (fun _ => by kernel_rfl) ?_
  intro b3 W4 a' S5 ha
  simp only [Act.put, pA, pO, pS] at ha
  subst ha
  refine wl_store S5 0 b3 29 16 (.tmp 9) (.tmp 24) (q4 0 0 0 0) (q4 x1 y1 z1 t1) rfl rfl rfl rfl rfl row29 rfl rfl (q4_one _ _ _ _) ?_
  intro W6 a' S7 ha
  simp only [Act.put, pA, pO, pS] at ha
  subst ha
  refine wl_pure (.int .i64 e) rfl (fun _ => by kernel_rfl) ?_
  intro a' ha
  simp only [Act.put, pA, pO, pS] at ha
  subst ha
  refine wl_nil (hK _ _ ?_)
  clear hK K
  refine wp_seq_k fun K hK => ?_
  refine wr_list ?_
  refine wl_pure (.string t) rfl (fun _ => by kernel_rfl) ?_
  intro a' ha
  simp only [Act.put, pA, pO, pS] at ha
  subst ha
  refine wl_call hZ S7 H2 rfl (fun _ => by kernel_rfl) ?_
  intro W8 a' S9 ha
  simp only [Act.put, pA, pO, pS] at ha
  subst ha
  refine wl_pure (.tuple #[pv x2 y2 z2 t2, .int .i64 f]) rfl (fun _ => by kernel_rfl) ?_
  intro a' ha
  simp only [Act.put, pA, pO, pS] at ha
  subst ha
  refine wl_pure (pv x2 y2 z2 t2) rfl (fun _ => by kernel_rfl) ?_
  intro a' ha
  simp only [Act.put, pA, pO, pS] at ha
  subst ha
  refine wl_pure (.int .i64 f) rfl (fun _ => by kernel_rfl) ?_
  intro a' ha
  simp only [Act.put, pA, pO, pS] at ha
  subst ha
  refine wl_alloc S9 (q4 0 0 0 0) 29 rfl (fun _ => by kernel_rfl) ?_
  intro b10 W11 a' S12 ha
  simp only [Act.put, pA, pO, pS] at ha
  subst ha
  refine wl_store S12 0 b10 29 16 (.tmp 11) (.tmp 29) (q4 0 0 0 0) (q4 x2 y2 z2 t2) rfl rfl rfl rfl rfl row29 rfl rfl (q4_one _ _ _ _) ?_
  intro W13 a' S14 ha
  simp only [Act.put, pA, pO, pS] at ha
  subst ha
  refine wl_pure (.int .i64 f) rfl (fun _ => by kernel_rfl) ?_
  intro a' ha
  simp only [Act.put, pA, pO, pS] at ha
  subst ha
  refine wl_nil (hK _ _ ?_)
  clear hK K
  refine wp_seq_k fun K hK => ?_
  refine wr_list ?_
  refine wl_pure (.string m) rfl (fun _ => by kernel_rfl) ?_
  intro a' ha
  simp only [Act.put, pA, pO, pS] at ha
  subst ha
  refine wl_call hZ S14 H3 rfl (fun _ => by kernel_rfl) ?_
  intro W15 a' S16 ha
  simp only [Act.put, pA, pO, pS] at ha
  subst ha
  refine wl_pure (.tuple #[wd a, .int .i64 g]) rfl (fun _ => by kernel_rfl) ?_
  intro a' ha
  simp only [Act.put, pA, pO, pS] at ha
  subst ha
  refine wl_pure (wd a) rfl (fun _ => by kernel_rfl) ?_
  intro a' ha
  simp only [Act.put, pA, pO, pS] at ha
  subst ha
  refine wl_pure (.int .i64 g) rfl (fun _ => by kernel_rfl) ?_
  intro a' ha
  simp only [Act.put, pA, pO, pS] at ha
  subst ha
  refine wl_alloc S16 (e4 0) 46 rfl (fun _ => by kernel_rfl) ?_
  intro b17 W18 a' S19 ha
  simp only [Act.put, pA, pO, pS] at ha
  subst ha
  refine wl_store S19 0 b17 46 4 (.tmp 13) (.tmp 34) (e4 0) (e4 a) rfl rfl rfl rfl rfl row46 rfl rfl (e4_one _) ?_
  intro W20 a' S21 ha
  simp only [Act.put, pA, pO, pS] at ha
  subst ha
  refine wl_pure (.int .i64 g) rfl (fun _ => by kernel_rfl) ?_
  intro a' ha
  simp only [Act.put, pA, pO, pS] at ha
  subst ha
  refine wl_nil (hK _ _ ?_)
  clear hK K
  refine wp_seq_k fun K hK => ?_
  refine wr_list ?_
  refine wl_pure (.string n) rfl (fun _ => by kernel_rfl) ?_
  intro a' ha
  simp only [Act.put, pA, pO, pS] at ha
  subst ha
  refine wl_call hZ S21 H4 rfl (fun _ => by kernel_rfl) ?_
  intro W22 a' S23 ha
  simp only [Act.put, pA, pO, pS] at ha
  subst ha
  refine wl_pure (.tuple #[wd b, .int .i64 h]) rfl (fun _ => by kernel_rfl) ?_
  intro a' ha
  simp only [Act.put, pA, pO, pS] at ha
  subst ha
  refine wl_pure (wd b) rfl (fun _ => by kernel_rfl) ?_
  intro a' ha
  simp only [Act.put, pA, pO, pS] at ha
  subst ha
  refine wl_pure (.int .i64 h) rfl (fun _ => by kernel_rfl) ?_
  intro a' ha
  simp only [Act.put, pA, pO, pS] at ha
  subst ha
  refine wl_alloc S23 (e4 0) 46 rfl (fun _ => by kernel_rfl) ?_
  intro b24 W25 a' S26 ha
  simp only [Act.put, pA, pO, pS] at ha
  subst ha
  refine wl_store S26 0 b24 46 4 (.tmp 15) (.tmp 39) (e4 0) (e4 b) rfl rfl rfl rfl rfl row46 rfl rfl (e4_one _) ?_
  intro W27 a' S28 ha
  simp only [Act.put, pA, pO, pS] at ha
  subst ha
  refine wl_pure (.int .i64 h) rfl (fun _ => by kernel_rfl) ?_
  intro a' ha
  simp only [Act.put, pA, pO, pS] at ha
  subst ha
  refine wl_nil (hK _ _ ?_)
  clear hK K
  refine wp_seq_k fun K hK => ?_
  refine wp_seq_k fun K hK => ?_
  refine wr_list ?_
  refine wl_pure (.int .i64 e) rfl (fun _ => by kernel_rfl) ?_
  intro a' ha
  simp only [Act.put, pA, pO, pS] at ha
  subst ha
  refine wl_pure (.bool true) rfl (fun _ => (show (execOp _ _).run Tryd.prog _ = .ok (.value (.bool (!decide (e = 0)))) _ from by kernel_rfl).trans (by rw [hq1]; rfl)) ?_
  intro a' ha
  simp only [Act.put, pA, pO, pS] at ha
  subst ha
  refine wl_pure (.bool true) rfl (fun _ => by kernel_rfl) ?_
  intro a' ha
  simp only [Act.put, pA, pO, pS] at ha
  subst ha
  refine wl_skip (by kernel_rfl) ?_
  intro a' ha
  simp only [Act.put, pA, pO, pS] at ha
  subst ha
  refine wl_skip (by kernel_rfl) ?_
  intro a' ha
  simp only [Act.put, pA, pO, pS] at ha
  subst ha
  refine wl_pure (.bool true) rfl (fun _ => by kernel_rfl) ?_
  intro a' ha
  simp only [Act.put, pA, pO, pS] at ha
  subst ha
  refine wl_pure (.bool true) rfl (fun _ => by kernel_rfl) ?_
  intro a' ha
  simp only [Act.put, pA, pO, pS] at ha
  subst ha
  refine wl_skip (by kernel_rfl) ?_
  intro a' ha
  simp only [Act.put, pA, pO, pS] at ha
  subst ha
  refine wl_skip (by kernel_rfl) ?_
  intro a' ha
  simp only [Act.put, pA, pO, pS] at ha
  subst ha
  refine wl_pure (.bool true) rfl (fun _ => by kernel_rfl) ?_
  intro a' ha
  simp only [Act.put, pA, pO, pS] at ha
  subst ha
  refine wl_pure (.bool true) rfl (fun _ => by kernel_rfl) ?_
  intro a' ha
  simp only [Act.put, pA, pO, pS] at ha
  subst ha
  refine wl_skip (by kernel_rfl) ?_
  intro a' ha
  simp only [Act.put, pA, pO, pS] at ha
  subst ha
  refine wl_skip (by kernel_rfl) ?_
  intro a' ha
  simp only [Act.put, pA, pO, pS] at ha
  subst ha
  refine wl_pure (.bool true) rfl (fun _ => by kernel_rfl) ?_
  intro a' ha
  simp only [Act.put, pA, pO, pS] at ha
  subst ha
  refine wl_nil (hK _ _ ?_)
  clear hK K
  refine wp_cond_true rfl ?_
  refine wp_seq_k fun K hK => ?_
  refine wr_list ?_
  refine wl_call hZ S28 H5 rfl (fun _ => by kernel_rfl) ?_
  intro W29 a' S30 ha
  simp only [Act.put, pA, pO, pS] at ha
  subst ha
  refine wl_pure (.bool true) rfl (fun _ => by kernel_rfl) ?_
  intro a' ha
  simp only [Act.put, pA, pO, pS] at ha
  subst ha
  refine wl_nil (hK _ _ ?_)
  clear hK K
  refine wp_ret ?_
  exact fin_tmp S30 rfl rfl rfl
theorem reck_no2 {Z : World → Prop} (hZ : Keeps Z) {x1 y1 z1 t1 x2 y2 z2 t2 a b : Nat} {s t m n : ByteArray} {e f g : Int} (H1 : Ret Z 9 #[.string s] (.tuple #[pv x1 y1 z1 t1, .int .i64 0])) (H2 : Ret Z 9 #[.string t] (.tuple #[pv x2 y2 z2 t2, .int .i64 e])) (H3 : Ret Z 17 #[.string m] (.tuple #[wd a, .int .i64 f])) (H4 : Ret Z 17 #[.string n] (.tuple #[wd b, .int .i64 g])) (H5 : Ret Z 8 #[] (.bool true)) (hq1 : decide (e = 0) = false) : Ret Z 4 #[.string s, .string t, .string m, .string n] (.bool true) := by
  intro w hw
  have S := St.refl hw
  go_enter Tryd.func4, Tryd.ntmps4
  refine wp_seq_k fun K hK => ?_
  refine wr_list ?_
  refine wl_pure (.bool false) rfl (fun _ => by kernel_rfl) ?_
  intro a' ha
  simp only [Act.put, pA, pO, pS] at ha
  subst ha
  refine wl_nil (hK _ _ ?_)
  clear hK K
  refine wp_seq_k fun K hK => ?_
  refine wr_list ?_
  refine wl_pure (.string s) rfl (fun _ => by kernel_rfl) ?_
  intro a' ha
  simp only [Act.put, pA, pO, pS] at ha
  subst ha
  refine wl_call hZ S H1 rfl (fun _ => by kernel_rfl) ?_
  intro W1 a' S2 ha
  simp only [Act.put, pA, pO, pS] at ha
  subst ha
  refine wl_pure (.tuple #[pv x1 y1 z1 t1, .int .i64 0]) rfl (fun _ => by kernel_rfl) ?_
  intro a' ha
  simp only [Act.put, pA, pO, pS] at ha
  subst ha
  refine wl_pure (pv x1 y1 z1 t1) rfl (fun _ => by kernel_rfl) ?_
  intro a' ha
  simp only [Act.put, pA, pO, pS] at ha
  subst ha
  refine wl_pure (.int .i64 0) rfl (fun _ => by kernel_rfl) ?_
  intro a' ha
  simp only [Act.put, pA, pO, pS] at ha
  subst ha
  refine wl_alloc S2 (q4 0 0 0 0) 29 rfl (fun _ => by kernel_rfl) ?_
  intro b3 W4 a' S5 ha
  simp only [Act.put, pA, pO, pS] at ha
  subst ha
  refine wl_store S5 0 b3 29 16 (.tmp 9) (.tmp 24) (q4 0 0 0 0) (q4 x1 y1 z1 t1) rfl rfl rfl rfl rfl row29 rfl rfl (q4_one _ _ _ _) ?_
  intro W6 a' S7 ha
  simp only [Act.put, pA, pO, pS] at ha
  subst ha
  refine wl_pure (.int .i64 0) rfl (fun _ => by kernel_rfl) ?_
  intro a' ha
  simp only [Act.put, pA, pO, pS] at ha
  subst ha
  refine wl_nil (hK _ _ ?_)
  clear hK K
  refine wp_seq_k fun K hK => ?_
  refine wr_list ?_
  refine wl_pure (.string t) rfl (fun _ => by kernel_rfl) ?_
  intro a' ha
  simp only [Act.put, pA, pO, pS] at ha
  subst ha
  refine wl_call hZ S7 H2 rfl (fun _ => by kernel_rfl) ?_
  intro W8 a' S9 ha
  simp only [Act.put, pA, pO, pS] at ha
  subst ha
  refine wl_pure (.tuple #[pv x2 y2 z2 t2, .int .i64 e]) rfl (fun _ => by kernel_rfl) ?_
  intro a' ha
  simp only [Act.put, pA, pO, pS] at ha
  subst ha
  refine wl_pure (pv x2 y2 z2 t2) rfl (fun _ => by kernel_rfl) ?_
  intro a' ha
  simp only [Act.put, pA, pO, pS] at ha
  subst ha
  refine wl_pure (.int .i64 e) rfl (fun _ => by kernel_rfl) ?_
  intro a' ha
  simp only [Act.put, pA, pO, pS] at ha
  subst ha
  refine wl_alloc S9 (q4 0 0 0 0) 29 rfl (fun _ => by kernel_rfl) ?_
  intro b10 W11 a' S12 ha
  simp only [Act.put, pA, pO, pS] at ha
  subst ha
  refine wl_store S12 0 b10 29 16 (.tmp 11) (.tmp 29) (q4 0 0 0 0) (q4 x2 y2 z2 t2) rfl rfl rfl rfl rfl row29 rfl rfl (q4_one _ _ _ _) ?_
  intro W13 a' S14 ha
  simp only [Act.put, pA, pO, pS] at ha
  subst ha
  refine wl_pure (.int .i64 e) rfl (fun _ => by kernel_rfl) ?_
  intro a' ha
  simp only [Act.put, pA, pO, pS] at ha
  subst ha
  refine wl_nil (hK _ _ ?_)
  clear hK K
  refine wp_seq_k fun K hK => ?_
  refine wr_list ?_
  refine wl_pure (.string m) rfl (fun _ => by kernel_rfl) ?_
  intro a' ha
  simp only [Act.put, pA, pO, pS] at ha
  subst ha
  refine wl_call hZ S14 H3 rfl (fun _ => by kernel_rfl) ?_
  intro W15 a' S16 ha
  simp only [Act.put, pA, pO, pS] at ha
  subst ha
  refine wl_pure (.tuple #[wd a, .int .i64 f]) rfl (fun _ => by kernel_rfl) ?_
  intro a' ha
  simp only [Act.put, pA, pO, pS] at ha
  subst ha
  refine wl_pure (wd a) rfl (fun _ => by kernel_rfl) ?_
  intro a' ha
  simp only [Act.put, pA, pO, pS] at ha
  subst ha
  refine wl_pure (.int .i64 f) rfl (fun _ => by kernel_rfl) ?_
  intro a' ha
  simp only [Act.put, pA, pO, pS] at ha
  subst ha
  refine wl_alloc S16 (e4 0) 46 rfl (fun _ => by kernel_rfl) ?_
  intro b17 W18 a' S19 ha
  simp only [Act.put, pA, pO, pS] at ha
  subst ha
  refine wl_store S19 0 b17 46 4 (.tmp 13) (.tmp 34) (e4 0) (e4 a) rfl rfl rfl rfl rfl row46 rfl rfl (e4_one _) ?_
  intro W20 a' S21 ha
  simp only [Act.put, pA, pO, pS] at ha
  subst ha
  refine wl_pure (.int .i64 f) rfl (fun _ => by kernel_rfl) ?_
  intro a' ha
  simp only [Act.put, pA, pO, pS] at ha
  subst ha
  refine wl_nil (hK _ _ ?_)
  clear hK K
  refine wp_seq_k fun K hK => ?_
  refine wr_list ?_
  refine wl_pure (.string n) rfl (fun _ => by kernel_rfl) ?_
  intro a' ha
  simp only [Act.put, pA, pO, pS] at ha
  subst ha
  refine wl_call hZ S21 H4 rfl (fun _ => by kernel_rfl) ?_
  intro W22 a' S23 ha
  simp only [Act.put, pA, pO, pS] at ha
  subst ha
  refine wl_pure (.tuple #[wd b, .int .i64 g]) rfl (fun _ => by kernel_rfl) ?_
  intro a' ha
  simp only [Act.put, pA, pO, pS] at ha
  subst ha
  refine wl_pure (wd b) rfl (fun _ => by kernel_rfl) ?_
  intro a' ha
  simp only [Act.put, pA, pO, pS] at ha
  subst ha
  refine wl_pure (.int .i64 g) rfl (fun _ => by kernel_rfl) ?_
  intro a' ha
  simp only [Act.put, pA, pO, pS] at ha
  subst ha
  refine wl_alloc S23 (e4 0) 46 rfl (fun _ => by kernel_rfl) ?_
  intro b24 W25 a' S26 ha
  simp only [Act.put, pA, pO, pS] at ha
  subst ha
  refine wl_store S26 0 b24 46 4 (.tmp 15) (.tmp 39) (e4 0) (e4 b) rfl rfl rfl rfl rfl row46 rfl rfl (e4_one _) ?_
  intro W27 a' S28 ha
  simp only [Act.put, pA, pO, pS] at ha
  subst ha
  refine wl_pure (.int .i64 g) rfl (fun _ => by kernel_rfl) ?_
  intro a' ha
  simp only [Act.put, pA, pO, pS] at ha
  subst ha
  refine wl_nil (hK _ _ ?_)
  clear hK K
  refine wp_seq_k fun K hK => ?_
  refine wp_seq_k fun K hK => ?_
  refine wr_list ?_
  refine wl_pure (.int .i64 0) rfl (fun _ => by kernel_rfl) ?_
  intro a' ha
  simp only [Act.put, pA, pO, pS] at ha
  subst ha
  refine wl_pure (.bool false) rfl (fun _ => by kernel_rfl) ?_
  intro a' ha
  simp only [Act.put, pA, pO, pS] at ha
  subst ha
  refine wl_pure (.bool false) rfl (fun _ => by kernel_rfl) ?_
  intro a' ha
  simp only [Act.put, pA, pO, pS] at ha
  subst ha
  refine wl_pure (.int .i64 e) (by kernel_rfl) (fun _ => by kernel_rfl) ?_
  intro a' ha
  simp only [Act.put, pA, pO, pS] at ha
  subst ha
  refine wl_pure (.bool true) (by kernel_rfl) (fun _ => (show (execOp _ _).run Tryd.prog _ = .ok (.value (.bool (!decide (e = 0)))) _ from by kernel_rfl).trans (by rw [hq1]; rfl)) ?_
  intro a' ha
  simp only [Act.put, pA, pO, pS] at ha
  subst ha
  refine wl_pure (.bool true) rfl (fun _ => by kernel_rfl) ?_
  intro a' ha
  simp only [Act.put, pA, pO, pS] at ha
  subst ha
  refine wl_pure (.bool true) rfl (fun _ => by kernel_rfl) ?_
  intro a' ha
  simp only [Act.put, pA, pO, pS] at ha
  subst ha
  refine wl_skip (by kernel_rfl) ?_
  intro a' ha
  simp only [Act.put, pA, pO, pS] at ha
  subst ha
  refine wl_skip (by kernel_rfl) ?_
  intro a' ha
  simp only [Act.put, pA, pO, pS] at ha
  subst ha
  refine wl_pure (.bool true) rfl (fun _ => by kernel_rfl) ?_
  intro a' ha
  simp only [Act.put, pA, pO, pS] at ha
  subst ha
  refine wl_pure (.bool true) rfl (fun _ => by kernel_rfl) ?_
  intro a' ha
  simp only [Act.put, pA, pO, pS] at ha
  subst ha
  refine wl_skip (by kernel_rfl) ?_
  intro a' ha
  simp only [Act.put, pA, pO, pS] at ha
  subst ha
  refine wl_skip (by kernel_rfl) ?_
  intro a' ha
  simp only [Act.put, pA, pO, pS] at ha
  subst ha
  refine wl_pure (.bool true) rfl (fun _ => by kernel_rfl) ?_
  intro a' ha
  simp only [Act.put, pA, pO, pS] at ha
  subst ha
  refine wl_nil (hK _ _ ?_)
  clear hK K
  refine wp_cond_true rfl ?_
  refine wp_seq_k fun K hK => ?_
  refine wr_list ?_
  refine wl_call hZ S28 H5 rfl (fun _ => by kernel_rfl) ?_
  intro W29 a' S30 ha
  simp only [Act.put, pA, pO, pS] at ha
  subst ha
  refine wl_pure (.bool true) rfl (fun _ => by kernel_rfl) ?_
  intro a' ha
  simp only [Act.put, pA, pO, pS] at ha
  subst ha
  refine wl_nil (hK _ _ ?_)
  clear hK K
  refine wp_ret ?_
  exact fin_tmp S30 rfl rfl rfl
theorem reck_no3 {Z : World → Prop} (hZ : Keeps Z) {x1 y1 z1 t1 x2 y2 z2 t2 a b : Nat} {s t m n : ByteArray} {e f : Int} (H1 : Ret Z 9 #[.string s] (.tuple #[pv x1 y1 z1 t1, .int .i64 0])) (H2 : Ret Z 9 #[.string t] (.tuple #[pv x2 y2 z2 t2, .int .i64 0])) (H3 : Ret Z 17 #[.string m] (.tuple #[wd a, .int .i64 e])) (H4 : Ret Z 17 #[.string n] (.tuple #[wd b, .int .i64 f])) (H5 : Ret Z 8 #[] (.bool true)) (hq1 : decide (e = 0) = false) : Ret Z 4 #[.string s, .string t, .string m, .string n] (.bool true) := by
  intro w hw
  have S := St.refl hw
  go_enter Tryd.func4, Tryd.ntmps4
  refine wp_seq_k fun K hK => ?_
  refine wr_list ?_
  refine wl_pure (.bool false) rfl (fun _ => by kernel_rfl) ?_
  intro a' ha
  simp only [Act.put, pA, pO, pS] at ha
  subst ha
  refine wl_nil (hK _ _ ?_)
  clear hK K
  refine wp_seq_k fun K hK => ?_
  refine wr_list ?_
  refine wl_pure (.string s) rfl (fun _ => by kernel_rfl) ?_
  intro a' ha
  simp only [Act.put, pA, pO, pS] at ha
  subst ha
  refine wl_call hZ S H1 rfl (fun _ => by kernel_rfl) ?_
  intro W1 a' S2 ha
  simp only [Act.put, pA, pO, pS] at ha
  subst ha
  refine wl_pure (.tuple #[pv x1 y1 z1 t1, .int .i64 0]) rfl (fun _ => by kernel_rfl) ?_
  intro a' ha
  simp only [Act.put, pA, pO, pS] at ha
  subst ha
  refine wl_pure (pv x1 y1 z1 t1) rfl (fun _ => by kernel_rfl) ?_
  intro a' ha
  simp only [Act.put, pA, pO, pS] at ha
  subst ha
  refine wl_pure (.int .i64 0) rfl (fun _ => by kernel_rfl) ?_
  intro a' ha
  simp only [Act.put, pA, pO, pS] at ha
  subst ha
  refine wl_alloc S2 (q4 0 0 0 0) 29 rfl (fun _ => by kernel_rfl) ?_
  intro b3 W4 a' S5 ha
  simp only [Act.put, pA, pO, pS] at ha
  subst ha
  refine wl_store S5 0 b3 29 16 (.tmp 9) (.tmp 24) (q4 0 0 0 0) (q4 x1 y1 z1 t1) rfl rfl rfl rfl rfl row29 rfl rfl (q4_one _ _ _ _) ?_
  intro W6 a' S7 ha
  simp only [Act.put, pA, pO, pS] at ha
  subst ha
  refine wl_pure (.int .i64 0) rfl (fun _ => by kernel_rfl) ?_
  intro a' ha
  simp only [Act.put, pA, pO, pS] at ha
  subst ha
  refine wl_nil (hK _ _ ?_)
  clear hK K
  refine wp_seq_k fun K hK => ?_
  refine wr_list ?_
  refine wl_pure (.string t) rfl (fun _ => by kernel_rfl) ?_
  intro a' ha
  simp only [Act.put, pA, pO, pS] at ha
  subst ha
  refine wl_call hZ S7 H2 rfl (fun _ => by kernel_rfl) ?_
  intro W8 a' S9 ha
  simp only [Act.put, pA, pO, pS] at ha
  subst ha
  refine wl_pure (.tuple #[pv x2 y2 z2 t2, .int .i64 0]) rfl (fun _ => by kernel_rfl) ?_
  intro a' ha
  simp only [Act.put, pA, pO, pS] at ha
  subst ha
  refine wl_pure (pv x2 y2 z2 t2) rfl (fun _ => by kernel_rfl) ?_
  intro a' ha
  simp only [Act.put, pA, pO, pS] at ha
  subst ha
  refine wl_pure (.int .i64 0) rfl (fun _ => by kernel_rfl) ?_
  intro a' ha
  simp only [Act.put, pA, pO, pS] at ha
  subst ha
  refine wl_alloc S9 (q4 0 0 0 0) 29 rfl (fun _ => by kernel_rfl) ?_
  intro b10 W11 a' S12 ha
  simp only [Act.put, pA, pO, pS] at ha
  subst ha
  refine wl_store S12 0 b10 29 16 (.tmp 11) (.tmp 29) (q4 0 0 0 0) (q4 x2 y2 z2 t2) rfl rfl rfl rfl rfl row29 rfl rfl (q4_one _ _ _ _) ?_
  intro W13 a' S14 ha
  simp only [Act.put, pA, pO, pS] at ha
  subst ha
  refine wl_pure (.int .i64 0) rfl (fun _ => by kernel_rfl) ?_
  intro a' ha
  simp only [Act.put, pA, pO, pS] at ha
  subst ha
  refine wl_nil (hK _ _ ?_)
  clear hK K
  refine wp_seq_k fun K hK => ?_
  refine wr_list ?_
  refine wl_pure (.string m) rfl (fun _ => by kernel_rfl) ?_
  intro a' ha
  simp only [Act.put, pA, pO, pS] at ha
  subst ha
  refine wl_call hZ S14 H3 rfl (fun _ => by kernel_rfl) ?_
  intro W15 a' S16 ha
  simp only [Act.put, pA, pO, pS] at ha
  subst ha
  refine wl_pure (.tuple #[wd a, .int .i64 e]) rfl (fun _ => by kernel_rfl) ?_
  intro a' ha
  simp only [Act.put, pA, pO, pS] at ha
  subst ha
  refine wl_pure (wd a) rfl (fun _ => by kernel_rfl) ?_
  intro a' ha
  simp only [Act.put, pA, pO, pS] at ha
  subst ha
  refine wl_pure (.int .i64 e) rfl (fun _ => by kernel_rfl) ?_
  intro a' ha
  simp only [Act.put, pA, pO, pS] at ha
  subst ha
  refine wl_alloc S16 (e4 0) 46 rfl (fun _ => by kernel_rfl) ?_
  intro b17 W18 a' S19 ha
  simp only [Act.put, pA, pO, pS] at ha
  subst ha
  refine wl_store S19 0 b17 46 4 (.tmp 13) (.tmp 34) (e4 0) (e4 a) rfl rfl rfl rfl rfl row46 rfl rfl (e4_one _) ?_
  intro W20 a' S21 ha
  simp only [Act.put, pA, pO, pS] at ha
  subst ha
  refine wl_pure (.int .i64 e) rfl (fun _ => by kernel_rfl) ?_
  intro a' ha
  simp only [Act.put, pA, pO, pS] at ha
  subst ha
  refine wl_nil (hK _ _ ?_)
  clear hK K
  refine wp_seq_k fun K hK => ?_
  refine wr_list ?_
  refine wl_pure (.string n) rfl (fun _ => by kernel_rfl) ?_
  intro a' ha
  simp only [Act.put, pA, pO, pS] at ha
  subst ha
  refine wl_call hZ S21 H4 rfl (fun _ => by kernel_rfl) ?_
  intro W22 a' S23 ha
  simp only [Act.put, pA, pO, pS] at ha
  subst ha
  refine wl_pure (.tuple #[wd b, .int .i64 f]) rfl (fun _ => by kernel_rfl) ?_
  intro a' ha
  simp only [Act.put, pA, pO, pS] at ha
  subst ha
  refine wl_pure (wd b) rfl (fun _ => by kernel_rfl) ?_
  intro a' ha
  simp only [Act.put, pA, pO, pS] at ha
  subst ha
  refine wl_pure (.int .i64 f) rfl (fun _ => by kernel_rfl) ?_
  intro a' ha
  simp only [Act.put, pA, pO, pS] at ha
  subst ha
  refine wl_alloc S23 (e4 0) 46 rfl (fun _ => by kernel_rfl) ?_
  intro b24 W25 a' S26 ha
  simp only [Act.put, pA, pO, pS] at ha
  subst ha
  refine wl_store S26 0 b24 46 4 (.tmp 15) (.tmp 39) (e4 0) (e4 b) rfl rfl rfl rfl rfl row46 rfl rfl (e4_one _) ?_
  intro W27 a' S28 ha
  simp only [Act.put, pA, pO, pS] at ha
  subst ha
  refine wl_pure (.int .i64 f) rfl (fun _ => by kernel_rfl) ?_
  intro a' ha
  simp only [Act.put, pA, pO, pS] at ha
  subst ha
  refine wl_nil (hK _ _ ?_)
  clear hK K
  refine wp_seq_k fun K hK => ?_
  refine wp_seq_k fun K hK => ?_
  refine wr_list ?_
  refine wl_pure (.int .i64 0) rfl (fun _ => by kernel_rfl) ?_
  intro a' ha
  simp only [Act.put, pA, pO, pS] at ha
  subst ha
  refine wl_pure (.bool false) rfl (fun _ => by kernel_rfl) ?_
  intro a' ha
  simp only [Act.put, pA, pO, pS] at ha
  subst ha
  refine wl_pure (.bool false) rfl (fun _ => by kernel_rfl) ?_
  intro a' ha
  simp only [Act.put, pA, pO, pS] at ha
  subst ha
  refine wl_pure (.int .i64 0) (by kernel_rfl) (fun _ => by kernel_rfl) ?_
  intro a' ha
  simp only [Act.put, pA, pO, pS] at ha
  subst ha
  refine wl_pure (.bool false) (by kernel_rfl) (fun _ => by kernel_rfl) ?_
  intro a' ha
  simp only [Act.put, pA, pO, pS] at ha
  subst ha
  refine wl_pure (.bool false) rfl (fun _ => by kernel_rfl) ?_
  intro a' ha
  simp only [Act.put, pA, pO, pS] at ha
  subst ha
  refine wl_pure (.bool false) rfl (fun _ => by kernel_rfl) ?_
  intro a' ha
  simp only [Act.put, pA, pO, pS] at ha
  subst ha
  refine wl_pure (.int .i64 e) (by kernel_rfl) (fun _ => by kernel_rfl) ?_
  intro a' ha
  simp only [Act.put, pA, pO, pS] at ha
  subst ha
  refine wl_pure (.bool true) (by kernel_rfl) (fun _ => (show (execOp _ _).run Tryd.prog _ = .ok (.value (.bool (!decide (e = 0)))) _ from by kernel_rfl).trans (by rw [hq1]; rfl)) ?_
  intro a' ha
  simp only [Act.put, pA, pO, pS] at ha
  subst ha
  refine wl_pure (.bool true) rfl (fun _ => by kernel_rfl) ?_
  intro a' ha
  simp only [Act.put, pA, pO, pS] at ha
  subst ha
  refine wl_pure (.bool true) rfl (fun _ => by kernel_rfl) ?_
  intro a' ha
  simp only [Act.put, pA, pO, pS] at ha
  subst ha
  refine wl_skip (by kernel_rfl) ?_
  intro a' ha
  simp only [Act.put, pA, pO, pS] at ha
  subst ha
  refine wl_skip (by kernel_rfl) ?_
  intro a' ha
  simp only [Act.put, pA, pO, pS] at ha
  subst ha
  refine wl_pure (.bool true) rfl (fun _ => by kernel_rfl) ?_
  intro a' ha
  simp only [Act.put, pA, pO, pS] at ha
  subst ha
  refine wl_nil (hK _ _ ?_)
  clear hK K
  refine wp_cond_true rfl ?_
  refine wp_seq_k fun K hK => ?_
  refine wr_list ?_
  refine wl_call hZ S28 H5 rfl (fun _ => by kernel_rfl) ?_
  intro W29 a' S30 ha
  simp only [Act.put, pA, pO, pS] at ha
  subst ha
  refine wl_pure (.bool true) rfl (fun _ => by kernel_rfl) ?_
  intro a' ha
  simp only [Act.put, pA, pO, pS] at ha
  subst ha
  refine wl_nil (hK _ _ ?_)
  clear hK K
  refine wp_ret ?_
  exact fin_tmp S30 rfl rfl rfl
theorem reck_no4 {Z : World → Prop} (hZ : Keeps Z) {x1 y1 z1 t1 x2 y2 z2 t2 a b : Nat} {s t m n : ByteArray} {e : Int} (H1 : Ret Z 9 #[.string s] (.tuple #[pv x1 y1 z1 t1, .int .i64 0])) (H2 : Ret Z 9 #[.string t] (.tuple #[pv x2 y2 z2 t2, .int .i64 0])) (H3 : Ret Z 17 #[.string m] (.tuple #[wd a, .int .i64 0])) (H4 : Ret Z 17 #[.string n] (.tuple #[wd b, .int .i64 e])) (H5 : Ret Z 8 #[] (.bool true)) (hq1 : decide (e = 0) = false) : Ret Z 4 #[.string s, .string t, .string m, .string n] (.bool true) := by
  intro w hw
  have S := St.refl hw
  go_enter Tryd.func4, Tryd.ntmps4
  refine wp_seq_k fun K hK => ?_
  refine wr_list ?_
  refine wl_pure (.bool false) rfl (fun _ => by kernel_rfl) ?_
  intro a' ha
  simp only [Act.put, pA, pO, pS] at ha
  subst ha
  refine wl_nil (hK _ _ ?_)
  clear hK K
  refine wp_seq_k fun K hK => ?_
  refine wr_list ?_
  refine wl_pure (.string s) rfl (fun _ => by kernel_rfl) ?_
  intro a' ha
  simp only [Act.put, pA, pO, pS] at ha
  subst ha
  refine wl_call hZ S H1 rfl (fun _ => by kernel_rfl) ?_
  intro W1 a' S2 ha
  simp only [Act.put, pA, pO, pS] at ha
  subst ha
  refine wl_pure (.tuple #[pv x1 y1 z1 t1, .int .i64 0]) rfl (fun _ => by kernel_rfl) ?_
  intro a' ha
  simp only [Act.put, pA, pO, pS] at ha
  subst ha
  refine wl_pure (pv x1 y1 z1 t1) rfl (fun _ => by kernel_rfl) ?_
  intro a' ha
  simp only [Act.put, pA, pO, pS] at ha
  subst ha
  refine wl_pure (.int .i64 0) rfl (fun _ => by kernel_rfl) ?_
  intro a' ha
  simp only [Act.put, pA, pO, pS] at ha
  subst ha
  refine wl_alloc S2 (q4 0 0 0 0) 29 rfl (fun _ => by kernel_rfl) ?_
  intro b3 W4 a' S5 ha
  simp only [Act.put, pA, pO, pS] at ha
  subst ha
  refine wl_store S5 0 b3 29 16 (.tmp 9) (.tmp 24) (q4 0 0 0 0) (q4 x1 y1 z1 t1) rfl rfl rfl rfl rfl row29 rfl rfl (q4_one _ _ _ _) ?_
  intro W6 a' S7 ha
  simp only [Act.put, pA, pO, pS] at ha
  subst ha
  refine wl_pure (.int .i64 0) rfl (fun _ => by kernel_rfl) ?_
  intro a' ha
  simp only [Act.put, pA, pO, pS] at ha
  subst ha
  refine wl_nil (hK _ _ ?_)
  clear hK K
  refine wp_seq_k fun K hK => ?_
  refine wr_list ?_
  refine wl_pure (.string t) rfl (fun _ => by kernel_rfl) ?_
  intro a' ha
  simp only [Act.put, pA, pO, pS] at ha
  subst ha
  refine wl_call hZ S7 H2 rfl (fun _ => by kernel_rfl) ?_
  intro W8 a' S9 ha
  simp only [Act.put, pA, pO, pS] at ha
  subst ha
  refine wl_pure (.tuple #[pv x2 y2 z2 t2, .int .i64 0]) rfl (fun _ => by kernel_rfl) ?_
  intro a' ha
  simp only [Act.put, pA, pO, pS] at ha
  subst ha
  refine wl_pure (pv x2 y2 z2 t2) rfl (fun _ => by kernel_rfl) ?_
  intro a' ha
  simp only [Act.put, pA, pO, pS] at ha
  subst ha
  refine wl_pure (.int .i64 0) rfl (fun _ => by kernel_rfl) ?_
  intro a' ha
  simp only [Act.put, pA, pO, pS] at ha
  subst ha
  refine wl_alloc S9 (q4 0 0 0 0) 29 rfl (fun _ => by kernel_rfl) ?_
  intro b10 W11 a' S12 ha
  simp only [Act.put, pA, pO, pS] at ha
  subst ha
  refine wl_store S12 0 b10 29 16 (.tmp 11) (.tmp 29) (q4 0 0 0 0) (q4 x2 y2 z2 t2) rfl rfl rfl rfl rfl row29 rfl rfl (q4_one _ _ _ _) ?_
  intro W13 a' S14 ha
  simp only [Act.put, pA, pO, pS] at ha
  subst ha
  refine wl_pure (.int .i64 0) rfl (fun _ => by kernel_rfl) ?_
  intro a' ha
  simp only [Act.put, pA, pO, pS] at ha
  subst ha
  refine wl_nil (hK _ _ ?_)
  clear hK K
  refine wp_seq_k fun K hK => ?_
  refine wr_list ?_
  refine wl_pure (.string m) rfl (fun _ => by kernel_rfl) ?_
  intro a' ha
  simp only [Act.put, pA, pO, pS] at ha
  subst ha
  refine wl_call hZ S14 H3 rfl (fun _ => by kernel_rfl) ?_
  intro W15 a' S16 ha
  simp only [Act.put, pA, pO, pS] at ha
  subst ha
  refine wl_pure (.tuple #[wd a, .int .i64 0]) rfl (fun _ => by kernel_rfl) ?_
  intro a' ha
  simp only [Act.put, pA, pO, pS] at ha
  subst ha
  refine wl_pure (wd a) rfl (fun _ => by kernel_rfl) ?_
  intro a' ha
  simp only [Act.put, pA, pO, pS] at ha
  subst ha
  refine wl_pure (.int .i64 0) rfl (fun _ => by kernel_rfl) ?_
  intro a' ha
  simp only [Act.put, pA, pO, pS] at ha
  subst ha
  refine wl_alloc S16 (e4 0) 46 rfl (fun _ => by kernel_rfl) ?_
  intro b17 W18 a' S19 ha
  simp only [Act.put, pA, pO, pS] at ha
  subst ha
  refine wl_store S19 0 b17 46 4 (.tmp 13) (.tmp 34) (e4 0) (e4 a) rfl rfl rfl rfl rfl row46 rfl rfl (e4_one _) ?_
  intro W20 a' S21 ha
  simp only [Act.put, pA, pO, pS] at ha
  subst ha
  refine wl_pure (.int .i64 0) rfl (fun _ => by kernel_rfl) ?_
  intro a' ha
  simp only [Act.put, pA, pO, pS] at ha
  subst ha
  refine wl_nil (hK _ _ ?_)
  clear hK K
  refine wp_seq_k fun K hK => ?_
  refine wr_list ?_
  refine wl_pure (.string n) rfl (fun _ => by kernel_rfl) ?_
  intro a' ha
  simp only [Act.put, pA, pO, pS] at ha
  subst ha
  refine wl_call hZ S21 H4 rfl (fun _ => by kernel_rfl) ?_
  intro W22 a' S23 ha
  simp only [Act.put, pA, pO, pS] at ha
  subst ha
  refine wl_pure (.tuple #[wd b, .int .i64 e]) rfl (fun _ => by kernel_rfl) ?_
  intro a' ha
  simp only [Act.put, pA, pO, pS] at ha
  subst ha
  refine wl_pure (wd b) rfl (fun _ => by kernel_rfl) ?_
  intro a' ha
  simp only [Act.put, pA, pO, pS] at ha
  subst ha
  refine wl_pure (.int .i64 e) rfl (fun _ => by kernel_rfl) ?_
  intro a' ha
  simp only [Act.put, pA, pO, pS] at ha
  subst ha
  refine wl_alloc S23 (e4 0) 46 rfl (fun _ => by kernel_rfl) ?_
  intro b24 W25 a' S26 ha
  simp only [Act.put, pA, pO, pS] at ha
  subst ha
  refine wl_store S26 0 b24 46 4 (.tmp 15) (.tmp 39) (e4 0) (e4 b) rfl rfl rfl rfl rfl row46 rfl rfl (e4_one _) ?_
  intro W27 a' S28 ha
  simp only [Act.put, pA, pO, pS] at ha
  subst ha
  refine wl_pure (.int .i64 e) rfl (fun _ => by kernel_rfl) ?_
  intro a' ha
  simp only [Act.put, pA, pO, pS] at ha
  subst ha
  refine wl_nil (hK _ _ ?_)
  clear hK K
  refine wp_seq_k fun K hK => ?_
  refine wp_seq_k fun K hK => ?_
  refine wr_list ?_
  refine wl_pure (.int .i64 0) rfl (fun _ => by kernel_rfl) ?_
  intro a' ha
  simp only [Act.put, pA, pO, pS] at ha
  subst ha
  refine wl_pure (.bool false) rfl (fun _ => by kernel_rfl) ?_
  intro a' ha
  simp only [Act.put, pA, pO, pS] at ha
  subst ha
  refine wl_pure (.bool false) rfl (fun _ => by kernel_rfl) ?_
  intro a' ha
  simp only [Act.put, pA, pO, pS] at ha
  subst ha
  refine wl_pure (.int .i64 0) (by kernel_rfl) (fun _ => by kernel_rfl) ?_
  intro a' ha
  simp only [Act.put, pA, pO, pS] at ha
  subst ha
  refine wl_pure (.bool false) (by kernel_rfl) (fun _ => by kernel_rfl) ?_
  intro a' ha
  simp only [Act.put, pA, pO, pS] at ha
  subst ha
  refine wl_pure (.bool false) rfl (fun _ => by kernel_rfl) ?_
  intro a' ha
  simp only [Act.put, pA, pO, pS] at ha
  subst ha
  refine wl_pure (.bool false) rfl (fun _ => by kernel_rfl) ?_
  intro a' ha
  simp only [Act.put, pA, pO, pS] at ha
  subst ha
  refine wl_pure (.int .i64 0) (by kernel_rfl) (fun _ => by kernel_rfl) ?_
  intro a' ha
  simp only [Act.put, pA, pO, pS] at ha
  subst ha
  refine wl_pure (.bool false) (by kernel_rfl) (fun _ => by kernel_rfl) ?_
  intro a' ha
  simp only [Act.put, pA, pO, pS] at ha
  subst ha
  refine wl_pure (.bool false) rfl (fun _ => by kernel_rfl) ?_
  intro a' ha
  simp only [Act.put, pA, pO, pS] at ha
  subst ha
  refine wl_pure (.bool false) rfl (fun _ => by kernel_rfl) ?_
  intro a' ha
  simp only [Act.put, pA, pO, pS] at ha
  subst ha
  refine wl_pure (.int .i64 e) (by kernel_rfl) (fun _ => by kernel_rfl) ?_
  intro a' ha
  simp only [Act.put, pA, pO, pS] at ha
  subst ha
  refine wl_pure (.bool true) (by kernel_rfl) (fun _ => (show (execOp _ _).run Tryd.prog _ = .ok (.value (.bool (!decide (e = 0)))) _ from by kernel_rfl).trans (by rw [hq1]; rfl)) ?_
  intro a' ha
  simp only [Act.put, pA, pO, pS] at ha
  subst ha
  refine wl_pure (.bool true) rfl (fun _ => by kernel_rfl) ?_
  intro a' ha
  simp only [Act.put, pA, pO, pS] at ha
  subst ha
  refine wl_nil (hK _ _ ?_)
  clear hK K
  refine wp_cond_true rfl ?_
  refine wp_seq_k fun K hK => ?_
  refine wr_list ?_
  refine wl_call hZ S28 H5 rfl (fun _ => by kernel_rfl) ?_
  intro W29 a' S30 ha
  simp only [Act.put, pA, pO, pS] at ha
  subst ha
  refine wl_pure (.bool true) rfl (fun _ => by kernel_rfl) ?_
  intro a' ha
  simp only [Act.put, pA, pO, pS] at ha
  subst ha
  refine wl_nil (hK _ _ ?_)
  clear hK K
  refine wp_ret ?_
  exact fin_tmp S30 rfl rfl rfl
theorem reck_yes {Z : World → Prop} (hZ : Keeps Z) {x1 y1 z1 t1 x2 y2 z2 t2 x3 y3 z3 x4 y4 z4 a b c d v1 v2 v3 v4 v5 v6 v7 v8 v9 v10 v11 v12 v13 v14 v15 v16 v17 v18 v19 v20 v21 : Nat} {s t m n : ByteArray} {q : Bool} (H1 : Ret Z 9 #[.string s] (.tuple #[pv x1 y1 z1 t1, .int .i64 0])) (H2 : Ret Z 9 #[.string t] (.tuple #[pv x2 y2 z2 t2, .int .i64 0])) (H3 : Ret Z 17 #[.string m] (.tuple #[wd a, .int .i64 0])) (H4 : Ret Z 17 #[.string n] (.tuple #[wd b, .int .i64 0])) (H5 : Ret Z 10 #[.string s] (.tuple #[rp x3 y3 z3, .int .i64 0])) (H6 : Ret Z 10 #[.string t] (.tuple #[rp x4 y4 z4, .int .i64 0])) (H7 : Ret Z 18 #[pv x1 y1 z1 t1, pv x2 y2 z2 t2] (pv v1 v2 v3 v4)) (H8 : Ret Z 19 #[rp x3 y3 z3, rp x4 y4 z4] (rp v5 v6 v7)) (H9 : Ret Z 15 #[pv v1 v2 v3 v4, rp v5 v6 v7] (.bool true)) (H10 : Ret Z 20 #[pv x1 y1 z1 t1] (pv v8 v9 v10 v11)) (H11 : Ret Z 19 #[rp x3 y3 z3, rp x3 y3 z3] (rp v12 v13 v14)) (H12 : Ret Z 15 #[pv v8 v9 v10 v11, rp v12 v13 v14] (.bool true)) (H13 : Ret Z 21 #[pv x1 y1 z1 t1, wd a, wd b] (pv v15 v16 v17 v18)) (H14 : Ret Z 23 #[.string m] (nbv c)) (H15 : Ret Z 23 #[.string n] (nbv d)) (H16 : Ret Z 22 #[rp x3 y3 z3, nbv c, nbv d] (rp v19 v20 v21)) (H17 : Ret Z 15 #[pv v15 v16 v17 v18, rp v19 v20 v21] (.bool true)) (H18 : Ret Z 14 #[pv x1 y1 z1 t1, pv x2 y2 z2 t2] (.bool q)) (H19 : Ret Z 24 #[rp x3 y3 z3, rp x4 y4 z4] (.bool q)) (H20 : Ret Z 8 #[] (.bool true)) (hq1 : (q == q) = true) : Ret Z 4 #[.string s, .string t, .string m, .string n] (.bool true) := by
  intro w hw
  have S := St.refl hw
  go_enter Tryd.func4, Tryd.ntmps4
  refine wp_seq_k fun K hK => ?_
  refine wr_list ?_
  refine wl_pure (.bool false) rfl (fun _ => by kernel_rfl) ?_
  intro a' ha
  simp only [Act.put, pA, pO, pS] at ha
  subst ha
  refine wl_nil (hK _ _ ?_)
  clear hK K
  refine wp_seq_k fun K hK => ?_
  refine wr_list ?_
  refine wl_pure (.string s) rfl (fun _ => by kernel_rfl) ?_
  intro a' ha
  simp only [Act.put, pA, pO, pS] at ha
  subst ha
  refine wl_call hZ S H1 rfl (fun _ => by kernel_rfl) ?_
  intro W1 a' S2 ha
  simp only [Act.put, pA, pO, pS] at ha
  subst ha
  refine wl_pure (.tuple #[pv x1 y1 z1 t1, .int .i64 0]) rfl (fun _ => by kernel_rfl) ?_
  intro a' ha
  simp only [Act.put, pA, pO, pS] at ha
  subst ha
  refine wl_pure (pv x1 y1 z1 t1) rfl (fun _ => by kernel_rfl) ?_
  intro a' ha
  simp only [Act.put, pA, pO, pS] at ha
  subst ha
  refine wl_pure (.int .i64 0) rfl (fun _ => by kernel_rfl) ?_
  intro a' ha
  simp only [Act.put, pA, pO, pS] at ha
  subst ha
  refine wl_alloc S2 (q4 0 0 0 0) 29 rfl (fun _ => by kernel_rfl) ?_
  intro b3 W4 a' S5 ha
  simp only [Act.put, pA, pO, pS] at ha
  subst ha
  refine wl_store S5 0 b3 29 16 (.tmp 9) (.tmp 24) (q4 0 0 0 0) (q4 x1 y1 z1 t1) rfl rfl rfl rfl rfl row29 rfl rfl (q4_one _ _ _ _) ?_
  intro W6 a' S7 ha
  simp only [Act.put, pA, pO, pS] at ha
  subst ha
  refine wl_pure (.int .i64 0) rfl (fun _ => by kernel_rfl) ?_
  intro a' ha
  simp only [Act.put, pA, pO, pS] at ha
  subst ha
  refine wl_nil (hK _ _ ?_)
  clear hK K
  refine wp_seq_k fun K hK => ?_
  refine wr_list ?_
  refine wl_pure (.string t) rfl (fun _ => by kernel_rfl) ?_
  intro a' ha
  simp only [Act.put, pA, pO, pS] at ha
  subst ha
  refine wl_call hZ S7 H2 rfl (fun _ => by kernel_rfl) ?_
  intro W8 a' S9 ha
  simp only [Act.put, pA, pO, pS] at ha
  subst ha
  refine wl_pure (.tuple #[pv x2 y2 z2 t2, .int .i64 0]) rfl (fun _ => by kernel_rfl) ?_
  intro a' ha
  simp only [Act.put, pA, pO, pS] at ha
  subst ha
  refine wl_pure (pv x2 y2 z2 t2) rfl (fun _ => by kernel_rfl) ?_
  intro a' ha
  simp only [Act.put, pA, pO, pS] at ha
  subst ha
  refine wl_pure (.int .i64 0) rfl (fun _ => by kernel_rfl) ?_
  intro a' ha
  simp only [Act.put, pA, pO, pS] at ha
  subst ha
  refine wl_alloc S9 (q4 0 0 0 0) 29 rfl (fun _ => by kernel_rfl) ?_
  intro b10 W11 a' S12 ha
  simp only [Act.put, pA, pO, pS] at ha
  subst ha
  refine wl_store S12 0 b10 29 16 (.tmp 11) (.tmp 29) (q4 0 0 0 0) (q4 x2 y2 z2 t2) rfl rfl rfl rfl rfl row29 rfl rfl (q4_one _ _ _ _) ?_
  intro W13 a' S14 ha
  simp only [Act.put, pA, pO, pS] at ha
  subst ha
  refine wl_pure (.int .i64 0) rfl (fun _ => by kernel_rfl) ?_
  intro a' ha
  simp only [Act.put, pA, pO, pS] at ha
  subst ha
  refine wl_nil (hK _ _ ?_)
  clear hK K
  refine wp_seq_k fun K hK => ?_
  refine wr_list ?_
  refine wl_pure (.string m) rfl (fun _ => by kernel_rfl) ?_
  intro a' ha
  simp only [Act.put, pA, pO, pS] at ha
  subst ha
  refine wl_call hZ S14 H3 rfl (fun _ => by kernel_rfl) ?_
  intro W15 a' S16 ha
  simp only [Act.put, pA, pO, pS] at ha
  subst ha
  refine wl_pure (.tuple #[wd a, .int .i64 0]) rfl (fun _ => by kernel_rfl) ?_
  intro a' ha
  simp only [Act.put, pA, pO, pS] at ha
  subst ha
  refine wl_pure (wd a) rfl (fun _ => by kernel_rfl) ?_
  intro a' ha
  simp only [Act.put, pA, pO, pS] at ha
  subst ha
  refine wl_pure (.int .i64 0) rfl (fun _ => by kernel_rfl) ?_
  intro a' ha
  simp only [Act.put, pA, pO, pS] at ha
  subst ha
  refine wl_alloc S16 (e4 0) 46 rfl (fun _ => by kernel_rfl) ?_
  intro b17 W18 a' S19 ha
  simp only [Act.put, pA, pO, pS] at ha
  subst ha
  refine wl_store S19 0 b17 46 4 (.tmp 13) (.tmp 34) (e4 0) (e4 a) rfl rfl rfl rfl rfl row46 rfl rfl (e4_one _) ?_
  intro W20 a' S21 ha
  simp only [Act.put, pA, pO, pS] at ha
  subst ha
  refine wl_pure (.int .i64 0) rfl (fun _ => by kernel_rfl) ?_
  intro a' ha
  simp only [Act.put, pA, pO, pS] at ha
  subst ha
  refine wl_nil (hK _ _ ?_)
  clear hK K
  refine wp_seq_k fun K hK => ?_
  refine wr_list ?_
  refine wl_pure (.string n) rfl (fun _ => by kernel_rfl) ?_
  intro a' ha
  simp only [Act.put, pA, pO, pS] at ha
  subst ha
  refine wl_call hZ S21 H4 rfl (fun _ => by kernel_rfl) ?_
  intro W22 a' S23 ha
  simp only [Act.put, pA, pO, pS] at ha
  subst ha
  refine wl_pure (.tuple #[wd b, .int .i64 0]) rfl (fun _ => by kernel_rfl) ?_
  intro a' ha
  simp only [Act.put, pA, pO, pS] at ha
  subst ha
  refine wl_pure (wd b) rfl (fun _ => by kernel_rfl) ?_
  intro a' ha
  simp only [Act.put, pA, pO, pS] at ha
  subst ha
  refine wl_pure (.int .i64 0) rfl (fun _ => by kernel_rfl) ?_
  intro a' ha
  simp only [Act.put, pA, pO, pS] at ha
  subst ha
  refine wl_alloc S23 (e4 0) 46 rfl (fun _ => by kernel_rfl) ?_
  intro b24 W25 a' S26 ha
  simp only [Act.put, pA, pO, pS] at ha
  subst ha
  refine wl_store S26 0 b24 46 4 (.tmp 15) (.tmp 39) (e4 0) (e4 b) rfl rfl rfl rfl rfl row46 rfl rfl (e4_one _) ?_
  intro W27 a' S28 ha
  simp only [Act.put, pA, pO, pS] at ha
  subst ha
  refine wl_pure (.int .i64 0) rfl (fun _ => by kernel_rfl) ?_
  intro a' ha
  simp only [Act.put, pA, pO, pS] at ha
  subst ha
  refine wl_nil (hK _ _ ?_)
  clear hK K
  refine wp_seq_k fun K hK => ?_
  refine wp_seq_k fun K hK => ?_
  refine wr_list ?_
  refine wl_pure (.int .i64 0) rfl (fun _ => by kernel_rfl) ?_
  intro a' ha
  simp only [Act.put, pA, pO, pS] at ha
  subst ha
  refine wl_pure (.bool false) rfl (fun _ => by kernel_rfl) ?_
  intro a' ha
  simp only [Act.put, pA, pO, pS] at ha
  subst ha
  refine wl_pure (.bool false) rfl (fun _ => by kernel_rfl) ?_
  intro a' ha
  simp only [Act.put, pA, pO, pS] at ha
  subst ha
  refine wl_pure (.int .i64 0) (by kernel_rfl) (fun _ => by kernel_rfl) ?_
  intro a' ha
  simp only [Act.put, pA, pO, pS] at ha
  subst ha
  refine wl_pure (.bool false) (by kernel_rfl) (fun _ => by kernel_rfl) ?_
  intro a' ha
  simp only [Act.put, pA, pO, pS] at ha
  subst ha
  refine wl_pure (.bool false) rfl (fun _ => by kernel_rfl) ?_
  intro a' ha
  simp only [Act.put, pA, pO, pS] at ha
  subst ha
  refine wl_pure (.bool false) rfl (fun _ => by kernel_rfl) ?_
  intro a' ha
  simp only [Act.put, pA, pO, pS] at ha
  subst ha
  refine wl_pure (.int .i64 0) (by kernel_rfl) (fun _ => by kernel_rfl) ?_
  intro a' ha
  simp only [Act.put, pA, pO, pS] at ha
  subst ha
  refine wl_pure (.bool false) (by kernel_rfl) (fun _ => by kernel_rfl) ?_
  intro a' ha
  simp only [Act.put, pA, pO, pS] at ha
  subst ha
  refine wl_pure (.bool false) rfl (fun _ => by kernel_rfl) ?_
  intro a' ha
  simp only [Act.put, pA, pO, pS] at ha
  subst ha
  refine wl_pure (.bool false) rfl (fun _ => by kernel_rfl) ?_
  intro a' ha
  simp only [Act.put, pA, pO, pS] at ha
  subst ha
  refine wl_pure (.int .i64 0) (by kernel_rfl) (fun _ => by kernel_rfl) ?_
  intro a' ha
  simp only [Act.put, pA, pO, pS] at ha
  subst ha
  refine wl_pure (.bool false) (by kernel_rfl) (fun _ => by kernel_rfl) ?_
  intro a' ha
  simp only [Act.put, pA, pO, pS] at ha
  subst ha
  refine wl_pure (.bool false) rfl (fun _ => by kernel_rfl) ?_
  intro a' ha
  simp only [Act.put, pA, pO, pS] at ha
  subst ha
  refine wl_nil (hK _ _ ?_)
  clear hK K
  refine wp_cond_false rfl ?_
  refine wp_skip (hK _ _ ?_)
  clear hK K
  refine wp_seq_k fun K hK => ?_
  refine wr_list ?_
  refine wl_pure (.string s) rfl (fun _ => by kernel_rfl) ?_
  intro a' ha
  simp only [Act.put, pA, pO, pS] at ha
  subst ha
  refine wl_call hZ S28 H5 rfl (fun _ => by kernel_rfl) ?_
  intro W29 a' S30 ha
  simp only [Act.put, pA, pO, pS] at ha
  subst ha
  refine wl_pure (.tuple #[rp x3 y3 z3, .int .i64 0]) rfl (fun _ => by kernel_rfl) ?_
  intro a' ha
  simp only [Act.put, pA, pO, pS] at ha
  subst ha
  refine wl_pure (rp x3 y3 z3) rfl (fun _ => by kernel_rfl) ?_
  intro a' ha
  simp only [Act.put, pA, pO, pS] at ha
  subst ha
  refine wl_pure (.int .i64 0) rfl (fun _ => by kernel_rfl) ?_
  intro a' ha
  simp only [Act.put, pA, pO, pS] at ha
  subst ha
  refine wl_alloc S30 (n27 0 0 0) 36 rfl (fun _ => by kernel_rfl) ?_
  intro b31 W32 a' S33 ha
  simp only [Act.put, pA, pO, pS] at ha
  subst ha
  refine wl_store S33 0 b31 36 27 (.tmp 17) (.tmp 59) (n27 0 0 0) (n27 x3 y3 z3) rfl rfl rfl rfl rfl row36 (n27_size _ _ _) (n27_size _ _ _) (n27_one _ _ _) ?_
  intro W34 a' S35 ha
  simp only [Act.put, pA, pO, pS] at ha
  subst ha
  refine wl_pure (.int .i64 0) rfl (fun _ => by kernel_rfl) ?_
  intro a' ha
  simp only [Act.put, pA, pO, pS] at ha
  subst ha
  refine wl_nil (hK _ _ ?_)
  clear hK K
  refine wp_seq_k fun K hK => ?_
  refine wr_list ?_
  refine wl_pure (.string t) rfl (fun _ => by kernel_rfl) ?_
  intro a' ha
  simp only [Act.put, pA, pO, pS] at ha
  subst ha
  refine wl_call hZ S35 H6 rfl (fun _ => by kernel_rfl) ?_
  intro W36 a' S37 ha
  simp only [Act.put, pA, pO, pS] at ha
  subst ha
  refine wl_pure (.tuple #[rp x4 y4 z4, .int .i64 0]) rfl (fun _ => by kernel_rfl) ?_
  intro a' ha
  simp only [Act.put, pA, pO, pS] at ha
  subst ha
  refine wl_pure (rp x4 y4 z4) rfl (fun _ => by kernel_rfl) ?_
  intro a' ha
  simp only [Act.put, pA, pO, pS] at ha
  subst ha
  refine wl_pure (.int .i64 0) rfl (fun _ => by kernel_rfl) ?_
  intro a' ha
  simp only [Act.put, pA, pO, pS] at ha
  subst ha
  refine wl_alloc S37 (n27 0 0 0) 36 rfl (fun _ => by kernel_rfl) ?_
  intro b38 W39 a' S40 ha
  simp only [Act.put, pA, pO, pS] at ha
  subst ha
  refine wl_store S40 0 b38 36 27 (.tmp 19) (.tmp 64) (n27 0 0 0) (n27 x4 y4 z4) rfl rfl rfl rfl rfl row36 (n27_size _ _ _) (n27_size _ _ _) (n27_one _ _ _) ?_
  intro W41 a' S42 ha
  simp only [Act.put, pA, pO, pS] at ha
  subst ha
  refine wl_pure (.int .i64 0) rfl (fun _ => by kernel_rfl) ?_
  intro a' ha
  simp only [Act.put, pA, pO, pS] at ha
  subst ha
  refine wl_nil (hK _ _ ?_)
  clear hK K
  refine wp_seq_k fun K hK => ?_
  refine wr_ext S42 (by kernel_rfl) (by kernel_rfl) ?_
  refine wq_load S42 5 b3 0 29 16 (.tmp 9) (q4 x1 y1 z1 t1) (q4 x1 y1 z1 t1) rfl rfl rfl rfl (Sub.self _) row29 rfl ?_
  intro a' ha
  simp only [Act.put, pA, pO, pS] at ha
  subst ha
  refine wq_load S42 4 b10 0 29 16 (.tmp 11) (q4 x2 y2 z2 t2) (q4 x2 y2 z2 t2) rfl rfl rfl rfl (Sub.self _) row29 rfl ?_
  intro a' ha
  simp only [Act.put, pA, pO, pS] at ha
  subst ha
  refine wq_call hZ S42 H7 rfl (fun _ => by kernel_rfl) ?_
  intro a' ha
  simp only [Act.put, pA, pO, pS] at ha
  subst ha
  refine wq_load S42 1 b31 0 36 27 (.tmp 17) (n27 x3 y3 z3) (n27 x3 y3 z3) rfl rfl rfl rfl (Sub.self _) row36 (n27_size _ _ _) ?_
  intro a' ha
  simp only [Act.put, pA, pO, pS] at ha
  subst ha
  refine wq_load S42 0 b38 0 36 27 (.tmp 19) (n27 x4 y4 z4) (n27 x4 y4 z4) rfl rfl rfl rfl (Sub.self _) row36 (n27_size _ _ _) ?_
  intro a' ha
  simp only [Act.put, pA, pO, pS] at ha
  subst ha
  refine wq_call hZ S42 H8 rfl (fun _ => by kernel_rfl) ?_
  intro a' ha
  simp only [Act.put, pA, pO, pS] at ha
  subst ha
  refine wq_call hZ S42 H9 rfl (fun _ => by kernel_rfl) ?_
  intro a' ha
  simp only [Act.put, pA, pO, pS] at ha
  subst ha
  refine wq_pure (.bool true) rfl (fun _ => by kernel_rfl) ?_
  intro a' ha
  simp only [Act.put, pA, pO, pS] at ha
  subst ha
  refine wq_load S42 5 b3 0 29 16 (.tmp 9) (q4 x1 y1 z1 t1) (q4 x1 y1 z1 t1) (by kernel_rfl) rfl rfl rfl (Sub.self _) row29 rfl ?_
  intro a' ha
  simp only [Act.put, pA, pO, pS] at ha
  subst ha
  refine wq_call hZ S42 H10 (by kernel_rfl) (fun _ => by kernel_rfl) ?_
  intro a' ha
  simp only [Act.put, pA, pO, pS] at ha
  subst ha
  refine wq_load S42 1 b31 0 36 27 (.tmp 17) (n27 x3 y3 z3) (n27 x3 y3 z3) (by kernel_rfl) rfl rfl rfl (Sub.self _) row36 (n27_size _ _ _) ?_
  intro a' ha
  simp only [Act.put, pA, pO, pS] at ha
  subst ha
  refine wq_load S42 1 b31 0 36 27 (.tmp 17) (n27 x3 y3 z3) (n27 x3 y3 z3) (by kernel_rfl) rfl rfl rfl (Sub.self _) row36 (n27_size _ _ _) ?_
  intro a' ha
  simp only [Act.put, pA, pO, pS] at ha
  subst ha
  refine wq_call hZ S42 H11 (by kernel_rfl) (fun _ => by kernel_rfl) ?_
  intro a' ha
  simp only [Act.put, pA, pO, pS] at ha
  subst ha
  refine wq_call hZ S42 H12 (by kernel_rfl) (fun _ => by kernel_rfl) ?_
  intro a' ha
  simp only [Act.put, pA, pO, pS] at ha
  subst ha
  refine wq_pure (.bool true) rfl (fun _ => by kernel_rfl) ?_
  intro a' ha
  simp only [Act.put, pA, pO, pS] at ha
  subst ha
  refine wq_pure (.bool true) rfl (fun _ => by kernel_rfl) ?_
  intro a' ha
  simp only [Act.put, pA, pO, pS] at ha
  subst ha
  refine wq_load S42 5 b3 0 29 16 (.tmp 9) (q4 x1 y1 z1 t1) (q4 x1 y1 z1 t1) (by kernel_rfl) rfl rfl rfl (Sub.self _) row29 rfl ?_
  intro a' ha
  simp only [Act.put, pA, pO, pS] at ha
  subst ha
  refine wq_load S42 3 b17 0 46 4 (.tmp 13) (e4 a) (e4 a) (by kernel_rfl) rfl rfl rfl (Sub.self _) row46 rfl ?_
  intro a' ha
  simp only [Act.put, pA, pO, pS] at ha
  subst ha
  refine wq_load S42 2 b24 0 46 4 (.tmp 15) (e4 b) (e4 b) (by kernel_rfl) rfl rfl rfl (Sub.self _) row46 rfl ?_
  intro a' ha
  simp only [Act.put, pA, pO, pS] at ha
  subst ha
  refine wq_call hZ S42 H13 (by kernel_rfl) (fun _ => by kernel_rfl) ?_
  intro a' ha
  simp only [Act.put, pA, pO, pS] at ha
  subst ha
  refine wq_load S42 1 b31 0 36 27 (.tmp 17) (n27 x3 y3 z3) (n27 x3 y3 z3) (by kernel_rfl) rfl rfl rfl (Sub.self _) row36 (n27_size _ _ _) ?_
  intro a' ha
  simp only [Act.put, pA, pO, pS] at ha
  subst ha
  refine wq_pure (.string m) (by kernel_rfl) (fun _ => by kernel_rfl) ?_
  intro a' ha
  simp only [Act.put, pA, pO, pS] at ha
  subst ha
  refine wq_call hZ S42 H14 (by kernel_rfl) (fun _ => by kernel_rfl) ?_
  intro a' ha
  simp only [Act.put, pA, pO, pS] at ha
  subst ha
  refine wq_pure (.string n) (by kernel_rfl) (fun _ => by kernel_rfl) ?_
  intro a' ha
  simp only [Act.put, pA, pO, pS] at ha
  subst ha
  refine wq_call hZ S42 H15 (by kernel_rfl) (fun _ => by kernel_rfl) ?_
  intro a' ha
  simp only [Act.put, pA, pO, pS] at ha
  subst ha
  refine wq_call hZ S42 H16 (by kernel_rfl) (fun _ => by kernel_rfl) ?_
  intro a' ha
  simp only [Act.put, pA, pO, pS] at ha
  subst ha
  refine wq_call hZ S42 H17 (by kernel_rfl) (fun _ => by kernel_rfl) ?_
  intro a' ha
  simp only [Act.put, pA, pO, pS] at ha
  subst ha
  refine wq_pure (.bool true) rfl (fun _ => by kernel_rfl) ?_
  intro a' ha
  simp only [Act.put, pA, pO, pS] at ha
  subst ha
  refine wq_pure (.bool true) rfl (fun _ => by kernel_rfl) ?_
  intro a' ha
  simp only [Act.put, pA, pO, pS] at ha
  subst ha
  refine wq_load S42 5 b3 0 29 16 (.tmp 9) (q4 x1 y1 z1 t1) (q4 x1 y1 z1 t1) (by kernel_rfl) rfl rfl rfl (Sub.self _) row29 rfl ?_
  intro a' ha
  simp only [Act.put, pA, pO, pS] at ha
  subst ha
  refine wq_load S42 4 b10 0 29 16 (.tmp 11) (q4 x2 y2 z2 t2) (q4 x2 y2 z2 t2) (by kernel_rfl) rfl rfl rfl (Sub.self _) row29 rfl ?_
  intro a' ha
  simp only [Act.put, pA, pO, pS] at ha
  subst ha
  refine wq_call hZ S42 H18 (by kernel_rfl) (fun _ => by kernel_rfl) ?_
  intro a' ha
  simp only [Act.put, pA, pO, pS] at ha
  subst ha
  refine wq_load S42 1 b31 0 36 27 (.tmp 17) (n27 x3 y3 z3) (n27 x3 y3 z3) (by kernel_rfl) rfl rfl rfl (Sub.self _) row36 (n27_size _ _ _) ?_
  intro a' ha
  simp only [Act.put, pA, pO, pS] at ha
  subst ha
  refine wq_load S42 0 b38 0 36 27 (.tmp 19) (n27 x4 y4 z4) (n27 x4 y4 z4) (by kernel_rfl) rfl rfl rfl (Sub.self _) row36 (n27_size _ _ _) ?_
  intro a' ha
  simp only [Act.put, pA, pO, pS] at ha
  subst ha
  refine wq_call hZ S42 H19 (by kernel_rfl) (fun _ => by kernel_rfl) ?_
  intro a' ha
  simp only [Act.put, pA, pO, pS] at ha
  subst ha
  refine wq_pure (.bool true) (by kernel_rfl) (fun _ => (show (execOp _ _).run Tryd.prog _ = .ok (.value (.bool (q == q))) _ from by kernel_rfl).trans (by rw [hq1])) ?_
  intro a' ha
  simp only [Act.put, pA, pO, pS] at ha
  subst ha
  refine wq_pure (.bool true) rfl (fun _ => by kernel_rfl) ?_
  intro a' ha
  simp only [Act.put, pA, pO, pS] at ha
  subst ha
  refine wq_pure (.bool true) rfl (fun _ => by kernel_rfl) ?_
  intro a' ha
  simp only [Act.put, pA, pO, pS] at ha
  subst ha
  refine wq_call hZ S42 H20 (by kernel_rfl) (fun _ => by kernel_rfl) ?_
  intro a' ha
  simp only [Act.put, pA, pO, pS] at ha
  subst ha
  refine wq_pure (.bool true) rfl (fun _ => by kernel_rfl) ?_
  intro a' ha
  simp only [Act.put, pA, pO, pS] at ha
  subst ha
  refine wq_pure (.bool true) rfl (fun _ => by kernel_rfl) ?_
  intro a' ha
  simp only [Act.put, pA, pO, pS] at ha
  subst ha
  refine wq_nil ?_
  intro W43 S44
  refine hK _ _ ?_
  clear hK K
  refine wp_ret ?_
  exact fin_tmp S44 rfl rfl rfl
theorem at_is {p : Ed.Pt} (hp : p.On) : Is (atp p.x.val p.y.val) p := Is.at (Ed.val_lt _) (Ed.val_lt _) (Ed.fe_of _) (Ed.fe_of _) hp
theorem at_isR {p : Ed.Pt} (hp : p.On) : IsR ⟨p.x.val, p.y.val, 1⟩ p := IsR.at (Ed.val_lt _) (Ed.val_lt _) (Ed.fe_of _) (Ed.fe_of _) hp
/-- What Decode answers to any text: a point's numbers and 0, or none and another number. -/
theorem dec_any (s : ByteArray) : ∃ (q : Pq) (e : Int), Ret Z3 9 #[.string s] (.tuple #[pq q, .int .i64 e]) ∧ (e = 0 → ∃ p : Ed.Pt, p.On ∧ enc p = s ∧ q = atp p.x.val p.y.val) := by
  by_cases h : ∃ p : Ed.Pt, p.On ∧ enc p = s
  · obtain ⟨p, hp, rfl⟩ := h
    exact ⟨_, 0, c_dec env3 hp, fun _ => ⟨p, hp, rfl, rfl⟩⟩
  · refine ⟨⟨0, 0, 0, 0⟩, _, c_dec_no env3 h, fun e => ?_⟩
    split at e <;> cases e
theorem of_any (s : ByteArray) : ∃ (a : Nat) (e : Int), Ret Z3 17 #[.string s] (.tuple #[wd a, .int .i64 e]) ∧ (e = 0 → Ord.fits s ∧ a = Ord.of s) := by
  by_cases h : Ord.fits s
  · exact ⟨_, 0, o_of h, fun _ => ⟨h, rfl⟩⟩
  · exact ⟨0, 2, o_of_no h, fun e => by cases e⟩
theorem fits_iff {s : ByteArray} (h : Ord.fits s) : s.size ≤ 100 ∧ Ord.rd s s.size % Ord.Lq = Ord.of s := by
  unfold Ord.fits at h
  exact ⟨by omega, rfl⟩
theorem o_ref {s : ByteArray} (h : Ord.fits s) : Ret Z3 23 #[.string s] (nbv (Ord.of s)) := fun W hW => by
  have := Ord.rof_any s (fits_iff h).1 W
  rw [(fits_iff h).2] at this
  exact this
theorem L_256 {a : Nat} (h : a < Ord.Lq) : a < 2 ^ 256 := Nat.lt_trans (L_253 h) (by decide)
theorem reck_any (s t m n : ByteArray) : Ret Z3 4 #[.string s, .string t, .string m, .string n] (.bool true) := by
  obtain ⟨q1, e, H1, h1⟩ := dec_any s
  obtain ⟨q2, f, H2, h2⟩ := dec_any t
  obtain ⟨a, g, H3, h3⟩ := of_any m
  obtain ⟨b, h, H4, h4⟩ := of_any n
  by_cases c1 : e = 0
  · subst c1
    by_cases c2 : f = 0
    · subst c2
      by_cases c3 : g = 0
      · subst c3
        by_cases c4 : h = 0
        · subst c4
          obtain ⟨p, hp, rfl, rfl⟩ := h1 rfl
          obtain ⟨r, hr, rfl, rfl⟩ := h2 rfl
          obtain ⟨k3, rfl⟩ := h3 rfl
          obtain ⟨k4, rfl⟩ := h4 rfl
          have ip := at_is hp
          have ir := at_is hr
          have jp := at_isR hp
          have jr := at_isR hr
          have l3 := Ord.of_ltL m
          have l4 := Ord.of_ltL n
          have ib := bt4_is ip (L_253 l3) (L_253 l4)
          have jb := (tm_all jp (L_256 l3)).add (tm_all br_is (L_256 l4))
          have fin := fun (q : Bool) (X : Ret Z3 14 #[pq (atp p.x.val p.y.val), pq (atp r.x.val r.y.val)] (.bool q)) (Y : Ret Z3 24 #[pr ⟨p.x.val, p.y.val, 1⟩, pr ⟨r.x.val, r.y.val, 1⟩] (.bool q)) =>
            reck_yes keeps3 H1 H2 H3 H4 (d_dec env3 hp) (d_dec env3 hr) (c_sum env3 ip ir) (d_sum env3 jp jr) (c_is env3 (ip.pls ir) (jp.add jr)) (c_twice env3 ip) (d_sum env3 jp jp) (c_is env3 ip.dbl (jp.add jp)) (c_Both ip l3 l4) (o_ref k3) (o_ref k4) (d_both env3 jp (L_256 l3) (L_256 l4)) (c_is env3 ib jb) X Y (c_alive env3) (by simp)
          by_cases e : p = r
          · exact fin true (c_eq env3 ip ir e) (d_eq env3 jp jr e)
          · exact fin false (c_ne env3 ip ir e) (d_ne env3 jp jr e)
        · exact reck_no4 keeps3 H1 H2 H3 H4 (c_alive env3) (decide_eq_false c4)
      · exact reck_no3 keeps3 H1 H2 H3 H4 (c_alive env3) (decide_eq_false c3)
    · exact reck_no2 keeps3 H1 H2 H3 H4 (c_alive env3) (decide_eq_false c2)
  · exact reck_no1 keeps3 H1 H2 H3 H4 (c_alive env3) (decide_eq_false c1)
end Go.Proofs.YtpdagpjjlnncbaaDoor
