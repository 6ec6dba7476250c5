/-
  Package edw: walks of known, at, join, ready, plus, double, Zero, Base, Add, Twice, beside. No statement is proved here.
-/
import Derived.Test.YtpdagpjjlnncbaaDoorNumN
namespace Go.Proofs.YtpdagpjjlnncbaaDoor
open Go.RowKit Go.Lib Go.BigFrame
set_option linter.unusedVariables false
set_option linter.unusedSimpArgs false
set_option maxRecDepth 1000000
set_option maxHeartbeats 4000000

theorem known_r {Z : World → Prop} (hZ : Keeps Z) {v : Nat} {s : ByteArray} (H1 : Ret Z 64 #[.string s] (.tuple #[wd v, .int .i64 0])) : Ret Z 31 #[.string s] (wd v) := by
  intro w hw
  have S := St.refl hw
  go_enter Tryd.func31, Tryd.ntmps31
  refine wp_seq_k fun K hK => ?_
  refine wr_list ?_
  refine wl_alloc S (e4 0) 27 rfl (fun _ => by kernel_rfl) ?_
  intro b1 W2 a' S3 ha
  simp only [Act.put, List.setIfInBounds_toArray, List.set_cons_zero, List.set_cons_succ] at ha
  subst ha
  refine wl_nil (hK _ _ ?_)
  clear hK K
  refine wp_seq_k fun K hK => ?_
  refine wr_list ?_
  refine wl_pure (.string s) rfl (fun _ => by kernel_rfl) ?_
  intro a' ha
  simp only [Act.put, List.setIfInBounds_toArray, List.set_cons_zero, List.set_cons_succ] at ha
  subst ha
  refine wl_call hZ S3 H1 rfl (fun _ => by kernel_rfl) ?_
  intro W4 a' S5 ha
  simp only [Act.put, List.setIfInBounds_toArray, List.set_cons_zero, List.set_cons_succ] at ha
  subst ha
  refine wl_pure (.tuple #[wd v, .int .i64 0]) rfl (fun _ => by kernel_rfl) ?_
  intro a' ha
  simp only [Act.put, List.setIfInBounds_toArray, List.set_cons_zero, List.set_cons_succ] at ha
  subst ha
  refine wl_pure (wd v) rfl (fun _ => by kernel_rfl) ?_
  intro a' ha
  simp only [Act.put, List.setIfInBounds_toArray, List.set_cons_zero, List.set_cons_succ] at ha
  subst ha
  refine wl_pure (.int .i64 0) rfl (fun _ => by kernel_rfl) ?_
  intro a' ha
  simp only [Act.put, List.setIfInBounds_toArray, List.set_cons_zero, List.set_cons_succ] at ha
  subst ha
  refine wl_alloc S5 (e4 0) 27 rfl (fun _ => by kernel_rfl) ?_
  intro b6 W7 a' S8 ha
  simp only [Act.put, List.setIfInBounds_toArray, List.set_cons_zero, List.set_cons_succ] at ha
  subst ha
  refine wl_store S8 0 b6 27 4 (.tmp 3) (.tmp 8) (e4 0) (e4 v) rfl rfl rfl rfl rfl row27 rfl rfl (e4_one _) ?_
  intro W9 a' S10 ha
  simp only [Act.put, List.setIfInBounds_toArray, List.set_cons_zero, List.set_cons_succ] at ha
  subst ha
  refine wl_pure (.int .i64 0) rfl (fun _ => by kernel_rfl) ?_
  intro a' ha
  simp only [Act.put, List.setIfInBounds_toArray, List.set_cons_zero, List.set_cons_succ] at ha
  subst ha
  refine wl_nil (hK _ _ ?_)
  clear hK K
  refine wp_seq_k fun K hK => ?_
  refine wr_list ?_
  refine wl_load S10 0 b6 0 27 4 (.tmp 3) (e4 v) (e4 v) rfl rfl rfl rfl (Sub.self _) row27 rfl ?_
  intro a' ha
  simp only [Act.put, List.setIfInBounds_toArray, List.set_cons_zero, List.set_cons_succ] at ha
  subst ha
  refine wl_store S10 1 b1 27 4 (.tmp 2) (.tmp 10) (e4 0) (e4 v) rfl rfl rfl rfl rfl row27 rfl rfl (e4_one _) ?_
  intro W11 a' S12 ha
  simp only [Act.put, List.setIfInBounds_toArray, List.set_cons_zero, List.set_cons_succ] at ha
  subst ha
  refine wl_nil (hK _ _ ?_)
  clear hK K
  refine wp_ret ?_
  exact fin_cell (k := 1) S12 rfl rfl rfl row27 rfl rfl
theorem at_r {Z : World → Prop} (hZ : Keeps Z) {x y v1 v2 : Nat} (H1 : Ret Z 59 #[.int .u32 1] (wd v1)) (H2 : Ret Z 44 #[wd x, wd y] (wd v2)) : Ret Z 33 #[wd x, wd y] (pv x y v1 v2) := by
  intro w hw
  have S := St.refl hw
  go_enter Tryd.func33, Tryd.ntmps33
  refine wp_seq_k fun K hK => ?_
  refine wr_list ?_
  refine wl_alloc S (e4 x) 27 rfl (fun _ => by kernel_rfl) ?_
  intro b1 W2 a' S3 ha
  simp only [Act.put, List.setIfInBounds_toArray, List.set_cons_zero, List.set_cons_succ] at ha
  subst ha
  refine wl_alloc S3 (e4 y) 27 rfl (fun _ => by kernel_rfl) ?_
  intro b4 W5 a' S6 ha
  simp only [Act.put, List.setIfInBounds_toArray, List.set_cons_zero, List.set_cons_succ] at ha
  subst ha
  refine wl_alloc S6 (q4 0 0 0 0) 29 rfl (fun _ => by kernel_rfl) ?_
  intro b7 W8 a' S9 ha
  simp only [Act.put, List.setIfInBounds_toArray, List.set_cons_zero, List.set_cons_succ] at ha
  subst ha
  refine wl_nil (hK _ _ ?_)
  clear hK K
  refine wp_seq_k fun K hK => ?_
  refine wr_tail [_, _, _, _, _, _, _] [_] S9 (by simp) (by kernel_rfl) (by kernel_rfl) (by kernel_rfl) (by kernel_rfl) (by kernel_rfl) ?_
  refine wq_load S9 2 b1 0 27 4 (.tmp 2) (e4 x) (e4 x) rfl rfl rfl rfl (Sub.self _) row27 rfl ?_
  intro a' ha
  simp only [Act.put, List.setIfInBounds_toArray, List.set_cons_zero, List.set_cons_succ] at ha
  subst ha
  refine wq_load S9 1 b4 0 27 4 (.tmp 3) (e4 y) (e4 y) rfl rfl rfl rfl (Sub.self _) row27 rfl ?_
  intro a' ha
  simp only [Act.put, List.setIfInBounds_toArray, List.set_cons_zero, List.set_cons_succ] at ha
  subst ha
  refine wq_call hZ S9 H1 rfl (fun _ => by kernel_rfl) ?_
  intro a' ha
  simp only [Act.put, List.setIfInBounds_toArray, List.set_cons_zero, List.set_cons_succ] at ha
  subst ha
  refine wq_load S9 2 b1 0 27 4 (.tmp 2) (e4 x) (e4 x) rfl rfl rfl rfl (Sub.self _) row27 rfl ?_
  intro a' ha
  simp only [Act.put, List.setIfInBounds_toArray, List.set_cons_zero, List.set_cons_succ] at ha
  subst ha
  refine wq_load S9 1 b4 0 27 4 (.tmp 3) (e4 y) (e4 y) rfl rfl rfl rfl (Sub.self _) row27 rfl ?_
  intro a' ha
  simp only [Act.put, List.setIfInBounds_toArray, List.set_cons_zero, List.set_cons_succ] at ha
  subst ha
  refine wq_call hZ S9 H2 rfl (fun _ => by kernel_rfl) ?_
  intro a' ha
  simp only [Act.put, List.setIfInBounds_toArray, List.set_cons_zero, List.set_cons_succ] at ha
  subst ha
  refine wq_pure (.agg (q4 x y v1 v2)) rfl (fun _ => by kernel_rfl) ?_
  intro a' ha
  simp only [Act.put, List.setIfInBounds_toArray, List.set_cons_zero, List.set_cons_succ] at ha
  subst ha
  refine wq_nil ?_
  intro W10 S11
  refine wt_store S11 0 b7 29 16 (.tmp 4) (.tmp 11) (q4 0 0 0 0) (q4 x y v1 v2) rfl rfl rfl rfl row29 rfl rfl (q4_one _ _ _ _) ?_
  intro W12 a' S13 ha
  simp only [Act.put, List.setIfInBounds_toArray, List.set_cons_zero, List.set_cons_succ] at ha
  subst ha
  refine wt_nil (hK _ _ ?_)
  clear hK K
  refine wp_ret ?_
  exact fin_cell (k := 0) S13 rfl rfl rfl row29 rfl rfl
theorem join_r {Z : World → Prop} (hZ : Keeps Z) {e f g h v1 v2 v3 v4 : Nat} (H1 : Ret Z 44 #[wd e, wd f] (wd v1)) (H2 : Ret Z 44 #[wd g, wd h] (wd v2)) (H3 : Ret Z 44 #[wd f, wd g] (wd v3)) (H4 : Ret Z 44 #[wd e, wd h] (wd v4)) : Ret Z 80 #[wd e, wd f, wd g, wd h] (pv v1 v2 v3 v4) := by
  intro w hw
  have S := St.refl hw
  go_enter Tryd.func80, Tryd.ntmps80
  refine wp_seq_k fun K hK => ?_
  refine wr_list ?_
  refine wl_alloc S (e4 e) 27 rfl (fun _ => by kernel_rfl) ?_
  intro b1 W2 a' S3 ha
  simp only [Act.put, List.setIfInBounds_toArray, List.set_cons_zero, List.set_cons_succ] at ha
  subst ha
  refine wl_alloc S3 (e4 f) 27 rfl (fun _ => by kernel_rfl) ?_
  intro b4 W5 a' S6 ha
  simp only [Act.put, List.setIfInBounds_toArray, List.set_cons_zero, List.set_cons_succ] at ha
  subst ha
  refine wl_alloc S6 (e4 g) 27 rfl (fun _ => by kernel_rfl) ?_
  intro b7 W8 a' S9 ha
  simp only [Act.put, List.setIfInBounds_toArray, List.set_cons_zero, List.set_cons_succ] at ha
  subst ha
  refine wl_alloc S9 (e4 h) 27 rfl (fun _ => by kernel_rfl) ?_
  intro b10 W11 a' S12 ha
  simp only [Act.put, List.setIfInBounds_toArray, List.set_cons_zero, List.set_cons_succ] at ha
  subst ha
  refine wl_alloc S12 (q4 0 0 0 0) 29 rfl (fun _ => by kernel_rfl) ?_
  intro b13 W14 a' S15 ha
  simp only [Act.put, List.setIfInBounds_toArray, List.set_cons_zero, List.set_cons_succ] at ha
  subst ha
  refine wl_nil (hK _ _ ?_)
  clear hK K
  refine wp_seq_k fun K hK => ?_
  refine wr_tail [_, _, _, _, _, _, _, _, _, _, _, _, _] [_] S15 (by simp) (by kernel_rfl) (by kernel_rfl) (by kernel_rfl) (by kernel_rfl) (by kernel_rfl) ?_
  refine wq_load S15 4 b1 0 27 4 (.tmp 4) (e4 e) (e4 e) rfl rfl rfl rfl (Sub.self _) row27 rfl ?_
  intro a' ha
  simp only [Act.put, List.setIfInBounds_toArray, List.set_cons_zero, List.set_cons_succ] at ha
  subst ha
  refine wq_load S15 3 b4 0 27 4 (.tmp 5) (e4 f) (e4 f) rfl rfl rfl rfl (Sub.self _) row27 rfl ?_
  intro a' ha
  simp only [Act.put, List.setIfInBounds_toArray, List.set_cons_zero, List.set_cons_succ] at ha
  subst ha
  refine wq_call hZ S15 H1 rfl (fun _ => by kernel_rfl) ?_
  intro a' ha
  simp only [Act.put, List.setIfInBounds_toArray, List.set_cons_zero, List.set_cons_succ] at ha
  subst ha
  refine wq_load S15 2 b7 0 27 4 (.tmp 6) (e4 g) (e4 g) rfl rfl rfl rfl (Sub.self _) row27 rfl ?_
  intro a' ha
  simp only [Act.put, List.setIfInBounds_toArray, List.set_cons_zero, List.set_cons_succ] at ha
  subst ha
  refine wq_load S15 1 b10 0 27 4 (.tmp 7) (e4 h) (e4 h) rfl rfl rfl rfl (Sub.self _) row27 rfl ?_
  intro a' ha
  simp only [Act.put, List.setIfInBounds_toArray, List.set_cons_zero, List.set_cons_succ] at ha
  subst ha
  refine wq_call hZ S15 H2 rfl (fun _ => by kernel_rfl) ?_
  intro a' ha
  simp only [Act.put, List.setIfInBounds_toArray, List.set_cons_zero, List.set_cons_succ] at ha
  subst ha
  refine wq_load S15 3 b4 0 27 4 (.tmp 5) (e4 f) (e4 f) rfl rfl rfl rfl (Sub.self _) row27 rfl ?_
  intro a' ha
  simp only [Act.put, List.setIfInBounds_toArray, List.set_cons_zero, List.set_cons_succ] at ha
  subst ha
  refine wq_load S15 2 b7 0 27 4 (.tmp 6) (e4 g) (e4 g) rfl rfl rfl rfl (Sub.self _) row27 rfl ?_
  intro a' ha
  simp only [Act.put, List.setIfInBounds_toArray, List.set_cons_zero, List.set_cons_succ] at ha
  subst ha
  refine wq_call hZ S15 H3 rfl (fun _ => by kernel_rfl) ?_
  intro a' ha
  simp only [Act.put, List.setIfInBounds_toArray, List.set_cons_zero, List.set_cons_succ] at ha
  subst ha
  refine wq_load S15 4 b1 0 27 4 (.tmp 4) (e4 e) (e4 e) rfl rfl rfl rfl (Sub.self _) row27 rfl ?_
  intro a' ha
  simp only [Act.put, List.setIfInBounds_toArray, List.set_cons_zero, List.set_cons_succ] at ha
  subst ha
  refine wq_load S15 1 b10 0 27 4 (.tmp 7) (e4 h) (e4 h) rfl rfl rfl rfl (Sub.self _) row27 rfl ?_
  intro a' ha
  simp only [Act.put, List.setIfInBounds_toArray, List.set_cons_zero, List.set_cons_succ] at ha
  subst ha
  refine wq_call hZ S15 H4 rfl (fun _ => by kernel_rfl) ?_
  intro a' ha
  simp only [Act.put, List.setIfInBounds_toArray, List.set_cons_zero, List.set_cons_succ] at ha
  subst ha
  refine wq_pure (.agg (q4 v1 v2 v3 v4)) rfl (fun _ => by kernel_rfl) ?_
  intro a' ha
  simp only [Act.put, List.setIfInBounds_toArray, List.set_cons_zero, List.set_cons_succ] at ha
  subst ha
  refine wq_nil ?_
  intro W16 S17
  refine wt_store S17 0 b13 29 16 (.tmp 8) (.tmp 21) (q4 0 0 0 0) (q4 v1 v2 v3 v4) rfl rfl rfl rfl row29 rfl rfl (q4_one _ _ _ _) ?_
  intro W18 a' S19 ha
  simp only [Act.put, List.setIfInBounds_toArray, List.set_cons_zero, List.set_cons_succ] at ha
  subst ha
  refine wt_nil (hK _ _ ?_)
  clear hK K
  refine wp_ret ?_
  exact fin_cell (k := 0) S19 rfl rfl rfl row29 rfl rfl
theorem ready_r {Z : World → Prop} (hZ : Keeps Z) {x1 y1 z1 t1 v1 v2 v3 v4 v5 v6 : Nat} (H1 : Ret Z 66 #[wd y1, wd x1] (wd v1)) (H2 : Ret Z 65 #[wd y1, wd x1] (wd v2)) (H3 : Ret Z 66 #[wd z1, wd z1] (wd v3)) (H4 : Ret Z 66 #[wd t1, wd t1] (wd v4)) (H5 : Ret Z 31 #[.string ⟨#[163, 120, 89, 19, 202, 77, 235, 117, 171, 216, 65, 65, 77, 10, 112, 0, 152, 232, 121, 119, 121, 64, 199, 140, 115, 254, 111, 43, 238, 108, 3, 82]⟩] (wd v5)) (H6 : Ret Z 44 #[wd v4, wd v5] (wd v6)) : Ret Z 51 #[pv x1 y1 z1 t1] (pv v1 v2 v3 v6) := by
  intro w hw
  have S := St.refl hw
  go_enter Tryd.func51, Tryd.ntmps51
  refine wp_seq_k fun K hK => ?_
  refine wr_list ?_
  refine wl_alloc S (q4 x1 y1 z1 t1) 29 rfl (fun _ => by kernel_rfl) ?_
  intro b1 W2 a' S3 ha
  simp only [Act.put, List.setIfInBounds_toArray, List.set_cons_zero, List.set_cons_succ] at ha
  subst ha
  refine wl_alloc S3 (q4 0 0 0 0) 83 rfl (fun _ => by kernel_rfl) ?_
  intro b4 W5 a' S6 ha
  simp only [Act.put, List.setIfInBounds_toArray, List.set_cons_zero, List.set_cons_succ] at ha
  subst ha
  refine wl_nil (hK _ _ ?_)
  clear hK K
  refine wp_seq_k fun K hK => ?_
  refine wr_tail [_, _, _, _, _, _, _, _, _, _, _, _, _, _, _, _, _, _, _, _, _, _, _] [_] S6 (by simp) (by kernel_rfl) (by kernel_rfl) (by kernel_rfl) (by kernel_rfl) (by kernel_rfl) ?_
  refine wq_pure (.pointer (some ⟨b1, 4, none⟩)) rfl (fun _ => by kernel_rfl) ?_
  intro a' ha
  simp only [Act.put, List.setIfInBounds_toArray, List.set_cons_zero, List.set_cons_succ] at ha
  subst ha
  refine wq_load S6 1 b1 4 27 4 (.tmp 3) (q4 x1 y1 z1 t1) (e4 y1) rfl rfl rfl rfl (sub_y _ _ _ _) row27 rfl ?_
  intro a' ha
  simp only [Act.put, List.setIfInBounds_toArray, List.set_cons_zero, List.set_cons_succ] at ha
  subst ha
  refine wq_pure (.pointer (some ⟨b1, 0, none⟩)) rfl (fun _ => by kernel_rfl) ?_
  intro a' ha
  simp only [Act.put, List.setIfInBounds_toArray, List.set_cons_zero, List.set_cons_succ] at ha
  subst ha
  refine wq_load S6 1 b1 0 27 4 (.tmp 5) (q4 x1 y1 z1 t1) (e4 x1) rfl rfl rfl rfl (sub_x _ _ _ _) row27 rfl ?_
  intro a' ha
  simp only [Act.put, List.setIfInBounds_toArray, List.set_cons_zero, List.set_cons_succ] at ha
  subst ha
  refine wq_call hZ S6 H1 rfl (fun _ => by kernel_rfl) ?_
  intro a' ha
  simp only [Act.put, List.setIfInBounds_toArray, List.set_cons_zero, List.set_cons_succ] at ha
  subst ha
  refine wq_pure (.pointer (some ⟨b1, 4, none⟩)) rfl (fun _ => by kernel_rfl) ?_
  intro a' ha
  simp only [Act.put, List.setIfInBounds_toArray, List.set_cons_zero, List.set_cons_succ] at ha
  subst ha
  refine wq_load S6 1 b1 4 27 4 (.tmp 8) (q4 x1 y1 z1 t1) (e4 y1) rfl rfl rfl rfl (sub_y _ _ _ _) row27 rfl ?_
  intro a' ha
  simp only [Act.put, List.setIfInBounds_toArray, List.set_cons_zero, List.set_cons_succ] at ha
  subst ha
  refine wq_pure (.pointer (some ⟨b1, 0, none⟩)) rfl (fun _ => by kernel_rfl) ?_
  intro a' ha
  simp only [Act.put, List.setIfInBounds_toArray, List.set_cons_zero, List.set_cons_succ] at ha
  subst ha
  refine wq_load S6 1 b1 0 27 4 (.tmp 10) (q4 x1 y1 z1 t1) (e4 x1) rfl rfl rfl rfl (sub_x _ _ _ _) row27 rfl ?_
  intro a' ha
  simp only [Act.put, List.setIfInBounds_toArray, List.set_cons_zero, List.set_cons_succ] at ha
  subst ha
  refine wq_call hZ S6 H2 rfl (fun _ => by kernel_rfl) ?_
  intro a' ha
  simp only [Act.put, List.setIfInBounds_toArray, List.set_cons_zero, List.set_cons_succ] at ha
  subst ha
  refine wq_pure (.pointer (some ⟨b1, 8, none⟩)) rfl (fun _ => by kernel_rfl) ?_
  intro a' ha
  simp only [Act.put, List.setIfInBounds_toArray, List.set_cons_zero, List.set_cons_succ] at ha
  subst ha
  refine wq_load S6 1 b1 8 27 4 (.tmp 13) (q4 x1 y1 z1 t1) (e4 z1) rfl rfl rfl rfl (sub_z _ _ _ _) row27 rfl ?_
  intro a' ha
  simp only [Act.put, List.setIfInBounds_toArray, List.set_cons_zero, List.set_cons_succ] at ha
  subst ha
  refine wq_pure (.pointer (some ⟨b1, 8, none⟩)) rfl (fun _ => by kernel_rfl) ?_
  intro a' ha
  simp only [Act.put, List.setIfInBounds_toArray, List.set_cons_zero, List.set_cons_succ] at ha
  subst ha
  refine wq_load S6 1 b1 8 27 4 (.tmp 15) (q4 x1 y1 z1 t1) (e4 z1) rfl rfl rfl rfl (sub_z _ _ _ _) row27 rfl ?_
  intro a' ha
  simp only [Act.put, List.setIfInBounds_toArray, List.set_cons_zero, List.set_cons_succ] at ha
  subst ha
  refine wq_call hZ S6 H3 rfl (fun _ => by kernel_rfl) ?_
  intro a' ha
  simp only [Act.put, List.setIfInBounds_toArray, List.set_cons_zero, List.set_cons_succ] at ha
  subst ha
  refine wq_pure (.pointer (some ⟨b1, 12, none⟩)) rfl (fun _ => by kernel_rfl) ?_
  intro a' ha
  simp only [Act.put, List.setIfInBounds_toArray, List.set_cons_zero, List.set_cons_succ] at ha
  subst ha
  refine wq_load S6 1 b1 12 27 4 (.tmp 18) (q4 x1 y1 z1 t1) (e4 t1) rfl rfl rfl rfl (sub_t _ _ _ _) row27 rfl ?_
  intro a' ha
  simp only [Act.put, List.setIfInBounds_toArray, List.set_cons_zero, List.set_cons_succ] at ha
  subst ha
  refine wq_pure (.pointer (some ⟨b1, 12, none⟩)) rfl (fun _ => by kernel_rfl) ?_
  intro a' ha
  simp only [Act.put, List.setIfInBounds_toArray, List.set_cons_zero, List.set_cons_succ] at ha
  subst ha
  refine wq_load S6 1 b1 12 27 4 (.tmp 20) (q4 x1 y1 z1 t1) (e4 t1) rfl rfl rfl rfl (sub_t _ _ _ _) row27 rfl ?_
  intro a' ha
  simp only [Act.put, List.setIfInBounds_toArray, List.set_cons_zero, List.set_cons_succ] at ha
  subst ha
  refine wq_call hZ S6 H4 rfl (fun _ => by kernel_rfl) ?_
  intro a' ha
  simp only [Act.put, List.setIfInBounds_toArray, List.set_cons_zero, List.set_cons_succ] at ha
  subst ha
  refine wq_call hZ S6 H5 rfl (fun _ => by kernel_rfl) ?_
  intro a' ha
  simp only [Act.put, List.setIfInBounds_toArray, List.set_cons_zero, List.set_cons_succ] at ha
  subst ha
  refine wq_call hZ S6 H6 rfl (fun _ => by kernel_rfl) ?_
  intro a' ha
  simp only [Act.put, List.setIfInBounds_toArray, List.set_cons_zero, List.set_cons_succ] at ha
  subst ha
  refine wq_pure (.agg (q4 v1 v2 v3 v6)) rfl (fun _ => by kernel_rfl) ?_
  intro a' ha
  simp only [Act.put, List.setIfInBounds_toArray, List.set_cons_zero, List.set_cons_succ] at ha
  subst ha
  refine wq_nil ?_
  intro W7 S8
  refine wt_store S8 0 b4 83 16 (.tmp 2) (.tmp 25) (q4 0 0 0 0) (q4 v1 v2 v3 v6) rfl rfl rfl rfl row83 rfl rfl (q4_one _ _ _ _) ?_
  intro W9 a' S10 ha
  simp only [Act.put, List.setIfInBounds_toArray, List.set_cons_zero, List.set_cons_succ] at ha
  subst ha
  refine wt_nil (hK _ _ ?_)
  clear hK K
  refine wp_ret ?_
  exact fin_cell (k := 0) S10 rfl rfl rfl row83 rfl rfl
theorem plus_r {Z : World → Prop} (hZ : Keeps Z) {x1 y1 z1 t1 x2 y2 z2 t2 v1 v2 v3 v4 v5 v6 v7 v8 v9 v10 v11 v12 v13 v14 : Nat} (H1 : Ret Z 65 #[wd y1, wd x1] (wd v1)) (H2 : Ret Z 44 #[wd v1, wd y2] (wd v2)) (H3 : Ret Z 66 #[wd y1, wd x1] (wd v3)) (H4 : Ret Z 44 #[wd v3, wd x2] (wd v4)) (H5 : Ret Z 44 #[wd t1, wd t2] (wd v5)) (H6 : Ret Z 44 #[wd z1, wd z2] (wd v6)) (H7 : Ret Z 65 #[wd v4, wd v2] (wd v7)) (H8 : Ret Z 65 #[wd v6, wd v5] (wd v8)) (H9 : Ret Z 66 #[wd v6, wd v5] (wd v9)) (H10 : Ret Z 66 #[wd v4, wd v2] (wd v10)) (H11 : Ret Z 80 #[wd v7, wd v8, wd v9, wd v10] (pv v11 v12 v13 v14)) : Ret Z 50 #[pv x1 y1 z1 t1, pv x2 y2 z2 t2] (pv v11 v12 v13 v14) := by
  intro w hw
  have S := St.refl hw
  go_enter Tryd.func50, Tryd.ntmps50
  refine wp_seq_k fun K hK => ?_
  refine wr_list ?_
  refine wl_alloc S (q4 x1 y1 z1 t1) 29 rfl (fun _ => by kernel_rfl) ?_
  intro b1 W2 a' S3 ha
  simp only [Act.put, List.setIfInBounds_toArray, List.set_cons_zero, List.set_cons_succ] at ha
  subst ha
  refine wl_alloc S3 (q4 x2 y2 z2 t2) 83 rfl (fun _ => by kernel_rfl) ?_
  intro b4 W5 a' S6 ha
  simp only [Act.put, List.setIfInBounds_toArray, List.set_cons_zero, List.set_cons_succ] at ha
  subst ha
  refine wl_alloc S6 (q4 0 0 0 0) 29 rfl (fun _ => by kernel_rfl) ?_
  intro b7 W8 a' S9 ha
  simp only [Act.put, List.setIfInBounds_toArray, List.set_cons_zero, List.set_cons_succ] at ha
  subst ha
  refine wl_nil (hK _ _ ?_)
  clear hK K
  refine wp_seq_k fun K hK => ?_
  apply wr_news [(5, 27, (e4 0)), (6, 27, (e4 0))] [_, _, _, _, _, _, _, _, _, _, _, _, _, _, _, _, _, _] [_, _] S9 (by simp) (by kernel_rfl) (by kernel_rfl) (by kernel_rfl) (by kernel_rfl) (by kernel_rfl) (by kernel_rfl) (by decide) (by intro x hx; simp only [List.mem_cons, List.not_mem_nil, or_false] at hx; rcases hx with rfl | rfl <;> intro W <;> kernel_rfl)
  · intro V10 S11
    simp only [List.cons_append, List.nil_append, List.map_cons, List.map_nil, still, isNew, idle, if_true, Bool.false_eq_true, if_false]
    refine wq_pure (.pointer (some ⟨b1, 4, none⟩)) rfl (fun _ => by kernel_rfl) ?_
    intro a' ha
    simp only [Act.put, List.setIfInBounds_toArray, List.set_cons_zero, List.set_cons_succ] at ha
    subst ha
    refine wq_load S11 2 b1 4 27 4 (.tmp 9) (q4 x1 y1 z1 t1) (e4 y1) rfl rfl rfl rfl (sub_y _ _ _ _) row27 rfl ?_
    intro a' ha
    simp only [Act.put, List.setIfInBounds_toArray, List.set_cons_zero, List.set_cons_succ] at ha
    subst ha
    refine wq_pure (.pointer (some ⟨b1, 0, none⟩)) rfl (fun _ => by kernel_rfl) ?_
    intro a' ha
    simp only [Act.put, List.setIfInBounds_toArray, List.set_cons_zero, List.set_cons_succ] at ha
    subst ha
    refine wq_load S11 2 b1 0 27 4 (.tmp 11) (q4 x1 y1 z1 t1) (e4 x1) rfl rfl rfl rfl (sub_x _ _ _ _) row27 rfl ?_
    intro a' ha
    simp only [Act.put, List.setIfInBounds_toArray, List.set_cons_zero, List.set_cons_succ] at ha
    subst ha
    refine wq_call hZ S11 H1 rfl (fun _ => by kernel_rfl) ?_
    intro a' ha
    simp only [Act.put, List.setIfInBounds_toArray, List.set_cons_zero, List.set_cons_succ] at ha
    subst ha
    refine wq_pure (.pointer (some ⟨b4, 4, none⟩)) rfl (fun _ => by kernel_rfl) ?_
    intro a' ha
    simp only [Act.put, List.setIfInBounds_toArray, List.set_cons_zero, List.set_cons_succ] at ha
    subst ha
    refine wq_load S11 1 b4 4 27 4 (.tmp 14) (q4 x2 y2 z2 t2) (e4 y2) rfl rfl rfl rfl (sub_y _ _ _ _) row27 rfl ?_
    intro a' ha
    simp only [Act.put, List.setIfInBounds_toArray, List.set_cons_zero, List.set_cons_succ] at ha
    subst ha
    refine wq_call hZ S11 H2 rfl (fun _ => by kernel_rfl) ?_
    intro a' ha
    simp only [Act.put, List.setIfInBounds_toArray, List.set_cons_zero, List.set_cons_succ] at ha
    subst ha
    refine wq_pure (.pointer (some ⟨b1, 4, none⟩)) rfl (fun _ => by kernel_rfl) ?_
    intro a' ha
    simp only [Act.put, List.setIfInBounds_toArray, List.set_cons_zero, List.set_cons_succ] at ha
    subst ha
    refine wq_load S11 2 b1 4 27 4 (.tmp 17) (q4 x1 y1 z1 t1) (e4 y1) rfl rfl rfl rfl (sub_y _ _ _ _) row27 rfl ?_
    intro a' ha
    simp only [Act.put, List.setIfInBounds_toArray, List.set_cons_zero, List.set_cons_succ] at ha
    subst ha
    refine wq_pure (.pointer (some ⟨b1, 0, none⟩)) rfl (fun _ => by kernel_rfl) ?_
    intro a' ha
    simp only [Act.put, List.setIfInBounds_toArray, List.set_cons_zero, List.set_cons_succ] at ha
    subst ha
    refine wq_load S11 2 b1 0 27 4 (.tmp 19) (q4 x1 y1 z1 t1) (e4 x1) rfl rfl rfl rfl (sub_x _ _ _ _) row27 rfl ?_
    intro a' ha
    simp only [Act.put, List.setIfInBounds_toArray, List.set_cons_zero, List.set_cons_succ] at ha
    subst ha
    refine wq_call hZ S11 H3 rfl (fun _ => by kernel_rfl) ?_
    intro a' ha
    simp only [Act.put, List.setIfInBounds_toArray, List.set_cons_zero, List.set_cons_succ] at ha
    subst ha
    refine wq_pure (.pointer (some ⟨b4, 0, none⟩)) rfl (fun _ => by kernel_rfl) ?_
    intro a' ha
    simp only [Act.put, List.setIfInBounds_toArray, List.set_cons_zero, List.set_cons_succ] at ha
    subst ha
    refine wq_load S11 1 b4 0 27 4 (.tmp 22) (q4 x2 y2 z2 t2) (e4 x2) rfl rfl rfl rfl (sub_x _ _ _ _) row27 rfl ?_
    intro a' ha
    simp only [Act.put, List.setIfInBounds_toArray, List.set_cons_zero, List.set_cons_succ] at ha
    subst ha
    refine wq_call hZ S11 H4 rfl (fun _ => by kernel_rfl) ?_
    intro a' ha
    simp only [Act.put, List.setIfInBounds_toArray, List.set_cons_zero, List.set_cons_succ] at ha
    subst ha
    refine wq_pure undef rfl (fun _ => by kernel_rfl) ?_
    intro a' ha
    simp only [Act.put, List.setIfInBounds_toArray, List.set_cons_zero, List.set_cons_succ] at ha
    subst ha
    refine wq_pure undef rfl (fun _ => by kernel_rfl) ?_
    intro a' ha
    simp only [Act.put, List.setIfInBounds_toArray, List.set_cons_zero, List.set_cons_succ] at ha
    subst ha
    refine wq_nil ?_
    rfl
  intro W12 p S13
  simp only [putAll, Act.put, List.setIfInBounds_toArray, List.set_cons_zero, List.set_cons_succ]
  have S16 : St Z w W12 [(p 5, .row (e4 0) 27), (p 6, .row (e4 0) 27), (b7, .row (q4 0 0 0 0) 29), (b4, .row (q4 x2 y2 z2 t2) 83), (b1, .row (q4 x1 y1 z1 t1) 29)] := S13
  clear S13
  generalize p 5 = b14 at S16 ⊢
  generalize p 6 = b15 at S16 ⊢
  refine wt_store S16 0 b14 27 4 (.tmp 5) (.tmp 16) (e4 0) (e4 v2) rfl rfl rfl rfl row27 rfl rfl (e4_one _) ?_
  intro W17 a' S18 ha
  simp only [Act.put, List.setIfInBounds_toArray, List.set_cons_zero, List.set_cons_succ] at ha
  subst ha
  refine wt_store S18 1 b15 27 4 (.tmp 6) (.tmp 24) (e4 0) (e4 v4) rfl rfl rfl rfl row27 rfl rfl (e4_one _) ?_
  intro W19 a' S20 ha
  simp only [Act.put, List.setIfInBounds_toArray, List.set_cons_zero, List.set_cons_succ] at ha
  subst ha
  refine wt_nil (hK _ _ ?_)
  clear hK K
  refine wp_seq_k fun K hK => ?_
  apply wr_news [(7, 27, (e4 0)), (8, 27, (e4 0))] [_, _, _, _, _, _, _, _, _, _, _, _] [_, _] S20 (by simp) (by kernel_rfl) (by kernel_rfl) (by kernel_rfl) (by kernel_rfl) (by kernel_rfl) (by kernel_rfl) (by decide) (by intro x hx; simp only [List.mem_cons, List.not_mem_nil, or_false] at hx; rcases hx with rfl | rfl <;> intro W <;> kernel_rfl)
  · intro V21 S22
    simp only [List.cons_append, List.nil_append, List.map_cons, List.map_nil, still, isNew, idle, if_true, Bool.false_eq_true, if_false]
    refine wq_pure (.pointer (some ⟨b1, 12, none⟩)) rfl (fun _ => by kernel_rfl) ?_
    intro a' ha
    simp only [Act.put, List.setIfInBounds_toArray, List.set_cons_zero, List.set_cons_succ] at ha
    subst ha
    refine wq_load S22 4 b1 12 27 4 (.tmp 25) (q4 x1 y1 z1 t1) (e4 t1) rfl rfl rfl rfl (sub_t _ _ _ _) row27 rfl ?_
    intro a' ha
    simp only [Act.put, List.setIfInBounds_toArray, List.set_cons_zero, List.set_cons_succ] at ha
    subst ha
    refine wq_pure (.pointer (some ⟨b4, 12, none⟩)) rfl (fun _ => by kernel_rfl) ?_
    intro a' ha
    simp only [Act.put, List.setIfInBounds_toArray, List.set_cons_zero, List.set_cons_succ] at ha
    subst ha
    refine wq_load S22 3 b4 12 27 4 (.tmp 27) (q4 x2 y2 z2 t2) (e4 t2) rfl rfl rfl rfl (sub_t _ _ _ _) row27 rfl ?_
    intro a' ha
    simp only [Act.put, List.setIfInBounds_toArray, List.set_cons_zero, List.set_cons_succ] at ha
    subst ha
    refine wq_call hZ S22 H5 rfl (fun _ => by kernel_rfl) ?_
    intro a' ha
    simp only [Act.put, List.setIfInBounds_toArray, List.set_cons_zero, List.set_cons_succ] at ha
    subst ha
    refine wq_pure (.pointer (some ⟨b1, 8, none⟩)) rfl (fun _ => by kernel_rfl) ?_
    intro a' ha
    simp only [Act.put, List.setIfInBounds_toArray, List.set_cons_zero, List.set_cons_succ] at ha
    subst ha
    refine wq_load S22 4 b1 8 27 4 (.tmp 30) (q4 x1 y1 z1 t1) (e4 z1) rfl rfl rfl rfl (sub_z _ _ _ _) row27 rfl ?_
    intro a' ha
    simp only [Act.put, List.setIfInBounds_toArray, List.set_cons_zero, List.set_cons_succ] at ha
    subst ha
    refine wq_pure (.pointer (some ⟨b4, 8, none⟩)) rfl (fun _ => by kernel_rfl) ?_
    intro a' ha
    simp only [Act.put, List.setIfInBounds_toArray, List.set_cons_zero, List.set_cons_succ] at ha
    subst ha
    refine wq_load S22 3 b4 8 27 4 (.tmp 32) (q4 x2 y2 z2 t2) (e4 z2) rfl rfl rfl rfl (sub_z _ _ _ _) row27 rfl ?_
    intro a' ha
    simp only [Act.put, List.setIfInBounds_toArray, List.set_cons_zero, List.set_cons_succ] at ha
    subst ha
    refine wq_call hZ S22 H6 rfl (fun _ => by kernel_rfl) ?_
    intro a' ha
    simp only [Act.put, List.setIfInBounds_toArray, List.set_cons_zero, List.set_cons_succ] at ha
    subst ha
    refine wq_pure undef rfl (fun _ => by kernel_rfl) ?_
    intro a' ha
    simp only [Act.put, List.setIfInBounds_toArray, List.set_cons_zero, List.set_cons_succ] at ha
    subst ha
    refine wq_pure undef rfl (fun _ => by kernel_rfl) ?_
    intro a' ha
    simp only [Act.put, List.setIfInBounds_toArray, List.set_cons_zero, List.set_cons_succ] at ha
    subst ha
    refine wq_nil ?_
    rfl
  intro W23 p S24
  simp only [putAll, Act.put, List.setIfInBounds_toArray, List.set_cons_zero, List.set_cons_succ]
  have S27 : St Z w W23 [(p 7, .row (e4 0) 27), (p 8, .row (e4 0) 27), (b14, .row (e4 v2) 27), (b15, .row (e4 v4) 27), (b7, .row (q4 0 0 0 0) 29), (b4, .row (q4 x2 y2 z2 t2) 83), (b1, .row (q4 x1 y1 z1 t1) 29)] := S24
  clear S24
  generalize p 7 = b25 at S27 ⊢
  generalize p 8 = b26 at S27 ⊢
  refine wt_store S27 0 b25 27 4 (.tmp 7) (.tmp 29) (e4 0) (e4 v5) rfl rfl rfl rfl row27 rfl rfl (e4_one _) ?_
  intro W28 a' S29 ha
  simp only [Act.put, List.setIfInBounds_toArray, List.set_cons_zero, List.set_cons_succ] at ha
  subst ha
  refine wt_store S29 1 b26 27 4 (.tmp 8) (.tmp 34) (e4 0) (e4 v6) rfl rfl rfl rfl row27 rfl rfl (e4_one _) ?_
  intro W30 a' S31 ha
  simp only [Act.put, List.setIfInBounds_toArray, List.set_cons_zero, List.set_cons_succ] at ha
  subst ha
  refine wt_nil (hK _ _ ?_)
  clear hK K
  refine wp_seq_k fun K hK => ?_
  refine wr_tail [_, _, _, _, _, _, _, _, _, _, _, _, _] [_] S31 (by simp) (by kernel_rfl) (by kernel_rfl) (by kernel_rfl) (by kernel_rfl) (by kernel_rfl) ?_
  refine wq_load S31 3 b15 0 27 4 (.tmp 6) (e4 v4) (e4 v4) rfl rfl rfl rfl (Sub.self _) row27 rfl ?_
  intro a' ha
  simp only [Act.put, List.setIfInBounds_toArray, List.set_cons_zero, List.set_cons_succ] at ha
  subst ha
  refine wq_load S31 2 b14 0 27 4 (.tmp 5) (e4 v2) (e4 v2) rfl rfl rfl rfl (Sub.self _) row27 rfl ?_
  intro a' ha
  simp only [Act.put, List.setIfInBounds_toArray, List.set_cons_zero, List.set_cons_succ] at ha
  subst ha
  refine wq_call hZ S31 H7 rfl (fun _ => by kernel_rfl) ?_
  intro a' ha
  simp only [Act.put, List.setIfInBounds_toArray, List.set_cons_zero, List.set_cons_succ] at ha
  subst ha
  refine wq_load S31 1 b26 0 27 4 (.tmp 8) (e4 v6) (e4 v6) rfl rfl rfl rfl (Sub.self _) row27 rfl ?_
  intro a' ha
  simp only [Act.put, List.setIfInBounds_toArray, List.set_cons_zero, List.set_cons_succ] at ha
  subst ha
  refine wq_load S31 0 b25 0 27 4 (.tmp 7) (e4 v5) (e4 v5) rfl rfl rfl rfl (Sub.self _) row27 rfl ?_
  intro a' ha
  simp only [Act.put, List.setIfInBounds_toArray, List.set_cons_zero, List.set_cons_succ] at ha
  subst ha
  refine wq_call hZ S31 H8 rfl (fun _ => by kernel_rfl) ?_
  intro a' ha
  simp only [Act.put, List.setIfInBounds_toArray, List.set_cons_zero, List.set_cons_succ] at ha
  subst ha
  refine wq_load S31 1 b26 0 27 4 (.tmp 8) (e4 v6) (e4 v6) rfl rfl rfl rfl (Sub.self _) row27 rfl ?_
  intro a' ha
  simp only [Act.put, List.setIfInBounds_toArray, List.set_cons_zero, List.set_cons_succ] at ha
  subst ha
  refine wq_load S31 0 b25 0 27 4 (.tmp 7) (e4 v5) (e4 v5) rfl rfl rfl rfl (Sub.self _) row27 rfl ?_
  intro a' ha
  simp only [Act.put, List.setIfInBounds_toArray, List.set_cons_zero, List.set_cons_succ] at ha
  subst ha
  refine wq_call hZ S31 H9 rfl (fun _ => by kernel_rfl) ?_
  intro a' ha
  simp only [Act.put, List.setIfInBounds_toArray, List.set_cons_zero, List.set_cons_succ] at ha
  subst ha
  refine wq_load S31 3 b15 0 27 4 (.tmp 6) (e4 v4) (e4 v4) rfl rfl rfl rfl (Sub.self _) row27 rfl ?_
  intro a' ha
  simp only [Act.put, List.setIfInBounds_toArray, List.set_cons_zero, List.set_cons_succ] at ha
  subst ha
  refine wq_load S31 2 b14 0 27 4 (.tmp 5) (e4 v2) (e4 v2) rfl rfl rfl rfl (Sub.self _) row27 rfl ?_
  intro a' ha
  simp only [Act.put, List.setIfInBounds_toArray, List.set_cons_zero, List.set_cons_succ] at ha
  subst ha
  refine wq_call hZ S31 H10 rfl (fun _ => by kernel_rfl) ?_
  intro a' ha
  simp only [Act.put, List.setIfInBounds_toArray, List.set_cons_zero, List.set_cons_succ] at ha
  subst ha
  refine wq_call hZ S31 H11 rfl (fun _ => by kernel_rfl) ?_
  intro a' ha
  simp only [Act.put, List.setIfInBounds_toArray, List.set_cons_zero, List.set_cons_succ] at ha
  subst ha
  refine wq_nil ?_
  intro W32 S33
  refine wt_store S33 4 b7 29 16 (.tmp 4) (.tmp 47) (q4 0 0 0 0) (q4 v11 v12 v13 v14) rfl rfl rfl rfl row29 rfl rfl (q4_one _ _ _ _) ?_
  intro W34 a' S35 ha
  simp only [Act.put, List.setIfInBounds_toArray, List.set_cons_zero, List.set_cons_succ] at ha
  subst ha
  refine wt_nil (hK _ _ ?_)
  clear hK K
  refine wp_ret ?_
  exact fin_cell (k := 4) S35 rfl rfl rfl row29 rfl rfl
theorem double_r {Z : World → Prop} (hZ : Keeps Z) {x1 y1 z1 t1 v1 v2 v3 v4 v5 v6 v7 v8 v9 v10 v11 v12 v13 v14 : Nat} (H1 : Ret Z 44 #[wd x1, wd x1] (wd v1)) (H2 : Ret Z 44 #[wd y1, wd y1] (wd v2)) (H3 : Ret Z 44 #[wd z1, wd z1] (wd v3)) (H4 : Ret Z 66 #[wd x1, wd y1] (wd v4)) (H5 : Ret Z 66 #[wd v1, wd v2] (wd v5)) (H6 : Ret Z 65 #[wd v1, wd v2] (wd v6)) (H7 : Ret Z 44 #[wd v4, wd v4] (wd v7)) (H8 : Ret Z 65 #[wd v5, wd v7] (wd v8)) (H9 : Ret Z 66 #[wd v3, wd v3] (wd v9)) (H10 : Ret Z 66 #[wd v9, wd v6] (wd v10)) (H11 : Ret Z 80 #[wd v8, wd v10, wd v6, wd v5] (pv v11 v12 v13 v14)) : Ret Z 52 #[pv x1 y1 z1 t1] (pv v11 v12 v13 v14) := by
  intro w hw
  have S := St.refl hw
  go_enter Tryd.func52, Tryd.ntmps52
  refine wp_seq_k fun K hK => ?_
  refine wr_list ?_
  refine wl_alloc S (q4 x1 y1 z1 t1) 29 rfl (fun _ => by kernel_rfl) ?_
  intro b1 W2 a' S3 ha
  simp only [Act.put, List.setIfInBounds_toArray, List.set_cons_zero, List.set_cons_succ] at ha
  subst ha
  refine wl_alloc S3 (q4 0 0 0 0) 29 rfl (fun _ => by kernel_rfl) ?_
  intro b4 W5 a' S6 ha
  simp only [Act.put, List.setIfInBounds_toArray, List.set_cons_zero, List.set_cons_succ] at ha
  subst ha
  refine wl_nil (hK _ _ ?_)
  clear hK K
  refine wp_seq_k fun K hK => ?_
  apply wr_news [(3, 27, (e4 0)), (4, 27, (e4 0)), (5, 27, (e4 0))] [_, _, _, _, _, _, _, _, _, _, _, _, _, _, _, _, _, _] [_, _, _] S6 (by simp) (by kernel_rfl) (by kernel_rfl) (by kernel_rfl) (by kernel_rfl) (by kernel_rfl) (by kernel_rfl) (by decide) (by intro x hx; simp only [List.mem_cons, List.not_mem_nil, or_false] at hx; rcases hx with rfl | rfl | rfl <;> intro W <;> kernel_rfl)
  · intro V7 S8
    simp only [List.cons_append, List.nil_append, List.map_cons, List.map_nil, still, isNew, idle, if_true, Bool.false_eq_true, if_false]
    refine wq_pure (.pointer (some ⟨b1, 0, none⟩)) rfl (fun _ => by kernel_rfl) ?_
    intro a' ha
    simp only [Act.put, List.setIfInBounds_toArray, List.set_cons_zero, List.set_cons_succ] at ha
    subst ha
    refine wq_load S8 1 b1 0 27 4 (.tmp 9) (q4 x1 y1 z1 t1) (e4 x1) rfl rfl rfl rfl (sub_x _ _ _ _) row27 rfl ?_
    intro a' ha
    simp only [Act.put, List.setIfInBounds_toArray, List.set_cons_zero, List.set_cons_succ] at ha
    subst ha
    refine wq_pure (.pointer (some ⟨b1, 0, none⟩)) rfl (fun _ => by kernel_rfl) ?_
    intro a' ha
    simp only [Act.put, List.setIfInBounds_toArray, List.set_cons_zero, List.set_cons_succ] at ha
    subst ha
    refine wq_load S8 1 b1 0 27 4 (.tmp 11) (q4 x1 y1 z1 t1) (e4 x1) rfl rfl rfl rfl (sub_x _ _ _ _) row27 rfl ?_
    intro a' ha
    simp only [Act.put, List.setIfInBounds_toArray, List.set_cons_zero, List.set_cons_succ] at ha
    subst ha
    refine wq_call hZ S8 H1 rfl (fun _ => by kernel_rfl) ?_
    intro a' ha
    simp only [Act.put, List.setIfInBounds_toArray, List.set_cons_zero, List.set_cons_succ] at ha
    subst ha
    refine wq_pure (.pointer (some ⟨b1, 4, none⟩)) rfl (fun _ => by kernel_rfl) ?_
    intro a' ha
    simp only [Act.put, List.setIfInBounds_toArray, List.set_cons_zero, List.set_cons_succ] at ha
    subst ha
    refine wq_load S8 1 b1 4 27 4 (.tmp 14) (q4 x1 y1 z1 t1) (e4 y1) rfl rfl rfl rfl (sub_y _ _ _ _) row27 rfl ?_
    intro a' ha
    simp only [Act.put, List.setIfInBounds_toArray, List.set_cons_zero, List.set_cons_succ] at ha
    subst ha
    refine wq_pure (.pointer (some ⟨b1, 4, none⟩)) rfl (fun _ => by kernel_rfl) ?_
    intro a' ha
    simp only [Act.put, List.setIfInBounds_toArray, List.set_cons_zero, List.set_cons_succ] at ha
    subst ha
    refine wq_load S8 1 b1 4 27 4 (.tmp 16) (q4 x1 y1 z1 t1) (e4 y1) rfl rfl rfl rfl (sub_y _ _ _ _) row27 rfl ?_
    intro a' ha
    simp only [Act.put, List.setIfInBounds_toArray, List.set_cons_zero, List.set_cons_succ] at ha
    subst ha
    refine wq_call hZ S8 H2 rfl (fun _ => by kernel_rfl) ?_
    intro a' ha
    simp only [Act.put, List.setIfInBounds_toArray, List.set_cons_zero, List.set_cons_succ] at ha
    subst ha
    refine wq_pure (.pointer (some ⟨b1, 8, none⟩)) rfl (fun _ => by kernel_rfl) ?_
    intro a' ha
    simp only [Act.put, List.setIfInBounds_toArray, List.set_cons_zero, List.set_cons_succ] at ha
    subst ha
    refine wq_load S8 1 b1 8 27 4 (.tmp 19) (q4 x1 y1 z1 t1) (e4 z1) rfl rfl rfl rfl (sub_z _ _ _ _) row27 rfl ?_
    intro a' ha
    simp only [Act.put, List.setIfInBounds_toArray, List.set_cons_zero, List.set_cons_succ] at ha
    subst ha
    refine wq_pure (.pointer (some ⟨b1, 8, none⟩)) rfl (fun _ => by kernel_rfl) ?_
    intro a' ha
    simp only [Act.put, List.setIfInBounds_toArray, List.set_cons_zero, List.set_cons_succ] at ha
    subst ha
    refine wq_load S8 1 b1 8 27 4 (.tmp 21) (q4 x1 y1 z1 t1) (e4 z1) rfl rfl rfl rfl (sub_z _ _ _ _) row27 rfl ?_
    intro a' ha
    simp only [Act.put, List.setIfInBounds_toArray, List.set_cons_zero, List.set_cons_succ] at ha
    subst ha
    refine wq_call hZ S8 H3 rfl (fun _ => by kernel_rfl) ?_
    intro a' ha
    simp only [Act.put, List.setIfInBounds_toArray, List.set_cons_zero, List.set_cons_succ] at ha
    subst ha
    refine wq_pure undef rfl (fun _ => by kernel_rfl) ?_
    intro a' ha
    simp only [Act.put, List.setIfInBounds_toArray, List.set_cons_zero, List.set_cons_succ] at ha
    subst ha
    refine wq_pure undef rfl (fun _ => by kernel_rfl) ?_
    intro a' ha
    simp only [Act.put, List.setIfInBounds_toArray, List.set_cons_zero, List.set_cons_succ] at ha
    subst ha
    refine wq_pure undef rfl (fun _ => by kernel_rfl) ?_
    intro a' ha
    simp only [Act.put, List.setIfInBounds_toArray, List.set_cons_zero, List.set_cons_succ] at ha
    subst ha
    refine wq_nil ?_
    rfl
  intro W9 p S10
  simp only [putAll, Act.put, List.setIfInBounds_toArray, List.set_cons_zero, List.set_cons_succ]
  have S14 : St Z w W9 [(p 3, .row (e4 0) 27), (p 4, .row (e4 0) 27), (p 5, .row (e4 0) 27), (b4, .row (q4 0 0 0 0) 29), (b1, .row (q4 x1 y1 z1 t1) 29)] := S10
  clear S10
  generalize p 3 = b11 at S14 ⊢
  generalize p 4 = b12 at S14 ⊢
  generalize p 5 = b13 at S14 ⊢
  refine wt_store S14 0 b11 27 4 (.tmp 3) (.tmp 13) (e4 0) (e4 v1) rfl rfl rfl rfl row27 rfl rfl (e4_one _) ?_
  intro W15 a' S16 ha
  simp only [Act.put, List.setIfInBounds_toArray, List.set_cons_zero, List.set_cons_succ] at ha
  subst ha
  refine wt_store S16 1 b12 27 4 (.tmp 4) (.tmp 18) (e4 0) (e4 v2) rfl rfl rfl rfl row27 rfl rfl (e4_one _) ?_
  intro W17 a' S18 ha
  simp only [Act.put, List.setIfInBounds_toArray, List.set_cons_zero, List.set_cons_succ] at ha
  subst ha
  refine wt_store S18 2 b13 27 4 (.tmp 5) (.tmp 23) (e4 0) (e4 v3) rfl rfl rfl rfl row27 rfl rfl (e4_one _) ?_
  intro W19 a' S20 ha
  simp only [Act.put, List.setIfInBounds_toArray, List.set_cons_zero, List.set_cons_succ] at ha
  subst ha
  refine wt_nil (hK _ _ ?_)
  clear hK K
  refine wp_seq_k fun K hK => ?_
  refine wr_list ?_
  refine wl_pure (.pointer (some ⟨b1, 0, none⟩)) rfl (fun _ => by kernel_rfl) ?_
  intro a' ha
  simp only [Act.put, List.setIfInBounds_toArray, List.set_cons_zero, List.set_cons_succ] at ha
  subst ha
  refine wl_load S20 4 b1 0 27 4 (.tmp 24) (q4 x1 y1 z1 t1) (e4 x1) rfl rfl rfl rfl (sub_x _ _ _ _) row27 rfl ?_
  intro a' ha
  simp only [Act.put, List.setIfInBounds_toArray, List.set_cons_zero, List.set_cons_succ] at ha
  subst ha
  refine wl_pure (.pointer (some ⟨b1, 4, none⟩)) rfl (fun _ => by kernel_rfl) ?_
  intro a' ha
  simp only [Act.put, List.setIfInBounds_toArray, List.set_cons_zero, List.set_cons_succ] at ha
  subst ha
  refine wl_load S20 4 b1 4 27 4 (.tmp 26) (q4 x1 y1 z1 t1) (e4 y1) rfl rfl rfl rfl (sub_y _ _ _ _) row27 rfl ?_
  intro a' ha
  simp only [Act.put, List.setIfInBounds_toArray, List.set_cons_zero, List.set_cons_succ] at ha
  subst ha
  refine wl_call hZ S20 H4 rfl (fun _ => by kernel_rfl) ?_
  intro W21 a' S22 ha
  simp only [Act.put, List.setIfInBounds_toArray, List.set_cons_zero, List.set_cons_succ] at ha
  subst ha
  refine wl_alloc S22 (e4 0) 27 rfl (fun _ => by kernel_rfl) ?_
  intro b23 W24 a' S25 ha
  simp only [Act.put, List.setIfInBounds_toArray, List.set_cons_zero, List.set_cons_succ] at ha
  subst ha
  refine wl_store S25 0 b23 27 4 (.tmp 6) (.tmp 28) (e4 0) (e4 v4) rfl rfl rfl rfl rfl row27 rfl rfl (e4_one _) ?_
  intro W26 a' S27 ha
  simp only [Act.put, List.setIfInBounds_toArray, List.set_cons_zero, List.set_cons_succ] at ha
  subst ha
  refine wl_nil (hK _ _ ?_)
  clear hK K
  refine wp_seq_k fun K hK => ?_
  apply wr_news [(7, 27, (e4 0)), (8, 27, (e4 0))] [_, _, _, _, _, _, _, _] [_, _] S27 (by simp) (by kernel_rfl) (by kernel_rfl) (by kernel_rfl) (by kernel_rfl) (by kernel_rfl) (by kernel_rfl) (by decide) (by intro x hx; simp only [List.mem_cons, List.not_mem_nil, or_false] at hx; rcases hx with rfl | rfl <;> intro W <;> kernel_rfl)
  · intro V28 S29
    simp only [List.cons_append, List.nil_append, List.map_cons, List.map_nil, still, isNew, idle, if_true, Bool.false_eq_true, if_false]
    refine wq_load S29 1 b11 0 27 4 (.tmp 3) (e4 v1) (e4 v1) rfl rfl rfl rfl (Sub.self _) row27 rfl ?_
    intro a' ha
    simp only [Act.put, List.setIfInBounds_toArray, List.set_cons_zero, List.set_cons_succ] at ha
    subst ha
    refine wq_load S29 2 b12 0 27 4 (.tmp 4) (e4 v2) (e4 v2) rfl rfl rfl rfl (Sub.self _) row27 rfl ?_
    intro a' ha
    simp only [Act.put, List.setIfInBounds_toArray, List.set_cons_zero, List.set_cons_succ] at ha
    subst ha
    refine wq_call hZ S29 H5 rfl (fun _ => by kernel_rfl) ?_
    intro a' ha
    simp only [Act.put, List.setIfInBounds_toArray, List.set_cons_zero, List.set_cons_succ] at ha
    subst ha
    refine wq_load S29 1 b11 0 27 4 (.tmp 3) (e4 v1) (e4 v1) rfl rfl rfl rfl (Sub.self _) row27 rfl ?_
    intro a' ha
    simp only [Act.put, List.setIfInBounds_toArray, List.set_cons_zero, List.set_cons_succ] at ha
    subst ha
    refine wq_load S29 2 b12 0 27 4 (.tmp 4) (e4 v2) (e4 v2) rfl rfl rfl rfl (Sub.self _) row27 rfl ?_
    intro a' ha
    simp only [Act.put, List.setIfInBounds_toArray, List.set_cons_zero, List.set_cons_succ] at ha
    subst ha
    refine wq_call hZ S29 H6 rfl (fun _ => by kernel_rfl) ?_
    intro a' ha
    simp only [Act.put, List.setIfInBounds_toArray, List.set_cons_zero, List.set_cons_succ] at ha
    subst ha
    refine wq_pure undef rfl (fun _ => by kernel_rfl) ?_
    intro a' ha
    simp only [Act.put, List.setIfInBounds_toArray, List.set_cons_zero, List.set_cons_succ] at ha
    subst ha
    refine wq_pure undef rfl (fun _ => by kernel_rfl) ?_
    intro a' ha
    simp only [Act.put, List.setIfInBounds_toArray, List.set_cons_zero, List.set_cons_succ] at ha
    subst ha
    refine wq_nil ?_
    rfl
  intro W30 p S31
  simp only [putAll, Act.put, List.setIfInBounds_toArray, List.set_cons_zero, List.set_cons_succ]
  have S34 : St Z w W30 [(p 7, .row (e4 0) 27), (p 8, .row (e4 0) 27), (b23, .row (e4 v4) 27), (b11, .row (e4 v1) 27), (b12, .row (e4 v2) 27), (b13, .row (e4 v3) 27), (b4, .row (q4 0 0 0 0) 29), (b1, .row (q4 x1 y1 z1 t1) 29)] := S31
  clear S31
  generalize p 7 = b32 at S34 ⊢
  generalize p 8 = b33 at S34 ⊢
  refine wt_store S34 0 b32 27 4 (.tmp 7) (.tmp 31) (e4 0) (e4 v5) rfl rfl rfl rfl row27 rfl rfl (e4_one _) ?_
  intro W35 a' S36 ha
  simp only [Act.put, List.setIfInBounds_toArray, List.set_cons_zero, List.set_cons_succ] at ha
  subst ha
  refine wt_store S36 1 b33 27 4 (.tmp 8) (.tmp 34) (e4 0) (e4 v6) rfl rfl rfl rfl row27 rfl rfl (e4_one _) ?_
  intro W37 a' S38 ha
  simp only [Act.put, List.setIfInBounds_toArray, List.set_cons_zero, List.set_cons_succ] at ha
  subst ha
  refine wt_nil (hK _ _ ?_)
  clear hK K
  refine wp_seq_k fun K hK => ?_
  refine wr_tail [_, _, _, _, _, _, _, _, _, _, _, _, _] [_] S38 (by simp) (by kernel_rfl) (by kernel_rfl) (by kernel_rfl) (by kernel_rfl) (by kernel_rfl) ?_
  refine wq_load S38 0 b32 0 27 4 (.tmp 7) (e4 v5) (e4 v5) rfl rfl rfl rfl (Sub.self _) row27 rfl ?_
  intro a' ha
  simp only [Act.put, List.setIfInBounds_toArray, List.set_cons_zero, List.set_cons_succ] at ha
  subst ha
  refine wq_load S38 2 b23 0 27 4 (.tmp 6) (e4 v4) (e4 v4) rfl rfl rfl rfl (Sub.self _) row27 rfl ?_
  intro a' ha
  simp only [Act.put, List.setIfInBounds_toArray, List.set_cons_zero, List.set_cons_succ] at ha
  subst ha
  refine wq_load S38 2 b23 0 27 4 (.tmp 6) (e4 v4) (e4 v4) rfl rfl rfl rfl (Sub.self _) row27 rfl ?_
  intro a' ha
  simp only [Act.put, List.setIfInBounds_toArray, List.set_cons_zero, List.set_cons_succ] at ha
  subst ha
  refine wq_call hZ S38 H7 rfl (fun _ => by kernel_rfl) ?_
  intro a' ha
  simp only [Act.put, List.setIfInBounds_toArray, List.set_cons_zero, List.set_cons_succ] at ha
  subst ha
  refine wq_call hZ S38 H8 rfl (fun _ => by kernel_rfl) ?_
  intro a' ha
  simp only [Act.put, List.setIfInBounds_toArray, List.set_cons_zero, List.set_cons_succ] at ha
  subst ha
  refine wq_load S38 5 b13 0 27 4 (.tmp 5) (e4 v3) (e4 v3) rfl rfl rfl rfl (Sub.self _) row27 rfl ?_
  intro a' ha
  simp only [Act.put, List.setIfInBounds_toArray, List.set_cons_zero, List.set_cons_succ] at ha
  subst ha
  refine wq_load S38 5 b13 0 27 4 (.tmp 5) (e4 v3) (e4 v3) rfl rfl rfl rfl (Sub.self _) row27 rfl ?_
  intro a' ha
  simp only [Act.put, List.setIfInBounds_toArray, List.set_cons_zero, List.set_cons_succ] at ha
  subst ha
  refine wq_call hZ S38 H9 rfl (fun _ => by kernel_rfl) ?_
  intro a' ha
  simp only [Act.put, List.setIfInBounds_toArray, List.set_cons_zero, List.set_cons_succ] at ha
  subst ha
  refine wq_load S38 1 b33 0 27 4 (.tmp 8) (e4 v6) (e4 v6) rfl rfl rfl rfl (Sub.self _) row27 rfl ?_
  intro a' ha
  simp only [Act.put, List.setIfInBounds_toArray, List.set_cons_zero, List.set_cons_succ] at ha
  subst ha
  refine wq_call hZ S38 H10 rfl (fun _ => by kernel_rfl) ?_
  intro a' ha
  simp only [Act.put, List.setIfInBounds_toArray, List.set_cons_zero, List.set_cons_succ] at ha
  subst ha
  refine wq_load S38 1 b33 0 27 4 (.tmp 8) (e4 v6) (e4 v6) rfl rfl rfl rfl (Sub.self _) row27 rfl ?_
  intro a' ha
  simp only [Act.put, List.setIfInBounds_toArray, List.set_cons_zero, List.set_cons_succ] at ha
  subst ha
  refine wq_load S38 0 b32 0 27 4 (.tmp 7) (e4 v5) (e4 v5) rfl rfl rfl rfl (Sub.self _) row27 rfl ?_
  intro a' ha
  simp only [Act.put, List.setIfInBounds_toArray, List.set_cons_zero, List.set_cons_succ] at ha
  subst ha
  refine wq_call hZ S38 H11 rfl (fun _ => by kernel_rfl) ?_
  intro a' ha
  simp only [Act.put, List.setIfInBounds_toArray, List.set_cons_zero, List.set_cons_succ] at ha
  subst ha
  refine wq_nil ?_
  intro W39 S40
  refine wt_store S40 6 b4 29 16 (.tmp 2) (.tmp 47) (q4 0 0 0 0) (q4 v11 v12 v13 v14) rfl rfl rfl rfl row29 rfl rfl (q4_one _ _ _ _) ?_
  intro W41 a' S42 ha
  simp only [Act.put, List.setIfInBounds_toArray, List.set_cons_zero, List.set_cons_succ] at ha
  subst ha
  refine wt_nil (hK _ _ ?_)
  clear hK K
  refine wp_ret ?_
  exact fin_cell (k := 6) S42 rfl rfl rfl row29 rfl rfl
theorem zero_r {Z : World → Prop} (hZ : Keeps Z) {v1 v2 v3 v4 v5 v6 : Nat} (H1 : Ret Z 59 #[.int .u32 0] (wd v1)) (H2 : Ret Z 59 #[.int .u32 1] (wd v2)) (H3 : Ret Z 33 #[wd v1, wd v2] (pv v3 v4 v5 v6)) : Ret Z 25 #[] (pv v3 v4 v5 v6) := by
  intro w hw
  have S := St.refl hw
  go_enter Tryd.func25, Tryd.ntmps25
  refine wp_seq_k fun K hK => ?_
  refine wr_list ?_
  refine wl_alloc S (q4 0 0 0 0) 29 rfl (fun _ => by kernel_rfl) ?_
  intro b1 W2 a' S3 ha
  simp only [Act.put, List.setIfInBounds_toArray, List.set_cons_zero, List.set_cons_succ] at ha
  subst ha
  refine wl_nil (hK _ _ ?_)
  clear hK K
  refine wp_seq_k fun K hK => ?_
  refine wr_list ?_
  refine wl_call hZ S3 H1 rfl (fun _ => by kernel_rfl) ?_
  intro W4 a' S5 ha
  simp only [Act.put, List.setIfInBounds_toArray, List.set_cons_zero, List.set_cons_succ] at ha
  subst ha
  refine wl_call hZ S5 H2 rfl (fun _ => by kernel_rfl) ?_
  intro W6 a' S7 ha
  simp only [Act.put, List.setIfInBounds_toArray, List.set_cons_zero, List.set_cons_succ] at ha
  subst ha
  refine wl_call hZ S7 H3 rfl (fun _ => by kernel_rfl) ?_
  intro W8 a' S9 ha
  simp only [Act.put, List.setIfInBounds_toArray, List.set_cons_zero, List.set_cons_succ] at ha
  subst ha
  refine wl_store S9 0 b1 29 16 (.tmp 0) (.tmp 3) (q4 0 0 0 0) (q4 v3 v4 v5 v6) rfl rfl rfl rfl rfl row29 rfl rfl (q4_one _ _ _ _) ?_
  intro W10 a' S11 ha
  simp only [Act.put, List.setIfInBounds_toArray, List.set_cons_zero, List.set_cons_succ] at ha
  subst ha
  refine wl_nil (hK _ _ ?_)
  clear hK K
  refine wp_ret ?_
  exact fin_cell (k := 0) S11 rfl rfl rfl row29 rfl rfl
theorem base_r {Z : World → Prop} (hZ : Keeps Z) {v1 v2 v3 v4 v5 v6 : Nat} (H1 : Ret Z 31 #[.string ⟨#[26, 213, 37, 143, 96, 45, 86, 201, 178, 167, 37, 149, 96, 199, 44, 105, 92, 220, 214, 253, 49, 226, 164, 192, 254, 83, 110, 205, 211, 54, 105, 33]⟩] (wd v1)) (H2 : Ret Z 31 #[.string ⟨#[88, 102, 102, 102, 102, 102, 102, 102, 102, 102, 102, 102, 102, 102, 102, 102, 102, 102, 102, 102, 102, 102, 102, 102, 102, 102, 102, 102, 102, 102, 102, 102]⟩] (wd v2)) (H3 : Ret Z 33 #[wd v1, wd v2] (pv v3 v4 v5 v6)) : Ret Z 26 #[] (pv v3 v4 v5 v6) := by
  intro w hw
  have S := St.refl hw
  go_enter Tryd.func26, Tryd.ntmps26
  refine wp_seq_k fun K hK => ?_
  refine wr_list ?_
  refine wl_alloc S (q4 0 0 0 0) 29 rfl (fun _ => by kernel_rfl) ?_
  intro b1 W2 a' S3 ha
  simp only [Act.put, List.setIfInBounds_toArray, List.set_cons_zero, List.set_cons_succ] at ha
  subst ha
  refine wl_nil (hK _ _ ?_)
  clear hK K
  refine wp_seq_k fun K hK => ?_
  refine wr_list ?_
  refine wl_call hZ S3 H1 rfl (fun _ => by kernel_rfl) ?_
  intro W4 a' S5 ha
  simp only [Act.put, List.setIfInBounds_toArray, List.set_cons_zero, List.set_cons_succ] at ha
  subst ha
  refine wl_call hZ S5 H2 rfl (fun _ => by kernel_rfl) ?_
  intro W6 a' S7 ha
  simp only [Act.put, List.setIfInBounds_toArray, List.set_cons_zero, List.set_cons_succ] at ha
  subst ha
  refine wl_call hZ S7 H3 rfl (fun _ => by kernel_rfl) ?_
  intro W8 a' S9 ha
  simp only [Act.put, List.setIfInBounds_toArray, List.set_cons_zero, List.set_cons_succ] at ha
  subst ha
  refine wl_store S9 0 b1 29 16 (.tmp 0) (.tmp 3) (q4 0 0 0 0) (q4 v3 v4 v5 v6) rfl rfl rfl rfl rfl row29 rfl rfl (q4_one _ _ _ _) ?_
  intro W10 a' S11 ha
  simp only [Act.put, List.setIfInBounds_toArray, List.set_cons_zero, List.set_cons_succ] at ha
  subst ha
  refine wl_nil (hK _ _ ?_)
  clear hK K
  refine wp_ret ?_
  exact fin_cell (k := 0) S11 rfl rfl rfl row29 rfl rfl
theorem add_r {Z : World → Prop} (hZ : Keeps Z) {x1 y1 z1 t1 x2 y2 z2 t2 v1 v2 v3 v4 v5 v6 v7 v8 : Nat} (H1 : Ret Z 42 #[pv x1 y1 z1 t1] (.bool false)) (H2 : Ret Z 42 #[pv x2 y2 z2 t2] (.bool false)) (H3 : Ret Z 51 #[pv x2 y2 z2 t2] (pv v1 v2 v3 v4)) (H4 : Ret Z 50 #[pv x1 y1 z1 t1, pv v1 v2 v3 v4] (pv v5 v6 v7 v8)) : Ret Z 18 #[pv x1 y1 z1 t1, pv x2 y2 z2 t2] (pv v5 v6 v7 v8) := by
  intro w hw
  have S := St.refl hw
  go_enter Tryd.func18, Tryd.ntmps18
  refine wp_seq_k fun K hK => ?_
  refine wr_list ?_
  refine wl_alloc S (q4 x1 y1 z1 t1) 29 rfl (fun _ => by kernel_rfl) ?_
  intro b1 W2 a' S3 ha
  simp only [Act.put, List.setIfInBounds_toArray, List.set_cons_zero, List.set_cons_succ] at ha
  subst ha
  refine wl_alloc S3 (q4 x2 y2 z2 t2) 29 rfl (fun _ => by kernel_rfl) ?_
  intro b4 W5 a' S6 ha
  simp only [Act.put, List.setIfInBounds_toArray, List.set_cons_zero, List.set_cons_succ] at ha
  subst ha
  refine wl_alloc S6 (q4 0 0 0 0) 29 rfl (fun _ => by kernel_rfl) ?_
  intro b7 W8 a' S9 ha
  simp only [Act.put, List.setIfInBounds_toArray, List.set_cons_zero, List.set_cons_succ] at ha
  subst ha
  refine wl_nil (hK _ _ ?_)
  clear hK K
  refine wp_seq_k fun K hK => ?_
  refine wp_seq_k fun K hK => ?_
  refine wr_list ?_
  refine wl_load S9 2 b1 0 29 16 (.tmp 2) (q4 x1 y1 z1 t1) (q4 x1 y1 z1 t1) rfl rfl rfl rfl (Sub.self _) row29 rfl ?_
  intro a' ha
  simp only [Act.put, List.setIfInBounds_toArray, List.set_cons_zero, List.set_cons_succ] at ha
  subst ha
  refine wl_call hZ S9 H1 rfl (fun _ => by kernel_rfl) ?_
  intro W10 a' S11 ha
  simp only [Act.put, List.setIfInBounds_toArray, List.set_cons_zero, List.set_cons_succ] at ha
  subst ha
  refine wl_pure (.bool false) rfl (fun _ => by kernel_rfl) ?_
  intro a' ha
  simp only [Act.put, List.setIfInBounds_toArray, List.set_cons_zero, List.set_cons_succ] at ha
  subst ha
  refine wl_load S11 1 b4 0 29 16 (.tmp 3) (q4 x2 y2 z2 t2) (q4 x2 y2 z2 t2) rfl rfl rfl rfl (Sub.self _) row29 rfl ?_
  intro a' ha
  simp only [Act.put, List.setIfInBounds_toArray, List.set_cons_zero, List.set_cons_succ] at ha
  subst ha
  refine wl_call hZ S11 H2 rfl (fun _ => by kernel_rfl) ?_
  intro W12 a' S13 ha
  simp only [Act.put, List.setIfInBounds_toArray, List.set_cons_zero, List.set_cons_succ] at ha
  subst ha
  refine wl_pure (.bool false) rfl (fun _ => by kernel_rfl) ?_
  intro a' ha
  simp only [Act.put, List.setIfInBounds_toArray, List.set_cons_zero, List.set_cons_succ] at ha
  subst ha
  refine wl_nil (hK _ _ ?_)
  clear hK K
  refine wp_cond_false rfl ?_
  refine wp_skip (hK _ _ ?_)
  clear hK K
  refine wp_seq_k fun K hK => ?_
  refine wr_tail [_, _, _, _] [_] S13 (by simp) (by kernel_rfl) (by kernel_rfl) (by kernel_rfl) (by kernel_rfl) (by kernel_rfl) ?_
  refine wq_load S13 2 b1 0 29 16 (.tmp 2) (q4 x1 y1 z1 t1) (q4 x1 y1 z1 t1) rfl rfl rfl rfl (Sub.self _) row29 rfl ?_
  intro a' ha
  simp only [Act.put, List.setIfInBounds_toArray, List.set_cons_zero, List.set_cons_succ] at ha
  subst ha
  refine wq_load S13 1 b4 0 29 16 (.tmp 3) (q4 x2 y2 z2 t2) (q4 x2 y2 z2 t2) rfl rfl rfl rfl (Sub.self _) row29 rfl ?_
  intro a' ha
  simp only [Act.put, List.setIfInBounds_toArray, List.set_cons_zero, List.set_cons_succ] at ha
  subst ha
  refine wq_call hZ S13 H3 rfl (fun _ => by kernel_rfl) ?_
  intro a' ha
  simp only [Act.put, List.setIfInBounds_toArray, List.set_cons_zero, List.set_cons_succ] at ha
  subst ha
  refine wq_call hZ S13 H4 rfl (fun _ => by kernel_rfl) ?_
  intro a' ha
  simp only [Act.put, List.setIfInBounds_toArray, List.set_cons_zero, List.set_cons_succ] at ha
  subst ha
  refine wq_nil ?_
  intro W14 S15
  refine wt_store S15 0 b7 29 16 (.tmp 4) (.tmp 15) (q4 0 0 0 0) (q4 v5 v6 v7 v8) rfl rfl rfl rfl row29 rfl rfl (q4_one _ _ _ _) ?_
  intro W16 a' S17 ha
  simp only [Act.put, List.setIfInBounds_toArray, List.set_cons_zero, List.set_cons_succ] at ha
  subst ha
  refine wt_nil (hK _ _ ?_)
  clear hK K
  refine wp_ret ?_
  exact fin_cell (k := 0) S17 rfl rfl rfl row29 rfl rfl
theorem add_no1 {Z : World → Prop} (hZ : Keeps Z) {x1 y1 z1 t1 x2 y2 z2 t2 : Nat} (H1 : Ret Z 42 #[pv x1 y1 z1 t1] (.bool true)) : Ret Z 18 #[pv x1 y1 z1 t1, pv x2 y2 z2 t2] (pv 0 0 0 0) := by
  intro w hw
  have S := St.refl hw
  go_enter Tryd.func18, Tryd.ntmps18
  refine wp_seq_k fun K hK => ?_
  refine wr_list ?_
  refine wl_alloc S (q4 x1 y1 z1 t1) 29 rfl (fun _ => by kernel_rfl) ?_
  intro b1 W2 a' S3 ha
  simp only [Act.put, List.setIfInBounds_toArray, List.set_cons_zero, List.set_cons_succ] at ha
  subst ha
  refine wl_alloc S3 (q4 x2 y2 z2 t2) 29 rfl (fun _ => by kernel_rfl) ?_
  intro b4 W5 a' S6 ha
  simp only [Act.put, List.setIfInBounds_toArray, List.set_cons_zero, List.set_cons_succ] at ha
  subst ha
  refine wl_alloc S6 (q4 0 0 0 0) 29 rfl (fun _ => by kernel_rfl) ?_
  intro b7 W8 a' S9 ha
  simp only [Act.put, List.setIfInBounds_toArray, List.set_cons_zero, List.set_cons_succ] at ha
  subst ha
  refine wl_nil (hK _ _ ?_)
  clear hK K
  refine wp_seq_k fun K hK => ?_
  refine wp_seq_k fun K hK => ?_
  refine wr_list ?_
  refine wl_load S9 2 b1 0 29 16 (.tmp 2) (q4 x1 y1 z1 t1) (q4 x1 y1 z1 t1) rfl rfl rfl rfl (Sub.self _) row29 rfl ?_
  intro a' ha
  simp only [Act.put, List.setIfInBounds_toArray, List.set_cons_zero, List.set_cons_succ] at ha
  subst ha
  refine wl_call hZ S9 H1 rfl (fun _ => by kernel_rfl) ?_
  intro W10 a' S11 ha
  simp only [Act.put, List.setIfInBounds_toArray, List.set_cons_zero, List.set_cons_succ] at ha
  subst ha
  refine wl_pure (.bool true) rfl (fun _ => by kernel_rfl) ?_
  intro a' ha
  simp only [Act.put, List.setIfInBounds_toArray, List.set_cons_zero, List.set_cons_succ] at ha
  subst ha
  refine wl_skip rfl ?_
  intro a' ha
  simp only [Act.put, List.setIfInBounds_toArray, List.set_cons_zero, List.set_cons_succ] at ha
  subst ha
  refine wl_skip rfl ?_
  intro a' ha
  simp only [Act.put, List.setIfInBounds_toArray, List.set_cons_zero, List.set_cons_succ] at ha
  subst ha
  refine wl_pure (.bool true) rfl (fun _ => by kernel_rfl) ?_
  intro a' ha
  simp only [Act.put, List.setIfInBounds_toArray, List.set_cons_zero, List.set_cons_succ] at ha
  subst ha
  refine wl_nil (hK _ _ ?_)
  clear hK K
  refine wp_cond_true rfl ?_
  refine wp_seq_k fun K hK => ?_
  refine wr_list ?_
  refine wl_pure (.agg (q4 0 0 0 0)) rfl (fun _ => by kernel_rfl) ?_
  intro a' ha
  simp only [Act.put, List.setIfInBounds_toArray, List.set_cons_zero, List.set_cons_succ] at ha
  subst ha
  refine wl_store S11 0 b7 29 16 (.tmp 4) (.tmp 11) (q4 0 0 0 0) (q4 0 0 0 0) rfl rfl rfl rfl rfl row29 rfl rfl (q4_one _ _ _ _) ?_
  intro W12 a' S13 ha
  simp only [Act.put, List.setIfInBounds_toArray, List.set_cons_zero, List.set_cons_succ] at ha
  subst ha
  refine wl_nil (hK _ _ ?_)
  clear hK K
  refine wp_ret ?_
  exact fin_cell (k := 0) S13 rfl rfl rfl row29 rfl rfl
theorem add_no2 {Z : World → Prop} (hZ : Keeps Z) {x1 y1 z1 t1 x2 y2 z2 t2 : Nat} (H1 : Ret Z 42 #[pv x1 y1 z1 t1] (.bool false)) (H2 : Ret Z 42 #[pv x2 y2 z2 t2] (.bool true)) : Ret Z 18 #[pv x1 y1 z1 t1, pv x2 y2 z2 t2] (pv 0 0 0 0) := by
  intro w hw
  have S := St.refl hw
  go_enter Tryd.func18, Tryd.ntmps18
  refine wp_seq_k fun K hK => ?_
  refine wr_list ?_
  refine wl_alloc S (q4 x1 y1 z1 t1) 29 rfl (fun _ => by kernel_rfl) ?_
  intro b1 W2 a' S3 ha
  simp only [Act.put, List.setIfInBounds_toArray, List.set_cons_zero, List.set_cons_succ] at ha
  subst ha
  refine wl_alloc S3 (q4 x2 y2 z2 t2) 29 rfl (fun _ => by kernel_rfl) ?_
  intro b4 W5 a' S6 ha
  simp only [Act.put, List.setIfInBounds_toArray, List.set_cons_zero, List.set_cons_succ] at ha
  subst ha
  refine wl_alloc S6 (q4 0 0 0 0) 29 rfl (fun _ => by kernel_rfl) ?_
  intro b7 W8 a' S9 ha
  simp only [Act.put, List.setIfInBounds_toArray, List.set_cons_zero, List.set_cons_succ] at ha
  subst ha
  refine wl_nil (hK _ _ ?_)
  clear hK K
  refine wp_seq_k fun K hK => ?_
  refine wp_seq_k fun K hK => ?_
  refine wr_list ?_
  refine wl_load S9 2 b1 0 29 16 (.tmp 2) (q4 x1 y1 z1 t1) (q4 x1 y1 z1 t1) rfl rfl rfl rfl (Sub.self _) row29 rfl ?_
  intro a' ha
  simp only [Act.put, List.setIfInBounds_toArray, List.set_cons_zero, List.set_cons_succ] at ha
  subst ha
  refine wl_call hZ S9 H1 rfl (fun _ => by kernel_rfl) ?_
  intro W10 a' S11 ha
  simp only [Act.put, List.setIfInBounds_toArray, List.set_cons_zero, List.set_cons_succ] at ha
  subst ha
  refine wl_pure (.bool false) rfl (fun _ => by kernel_rfl) ?_
  intro a' ha
  simp only [Act.put, List.setIfInBounds_toArray, List.set_cons_zero, List.set_cons_succ] at ha
  subst ha
  refine wl_load S11 1 b4 0 29 16 (.tmp 3) (q4 x2 y2 z2 t2) (q4 x2 y2 z2 t2) rfl rfl rfl rfl (Sub.self _) row29 rfl ?_
  intro a' ha
  simp only [Act.put, List.setIfInBounds_toArray, List.set_cons_zero, List.set_cons_succ] at ha
  subst ha
  refine wl_call hZ S11 H2 rfl (fun _ => by kernel_rfl) ?_
  intro W12 a' S13 ha
  simp only [Act.put, List.setIfInBounds_toArray, List.set_cons_zero, List.set_cons_succ] at ha
  subst ha
  refine wl_pure (.bool true) rfl (fun _ => by kernel_rfl) ?_
  intro a' ha
  simp only [Act.put, List.setIfInBounds_toArray, List.set_cons_zero, List.set_cons_succ] at ha
  subst ha
  refine wl_nil (hK _ _ ?_)
  clear hK K
  refine wp_cond_true rfl ?_
  refine wp_seq_k fun K hK => ?_
  refine wr_list ?_
  refine wl_pure (.agg (q4 0 0 0 0)) rfl (fun _ => by kernel_rfl) ?_
  intro a' ha
  simp only [Act.put, List.setIfInBounds_toArray, List.set_cons_zero, List.set_cons_succ] at ha
  subst ha
  refine wl_store S13 0 b7 29 16 (.tmp 4) (.tmp 11) (q4 0 0 0 0) (q4 0 0 0 0) rfl rfl rfl rfl rfl row29 rfl rfl (q4_one _ _ _ _) ?_
  intro W14 a' S15 ha
  simp only [Act.put, List.setIfInBounds_toArray, List.set_cons_zero, List.set_cons_succ] at ha
  subst ha
  refine wl_nil (hK _ _ ?_)
  clear hK K
  refine wp_ret ?_
  exact fin_cell (k := 0) S15 rfl rfl rfl row29 rfl rfl
theorem twice_r {Z : World → Prop} (hZ : Keeps Z) {x1 y1 z1 t1 v1 v2 v3 v4 : Nat} (H1 : Ret Z 42 #[pv x1 y1 z1 t1] (.bool false)) (H2 : Ret Z 52 #[pv x1 y1 z1 t1] (pv v1 v2 v3 v4)) : Ret Z 20 #[pv x1 y1 z1 t1] (pv v1 v2 v3 v4) := by
  intro w hw
  have S := St.refl hw
  go_enter Tryd.func20, Tryd.ntmps20
  refine wp_seq_k fun K hK => ?_
  refine wr_list ?_
  refine wl_alloc S (q4 x1 y1 z1 t1) 29 rfl (fun _ => by kernel_rfl) ?_
  intro b1 W2 a' S3 ha
  simp only [Act.put, List.setIfInBounds_toArray, List.set_cons_zero, List.set_cons_succ] at ha
  subst ha
  refine wl_alloc S3 (q4 0 0 0 0) 29 rfl (fun _ => by kernel_rfl) ?_
  intro b4 W5 a' S6 ha
  simp only [Act.put, List.setIfInBounds_toArray, List.set_cons_zero, List.set_cons_succ] at ha
  subst ha
  refine wl_nil (hK _ _ ?_)
  clear hK K
  refine wp_seq_k fun K hK => ?_
  refine wp_seq_k fun K hK => ?_
  refine wr_list ?_
  refine wl_load S6 1 b1 0 29 16 (.tmp 1) (q4 x1 y1 z1 t1) (q4 x1 y1 z1 t1) rfl rfl rfl rfl (Sub.self _) row29 rfl ?_
  intro a' ha
  simp only [Act.put, List.setIfInBounds_toArray, List.set_cons_zero, List.set_cons_succ] at ha
  subst ha
  refine wl_call hZ S6 H1 rfl (fun _ => by kernel_rfl) ?_
  intro W7 a' S8 ha
  simp only [Act.put, List.setIfInBounds_toArray, List.set_cons_zero, List.set_cons_succ] at ha
  subst ha
  refine wl_nil (hK _ _ ?_)
  clear hK K
  refine wp_cond_false rfl ?_
  refine wp_skip (hK _ _ ?_)
  clear hK K
  refine wp_seq_k fun K hK => ?_
  refine wr_list ?_
  refine wl_load S8 1 b1 0 29 16 (.tmp 1) (q4 x1 y1 z1 t1) (q4 x1 y1 z1 t1) rfl rfl rfl rfl (Sub.self _) row29 rfl ?_
  intro a' ha
  simp only [Act.put, List.setIfInBounds_toArray, List.set_cons_zero, List.set_cons_succ] at ha
  subst ha
  refine wl_call hZ S8 H2 rfl (fun _ => by kernel_rfl) ?_
  intro W9 a' S10 ha
  simp only [Act.put, List.setIfInBounds_toArray, List.set_cons_zero, List.set_cons_succ] at ha
  subst ha
  refine wl_store S10 0 b4 29 16 (.tmp 2) (.tmp 7) (q4 0 0 0 0) (q4 v1 v2 v3 v4) rfl rfl rfl rfl rfl row29 rfl rfl (q4_one _ _ _ _) ?_
  intro W11 a' S12 ha
  simp only [Act.put, List.setIfInBounds_toArray, List.set_cons_zero, List.set_cons_succ] at ha
  subst ha
  refine wl_nil (hK _ _ ?_)
  clear hK K
  refine wp_ret ?_
  exact fin_cell (k := 0) S12 rfl rfl rfl row29 rfl rfl
theorem twice_no {Z : World → Prop} (hZ : Keeps Z) {x1 y1 z1 t1 : Nat} (H1 : Ret Z 42 #[pv x1 y1 z1 t1] (.bool true)) : Ret Z 20 #[pv x1 y1 z1 t1] (pv 0 0 0 0) := by
  intro w hw
  have S := St.refl hw
  go_enter Tryd.func20, Tryd.ntmps20
  refine wp_seq_k fun K hK => ?_
  refine wr_list ?_
  refine wl_alloc S (q4 x1 y1 z1 t1) 29 rfl (fun _ => by kernel_rfl) ?_
  intro b1 W2 a' S3 ha
  simp only [Act.put, List.setIfInBounds_toArray, List.set_cons_zero, List.set_cons_succ] at ha
  subst ha
  refine wl_alloc S3 (q4 0 0 0 0) 29 rfl (fun _ => by kernel_rfl) ?_
  intro b4 W5 a' S6 ha
  simp only [Act.put, List.setIfInBounds_toArray, List.set_cons_zero, List.set_cons_succ] at ha
  subst ha
  refine wl_nil (hK _ _ ?_)
  clear hK K
  refine wp_seq_k fun K hK => ?_
  refine wp_seq_k fun K hK => ?_
  refine wr_list ?_
  refine wl_load S6 1 b1 0 29 16 (.tmp 1) (q4 x1 y1 z1 t1) (q4 x1 y1 z1 t1) rfl rfl rfl rfl (Sub.self _) row29 rfl ?_
  intro a' ha
  simp only [Act.put, List.setIfInBounds_toArray, List.set_cons_zero, List.set_cons_succ] at ha
  subst ha
  refine wl_call hZ S6 H1 rfl (fun _ => by kernel_rfl) ?_
  intro W7 a' S8 ha
  simp only [Act.put, List.setIfInBounds_toArray, List.set_cons_zero, List.set_cons_succ] at ha
  subst ha
  refine wl_nil (hK _ _ ?_)
  clear hK K
  refine wp_cond_true rfl ?_
  refine wp_seq_k fun K hK => ?_
  refine wr_list ?_
  refine wl_pure (.agg (q4 0 0 0 0)) rfl (fun _ => by kernel_rfl) ?_
  intro a' ha
  simp only [Act.put, List.setIfInBounds_toArray, List.set_cons_zero, List.set_cons_succ] at ha
  subst ha
  refine wl_store S8 0 b4 29 16 (.tmp 2) (.tmp 5) (q4 0 0 0 0) (q4 0 0 0 0) rfl rfl rfl rfl rfl row29 rfl rfl (q4_one _ _ _ _) ?_
  intro W9 a' S10 ha
  simp only [Act.put, List.setIfInBounds_toArray, List.set_cons_zero, List.set_cons_succ] at ha
  subst ha
  refine wl_nil (hK _ _ ?_)
  clear hK K
  refine wp_ret ?_
  exact fin_cell (k := 0) S10 rfl rfl rfl row29 rfl rfl
theorem beside_r {Z : World → Prop} (hZ : Keeps Z) {y r v1 v2 v3 v4 v5 v6 v7 v8 : Nat} {odd is : Bool} (H1 : Ret Z 59 #[.int .u32 1] (wd v1)) (H2 : Ret Z 44 #[wd y, wd y] (wd v2)) (H3 : Ret Z 65 #[wd v2, wd v1] (wd v3)) (H4 : Ret Z 31 #[.string ⟨#[163, 120, 89, 19, 202, 77, 235, 117, 171, 216, 65, 65, 77, 10, 112, 0, 152, 232, 121, 119, 121, 64, 199, 140, 115, 254, 111, 43, 238, 108, 3, 82]⟩] (wd v4)) (H5 : Ret Z 44 #[wd v2, wd v4] (wd v5)) (H6 : Ret Z 66 #[wd v5, wd v1] (wd v6)) (H7 : Ret Z 43 #[wd v6] (wd v7)) (H8 : Ret Z 44 #[wd v3, wd v7] (wd v8)) (H9 : Ret Z 67 #[wd v8, .bool odd] (.tuple #[wd r, .bool is])) : Ret Z 32 #[wd y, .bool odd] (.tuple #[wd r, .bool is]) := by
  intro w hw
  have S := St.refl hw
  go_enter Tryd.func32, Tryd.ntmps32
  refine wp_seq_k fun K hK => ?_
  refine wr_list ?_
  refine wl_alloc S (e4 y) 27 rfl (fun _ => by kernel_rfl) ?_
  intro b1 W2 a' S3 ha
  simp only [Act.put, List.setIfInBounds_toArray, List.set_cons_zero, List.set_cons_succ] at ha
  subst ha
  refine wl_alloc S3 (e4 0) 27 rfl (fun _ => by kernel_rfl) ?_
  intro b4 W5 a' S6 ha
  simp only [Act.put, List.setIfInBounds_toArray, List.set_cons_zero, List.set_cons_succ] at ha
  subst ha
  refine wl_pure (.bool false) rfl (fun _ => by kernel_rfl) ?_
  intro a' ha
  simp only [Act.put, List.setIfInBounds_toArray, List.set_cons_zero, List.set_cons_succ] at ha
  subst ha
  refine wl_nil (hK _ _ ?_)
  clear hK K
  refine wp_seq_k fun K hK => ?_
  apply wr_news [(6, 27, (e4 0)), (7, 27, (e4 0))] [_, _, _, _, _, _] [_, _] S6 (by simp) (by kernel_rfl) (by kernel_rfl) (by kernel_rfl) (by kernel_rfl) (by kernel_rfl) (by kernel_rfl) (by decide) (by intro x hx; simp only [List.mem_cons, List.not_mem_nil, or_false] at hx; rcases hx with rfl | rfl <;> intro W <;> kernel_rfl)
  · intro V7 S8
    simp only [List.cons_append, List.nil_append, List.map_cons, List.map_nil, still, isNew, idle, if_true, Bool.false_eq_true, if_false]
    refine wq_call hZ S8 H1 rfl (fun _ => by kernel_rfl) ?_
    intro a' ha
    simp only [Act.put, List.setIfInBounds_toArray, List.set_cons_zero, List.set_cons_succ] at ha
    subst ha
    refine wq_load S8 1 b1 0 27 4 (.tmp 2) (e4 y) (e4 y) rfl rfl rfl rfl (Sub.self _) row27 rfl ?_
    intro a' ha
    simp only [Act.put, List.setIfInBounds_toArray, List.set_cons_zero, List.set_cons_succ] at ha
    subst ha
    refine wq_load S8 1 b1 0 27 4 (.tmp 2) (e4 y) (e4 y) rfl rfl rfl rfl (Sub.self _) row27 rfl ?_
    intro a' ha
    simp only [Act.put, List.setIfInBounds_toArray, List.set_cons_zero, List.set_cons_succ] at ha
    subst ha
    refine wq_call hZ S8 H2 rfl (fun _ => by kernel_rfl) ?_
    intro a' ha
    simp only [Act.put, List.setIfInBounds_toArray, List.set_cons_zero, List.set_cons_succ] at ha
    subst ha
    refine wq_pure undef rfl (fun _ => by kernel_rfl) ?_
    intro a' ha
    simp only [Act.put, List.setIfInBounds_toArray, List.set_cons_zero, List.set_cons_succ] at ha
    subst ha
    refine wq_pure undef rfl (fun _ => by kernel_rfl) ?_
    intro a' ha
    simp only [Act.put, List.setIfInBounds_toArray, List.set_cons_zero, List.set_cons_succ] at ha
    subst ha
    refine wq_nil ?_
    rfl
  intro W9 p S10
  simp only [putAll, Act.put, List.setIfInBounds_toArray, List.set_cons_zero, List.set_cons_succ]
  have S13 : St Z w W9 [(p 6, .row (e4 0) 27), (p 7, .row (e4 0) 27), (b4, .row (e4 0) 27), (b1, .row (e4 y) 27)] := S10
  clear S10
  generalize p 6 = b11 at S13 ⊢
  generalize p 7 = b12 at S13 ⊢
  refine wt_store S13 0 b11 27 4 (.tmp 6) (.tmp 10) (e4 0) (e4 v1) rfl rfl rfl rfl row27 rfl rfl (e4_one _) ?_
  intro W14 a' S15 ha
  simp only [Act.put, List.setIfInBounds_toArray, List.set_cons_zero, List.set_cons_succ] at ha
  subst ha
  refine wt_store S15 1 b12 27 4 (.tmp 7) (.tmp 13) (e4 0) (e4 v2) rfl rfl rfl rfl row27 rfl rfl (e4_one _) ?_
  intro W16 a' S17 ha
  simp only [Act.put, List.setIfInBounds_toArray, List.set_cons_zero, List.set_cons_succ] at ha
  subst ha
  refine wt_nil (hK _ _ ?_)
  clear hK K
  refine wp_seq_k fun K hK => ?_
  apply wr_news [(8, 27, (e4 0)), (9, 27, (e4 0))] [_, _, _, _, _, _, _, _, _, _] [_, _] S17 (by simp) (by kernel_rfl) (by kernel_rfl) (by kernel_rfl) (by kernel_rfl) (by kernel_rfl) (by kernel_rfl) (by decide) (by intro x hx; simp only [List.mem_cons, List.not_mem_nil, or_false] at hx; rcases hx with rfl | rfl <;> intro W <;> kernel_rfl)
  · intro V18 S19
    simp only [List.cons_append, List.nil_append, List.map_cons, List.map_nil, still, isNew, idle, if_true, Bool.false_eq_true, if_false]
    refine wq_load S19 1 b12 0 27 4 (.tmp 7) (e4 v2) (e4 v2) rfl rfl rfl rfl (Sub.self _) row27 rfl ?_
    intro a' ha
    simp only [Act.put, List.setIfInBounds_toArray, List.set_cons_zero, List.set_cons_succ] at ha
    subst ha
    refine wq_load S19 0 b11 0 27 4 (.tmp 6) (e4 v1) (e4 v1) rfl rfl rfl rfl (Sub.self _) row27 rfl ?_
    intro a' ha
    simp only [Act.put, List.setIfInBounds_toArray, List.set_cons_zero, List.set_cons_succ] at ha
    subst ha
    refine wq_call hZ S19 H3 rfl (fun _ => by kernel_rfl) ?_
    intro a' ha
    simp only [Act.put, List.setIfInBounds_toArray, List.set_cons_zero, List.set_cons_succ] at ha
    subst ha
    refine wq_load S19 1 b12 0 27 4 (.tmp 7) (e4 v2) (e4 v2) rfl rfl rfl rfl (Sub.self _) row27 rfl ?_
    intro a' ha
    simp only [Act.put, List.setIfInBounds_toArray, List.set_cons_zero, List.set_cons_succ] at ha
    subst ha
    refine wq_call hZ S19 H4 rfl (fun _ => by kernel_rfl) ?_
    intro a' ha
    simp only [Act.put, List.setIfInBounds_toArray, List.set_cons_zero, List.set_cons_succ] at ha
    subst ha
    refine wq_call hZ S19 H5 rfl (fun _ => by kernel_rfl) ?_
    intro a' ha
    simp only [Act.put, List.setIfInBounds_toArray, List.set_cons_zero, List.set_cons_succ] at ha
    subst ha
    refine wq_load S19 0 b11 0 27 4 (.tmp 6) (e4 v1) (e4 v1) rfl rfl rfl rfl (Sub.self _) row27 rfl ?_
    intro a' ha
    simp only [Act.put, List.setIfInBounds_toArray, List.set_cons_zero, List.set_cons_succ] at ha
    subst ha
    refine wq_call hZ S19 H6 rfl (fun _ => by kernel_rfl) ?_
    intro a' ha
    simp only [Act.put, List.setIfInBounds_toArray, List.set_cons_zero, List.set_cons_succ] at ha
    subst ha
    refine wq_pure undef rfl (fun _ => by kernel_rfl) ?_
    intro a' ha
    simp only [Act.put, List.setIfInBounds_toArray, List.set_cons_zero, List.set_cons_succ] at ha
    subst ha
    refine wq_pure undef rfl (fun _ => by kernel_rfl) ?_
    intro a' ha
    simp only [Act.put, List.setIfInBounds_toArray, List.set_cons_zero, List.set_cons_succ] at ha
    subst ha
    refine wq_nil ?_
    rfl
  intro W20 p S21
  simp only [putAll, Act.put, List.setIfInBounds_toArray, List.set_cons_zero, List.set_cons_succ]
  have S24 : St Z w W20 [(p 8, .row (e4 0) 27), (p 9, .row (e4 0) 27), (b11, .row (e4 v1) 27), (b12, .row (e4 v2) 27), (b4, .row (e4 0) 27), (b1, .row (e4 y) 27)] := S21
  clear S21
  generalize p 8 = b22 at S24 ⊢
  generalize p 9 = b23 at S24 ⊢
  refine wt_store S24 0 b22 27 4 (.tmp 8) (.tmp 16) (e4 0) (e4 v3) rfl rfl rfl rfl row27 rfl rfl (e4_one _) ?_
  intro W25 a' S26 ha
  simp only [Act.put, List.setIfInBounds_toArray, List.set_cons_zero, List.set_cons_succ] at ha
  subst ha
  refine wt_store S26 1 b23 27 4 (.tmp 9) (.tmp 21) (e4 0) (e4 v6) rfl rfl rfl rfl row27 rfl rfl (e4_one _) ?_
  intro W27 a' S28 ha
  simp only [Act.put, List.setIfInBounds_toArray, List.set_cons_zero, List.set_cons_succ] at ha
  subst ha
  refine wt_nil (hK _ _ ?_)
  clear hK K
  refine wp_seq_k fun K hK => ?_
  refine wr_tail [_, _, _, _, _, _, _, _] [_, _] S28 (by simp) (by kernel_rfl) (by kernel_rfl) (by kernel_rfl) (by kernel_rfl) (by kernel_rfl) ?_
  refine wq_load S28 0 b22 0 27 4 (.tmp 8) (e4 v3) (e4 v3) rfl rfl rfl rfl (Sub.self _) row27 rfl ?_
  intro a' ha
  simp only [Act.put, List.setIfInBounds_toArray, List.set_cons_zero, List.set_cons_succ] at ha
  subst ha
  refine wq_load S28 1 b23 0 27 4 (.tmp 9) (e4 v6) (e4 v6) rfl rfl rfl rfl (Sub.self _) row27 rfl ?_
  intro a' ha
  simp only [Act.put, List.setIfInBounds_toArray, List.set_cons_zero, List.set_cons_succ] at ha
  subst ha
  refine wq_call hZ S28 H7 rfl (fun _ => by kernel_rfl) ?_
  intro a' ha
  simp only [Act.put, List.setIfInBounds_toArray, List.set_cons_zero, List.set_cons_succ] at ha
  subst ha
  refine wq_call hZ S28 H8 rfl (fun _ => by kernel_rfl) ?_
  intro a' ha
  simp only [Act.put, List.setIfInBounds_toArray, List.set_cons_zero, List.set_cons_succ] at ha
  subst ha
  refine wq_pure (.bool odd) rfl (fun _ => by kernel_rfl) ?_
  intro a' ha
  simp only [Act.put, List.setIfInBounds_toArray, List.set_cons_zero, List.set_cons_succ] at ha
  subst ha
  refine wq_call hZ S28 H9 rfl (fun _ => by kernel_rfl) ?_
  intro a' ha
  simp only [Act.put, List.setIfInBounds_toArray, List.set_cons_zero, List.set_cons_succ] at ha
  subst ha
  refine wq_pure (wd r) rfl (fun _ => by kernel_rfl) ?_
  intro a' ha
  simp only [Act.put, List.setIfInBounds_toArray, List.set_cons_zero, List.set_cons_succ] at ha
  subst ha
  refine wq_pure (.bool is) rfl (fun _ => by kernel_rfl) ?_
  intro a' ha
  simp only [Act.put, List.setIfInBounds_toArray, List.set_cons_zero, List.set_cons_succ] at ha
  subst ha
  refine wq_nil ?_
  intro W29 S30
  refine wt_store S30 4 b4 27 4 (.tmp 4) (.tmp 28) (e4 0) (e4 r) rfl rfl rfl rfl row27 rfl rfl (e4_one _) ?_
  intro W31 a' S32 ha
  simp only [Act.put, List.setIfInBounds_toArray, List.set_cons_zero, List.set_cons_succ] at ha
  subst ha
  refine wt_pure (.bool is) (fun _ => by kernel_rfl) ?_
  intro a' ha
  simp only [Act.put, List.setIfInBounds_toArray, List.set_cons_zero, List.set_cons_succ] at ha
  subst ha
  refine wt_nil (hK _ _ ?_)
  clear hK K
  refine wp_ret ?_
  exact fin_cell_tmp (k := 4) S32 rfl rfl rfl rfl row27 rfl rfl
end Go.Proofs.YtpdagpjjlnncbaaDoor
