/-
  EdwLaws: its walk, where the scalars are read. No statement is proved here.
-/
import Derived.Test.YtpdagpjjlnncbaaDoorEdwS
namespace Go.Proofs.YtpdagpjjlnncbaaDoor
open Go.RowKit Go.Lib Go.BigFrame
set_option linter.unusedVariables false
set_option linter.unusedSimpArgs false
set_option maxRecDepth 1000000
set_option maxHeartbeats 4000000

theorem laws_0y {Z : World → Prop} (hZ : Keeps Z) {x1 y1 z1 t1 x2 y2 z2 t2 x3 y3 z3 t3 a b one less v1 v2 v3 v4 v5 v6 v7 v8 v9 v10 v11 v12 v13 v14 v15 v16 v17 v18 v19 v20 v21 v22 v23 v24 v25 v26 v27 v28 v29 v30 v31 v32 v33 v34 v35 v36 v37 v38 v39 v40 v41 v42 : Nat} {r s t m n : ByteArray} {e f g : Int} (H1 : Ret Z 9 #[.string r] (.tuple #[pv x1 y1 z1 t1, .int .i64 e])) (H2 : Ret Z 9 #[.string s] (.tuple #[pv x2 y2 z2 t2, .int .i64 f])) (H3 : Ret Z 9 #[.string t] (.tuple #[pv x3 y3 z3 t3, .int .i64 g])) (H4 : Ret Z 17 #[.string m] (.tuple #[wd a, .int .i64 0])) (H5 : Ret Z 17 #[.string n] (.tuple #[wd b, .int .i64 0])) (H6 : Ret Z 17 #[.string ((⟨#[1]⟩ : ByteArray) ++ ((zs 31) : ByteArray))] (.tuple #[wd one, .int .i64 0])) (H7 : Ret Z 17 #[.string ((((⟨#[236, 211, 245, 92, 26, 99, 18, 88, 214, 156, 247, 162, 222, 249, 222, 20]⟩ : ByteArray) ++ ((zs 15) : ByteArray)) : ByteArray) ++ (⟨#[16]⟩ : ByteArray))] (.tuple #[wd less, .int .i64 0])) (H8 : Ret Z 26 #[] (pv v1 v2 v3 v4)) (H9 : Ret Z 21 #[pv v1 v2 v3 v4, wd a, wd 0] (pv v5 v6 v7 v8)) (H10 : Ret Z 21 #[pv v1 v2 v3 v4, wd 0, wd b] (pv v9 v10 v11 v12)) (H11 : Ret Z 18 #[pv v5 v6 v7 v8, pv v9 v10 v11 v12] (pv v13 v14 v15 v16)) (H12 : Ret Z 21 #[pv v1 v2 v3 v4, wd a, wd b] (pv v17 v18 v19 v20)) (H13 : Ret Z 14 #[pv v13 v14 v15 v16, pv v17 v18 v19 v20] (.bool true)) (H14 : Ret Z 27 #[wd a, wd one, wd b] (wd v21)) (H15 : Ret Z 21 #[pv v1 v2 v3 v4, wd v21, wd 0] (pv v22 v23 v24 v25)) (H16 : Ret Z 14 #[pv v13 v14 v15 v16, pv v22 v23 v24 v25] (.bool true)) (H17 : Ret Z 21 #[pv v5 v6 v7 v8, wd b, wd 0] (pv v26 v27 v28 v29)) (H18 : Ret Z 27 #[wd a, wd b, wd 0] (wd v30)) (H19 : Ret Z 21 #[pv v1 v2 v3 v4, wd v30, wd 0] (pv v31 v32 v33 v34)) (H20 : Ret Z 14 #[pv v26 v27 v28 v29, pv v31 v32 v33 v34] (.bool true)) (H21 : Ret Z 21 #[pv v1 v2 v3 v4, wd less, wd one] (pv v35 v36 v37 v38)) (H22 : Ret Z 25 #[] (pv v39 v40 v41 v42)) (H23 : Ret Z 14 #[pv v35 v36 v37 v38, pv v39 v40 v41 v42] (.bool true)) (H24 : Ret Z 8 #[] (.bool true)) (hq1 : decide (e = 0) = false) : Ret Z 6 #[.string r, .string s, .string t, .string m, .string n] (.bool true) := by
  intro w hw
  have S := St.refl hw
  go_enter Tryd.func6, Tryd.ntmps6
  refine wp_seq_k fun K hK => ?_
  refine wr_list ?_
  refine wl_pure (.bool false) rfl (fun _ => by kernel_rfl) ?_
  intro a' ha
  simp only [Act.put, pA, pO, pS] at ha
  subst ha
  refine wl_nil (hK _ _ ?_)
  clear hK K
  refine wp_seq_k fun K hK => ?_
  refine wr_list ?_
  refine wl_pure (.string r) rfl (fun _ => by kernel_rfl) ?_
  intro a' ha
  simp only [Act.put, pA, pO, pS] at ha
  subst ha
  refine wl_call hZ S H1 rfl (fun _ => by kernel_rfl) ?_
  intro W1 a' S2 ha
  simp only [Act.put, pA, pO, pS] at ha
  subst ha
  refine wl_pure (.tuple #[pv x1 y1 z1 t1, .int .i64 e]) rfl (fun _ => by kernel_rfl) ?_
  intro a' ha
  simp only [Act.put, pA, pO, pS] at ha
  subst ha
  refine wl_pure (pv x1 y1 z1 t1) rfl (fun _ => by kernel_rfl) ?_
  intro a' ha
  simp only [Act.put, pA, pO, pS] at ha
  subst ha
  refine wl_pure (.int .i64 e) rfl (fun _ => by kernel_rfl) ?_
  intro a' ha
  simp only [Act.put, pA, pO, pS] at ha
  subst ha
  refine wl_alloc S2 (q4 0 0 0 0) 29 rfl (fun _ => by kernel_rfl) ?_
  intro b3 W4 a' S5 ha
  simp only [Act.put, pA, pO, pS] at ha
  subst ha
  refine wl_store S5 0 b3 29 16 (.tmp 11) (.tmp 32) (q4 0 0 0 0) (q4 x1 y1 z1 t1) rfl rfl rfl rfl rfl row29 rfl rfl (q4_one _ _ _ _) ?_
  intro W6 a' S7 ha
  simp only [Act.put, pA, pO, pS] at ha
  subst ha
  refine wl_pure (.int .i64 e) rfl (fun _ => by kernel_rfl) ?_
  intro a' ha
  simp only [Act.put, pA, pO, pS] at ha
  subst ha
  refine wl_nil (hK _ _ ?_)
  clear hK K
  refine wp_seq_k fun K hK => ?_
  refine wr_list ?_
  refine wl_pure (.string s) rfl (fun _ => by kernel_rfl) ?_
  intro a' ha
  simp only [Act.put, pA, pO, pS] at ha
  subst ha
  refine wl_call hZ S7 H2 rfl (fun _ => by kernel_rfl) ?_
  intro W8 a' S9 ha
  simp only [Act.put, pA, pO, pS] at ha
  subst ha
  refine wl_pure (.tuple #[pv x2 y2 z2 t2, .int .i64 f]) rfl (fun _ => by kernel_rfl) ?_
  intro a' ha
  simp only [Act.put, pA, pO, pS] at ha
  subst ha
  refine wl_pure (pv x2 y2 z2 t2) rfl (fun _ => by kernel_rfl) ?_
  intro a' ha
  simp only [Act.put, pA, pO, pS] at ha
  subst ha
  refine wl_pure (.int .i64 f) rfl (fun _ => by kernel_rfl) ?_
  intro a' ha
  simp only [Act.put, pA, pO, pS] at ha
  subst ha
  refine wl_alloc S9 (q4 0 0 0 0) 29 rfl (fun _ => by kernel_rfl) ?_
  intro b10 W11 a' S12 ha
  simp only [Act.put, pA, pO, pS] at ha
  subst ha
  refine wl_store S12 0 b10 29 16 (.tmp 13) (.tmp 37) (q4 0 0 0 0) (q4 x2 y2 z2 t2) rfl rfl rfl rfl rfl row29 rfl rfl (q4_one _ _ _ _) ?_
  intro W13 a' S14 ha
  simp only [Act.put, pA, pO, pS] at ha
  subst ha
  refine wl_pure (.int .i64 f) rfl (fun _ => by kernel_rfl) ?_
  intro a' ha
  simp only [Act.put, pA, pO, pS] at ha
  subst ha
  refine wl_nil (hK _ _ ?_)
  clear hK K
  refine wp_seq_k fun K hK => ?_
  refine wr_list ?_
  refine wl_pure (.string t) rfl (fun _ => by kernel_rfl) ?_
  intro a' ha
  simp only [Act.put, pA, pO, pS] at ha
  subst ha
  refine wl_call hZ S14 H3 rfl (fun _ => by kernel_rfl) ?_
  intro W15 a' S16 ha
  simp only [Act.put, pA, pO, pS] at ha
  subst ha
  refine wl_pure (.tuple #[pv x3 y3 z3 t3, .int .i64 g]) rfl (fun _ => by kernel_rfl) ?_
  intro a' ha
  simp only [Act.put, pA, pO, pS] at ha
  subst ha
  refine wl_pure (pv x3 y3 z3 t3) rfl (fun _ => by kernel_rfl) ?_
  intro a' ha
  simp only [Act.put, pA, pO, pS] at ha
  subst ha
  refine wl_pure (.int .i64 g) rfl (fun _ => by kernel_rfl) ?_
  intro a' ha
  simp only [Act.put, pA, pO, pS] at ha
  subst ha
  refine wl_alloc S16 (q4 0 0 0 0) 29 rfl (fun _ => by kernel_rfl) ?_
  intro b17 W18 a' S19 ha
  simp only [Act.put, pA, pO, pS] at ha
  subst ha
  refine wl_store S19 0 b17 29 16 (.tmp 15) (.tmp 42) (q4 0 0 0 0) (q4 x3 y3 z3 t3) rfl rfl rfl rfl rfl row29 rfl rfl (q4_one _ _ _ _) ?_
  intro W20 a' S21 ha
  simp only [Act.put, pA, pO, pS] at ha
  subst ha
  refine wl_pure (.int .i64 g) rfl (fun _ => by kernel_rfl) ?_
  intro a' ha
  simp only [Act.put, pA, pO, pS] at ha
  subst ha
  refine wl_nil (hK _ _ ?_)
  clear hK K
  refine wp_seq_k fun K hK => ?_
  refine wp_seq_k fun K hK => ?_
  refine wr_list ?_
  refine wl_pure (.int .i64 e) rfl (fun _ => by kernel_rfl) ?_
  intro a' ha
  simp only [Act.put, pA, pO, pS] at ha
  subst ha
  refine wl_pure (.bool false) rfl (fun _ => (show (execOp _ _).run Tryd.prog _ = .ok (.value (.bool (decide (e = 0)))) _ from by kernel_rfl).trans (by rw [hq1])) ?_
  intro a' ha
  simp only [Act.put, pA, pO, pS] at ha
  subst ha
  refine wl_pure (.bool false) rfl (fun _ => by kernel_rfl) ?_
  intro a' ha
  simp only [Act.put, pA, pO, pS] at ha
  subst ha
  refine wl_skip (by kernel_rfl) ?_
  intro a' ha
  simp only [Act.put, pA, pO, pS] at ha
  subst ha
  refine wl_skip (by kernel_rfl) ?_
  intro a' ha
  simp only [Act.put, pA, pO, pS] at ha
  subst ha
  refine wl_pure (.bool false) rfl (fun _ => by kernel_rfl) ?_
  intro a' ha
  simp only [Act.put, pA, pO, pS] at ha
  subst ha
  refine wl_pure (.bool false) rfl (fun _ => by kernel_rfl) ?_
  intro a' ha
  simp only [Act.put, pA, pO, pS] at ha
  subst ha
  refine wl_skip (by kernel_rfl) ?_
  intro a' ha
  simp only [Act.put, pA, pO, pS] at ha
  subst ha
  refine wl_skip (by kernel_rfl) ?_
  intro a' ha
  simp only [Act.put, pA, pO, pS] at ha
  subst ha
  refine wl_pure (.bool false) rfl (fun _ => by kernel_rfl) ?_
  intro a' ha
  simp only [Act.put, pA, pO, pS] at ha
  subst ha
  refine wl_nil (hK _ _ ?_)
  clear hK K
  refine wp_cond_false rfl ?_
  refine wp_skip (hK _ _ ?_)
  clear hK K
  refine wp_seq_k fun K hK => ?_
  refine wr_list ?_
  refine wl_pure (.string m) rfl (fun _ => by kernel_rfl) ?_
  intro a' ha
  simp only [Act.put, pA, pO, pS] at ha
  subst ha
  refine wl_call hZ S21 H4 rfl (fun _ => by kernel_rfl) ?_
  intro W22 a' S23 ha
  simp only [Act.put, pA, pO, pS] at ha
  subst ha
  refine wl_pure (.tuple #[wd a, .int .i64 0]) rfl (fun _ => by kernel_rfl) ?_
  intro a' ha
  simp only [Act.put, pA, pO, pS] at ha
  subst ha
  refine wl_pure (wd a) rfl (fun _ => by kernel_rfl) ?_
  intro a' ha
  simp only [Act.put, pA, pO, pS] at ha
  subst ha
  refine wl_pure (.int .i64 0) rfl (fun _ => by kernel_rfl) ?_
  intro a' ha
  simp only [Act.put, pA, pO, pS] at ha
  subst ha
  refine wl_alloc S23 (e4 0) 46 rfl (fun _ => by kernel_rfl) ?_
  intro b24 W25 a' S26 ha
  simp only [Act.put, pA, pO, pS] at ha
  subst ha
  refine wl_store S26 0 b24 46 4 (.tmp 17) (.tmp 96) (e4 0) (e4 a) rfl rfl rfl rfl rfl row46 rfl rfl (e4_one _) ?_
  intro W27 a' S28 ha
  simp only [Act.put, pA, pO, pS] at ha
  subst ha
  refine wl_pure (.int .i64 0) rfl (fun _ => by kernel_rfl) ?_
  intro a' ha
  simp only [Act.put, pA, pO, pS] at ha
  subst ha
  refine wl_nil (hK _ _ ?_)
  clear hK K
  refine wp_seq_k fun K hK => ?_
  refine wr_list ?_
  refine wl_pure (.string n) rfl (fun _ => by kernel_rfl) ?_
  intro a' ha
  simp only [Act.put, pA, pO, pS] at ha
  subst ha
  refine wl_call hZ S28 H5 rfl (fun _ => by kernel_rfl) ?_
  intro W29 a' S30 ha
  simp only [Act.put, pA, pO, pS] at ha
  subst ha
  refine wl_pure (.tuple #[wd b, .int .i64 0]) rfl (fun _ => by kernel_rfl) ?_
  intro a' ha
  simp only [Act.put, pA, pO, pS] at ha
  subst ha
  refine wl_pure (wd b) rfl (fun _ => by kernel_rfl) ?_
  intro a' ha
  simp only [Act.put, pA, pO, pS] at ha
  subst ha
  refine wl_pure (.int .i64 0) rfl (fun _ => by kernel_rfl) ?_
  intro a' ha
  simp only [Act.put, pA, pO, pS] at ha
  subst ha
  refine wl_alloc S30 (e4 0) 46 rfl (fun _ => by kernel_rfl) ?_
  intro b31 W32 a' S33 ha
  simp only [Act.put, pA, pO, pS] at ha
  subst ha
  refine wl_store S33 0 b31 46 4 (.tmp 19) (.tmp 101) (e4 0) (e4 b) rfl rfl rfl rfl rfl row46 rfl rfl (e4_one _) ?_
  intro W34 a' S35 ha
  simp only [Act.put, pA, pO, pS] at ha
  subst ha
  refine wl_pure (.int .i64 0) rfl (fun _ => by kernel_rfl) ?_
  intro a' ha
  simp only [Act.put, pA, pO, pS] at ha
  subst ha
  refine wl_nil (hK _ _ ?_)
  clear hK K
  refine wp_seq_k fun K hK => ?_
  refine wp_seq_k fun K hK => ?_
  refine wr_list ?_
  refine wl_pure (.int .i64 0) rfl (fun _ => by kernel_rfl) ?_
  intro a' ha
  simp only [Act.put, pA, pO, pS] at ha
  subst ha
  refine wl_pure (.bool false) rfl (fun _ => by kernel_rfl) ?_
  intro a' ha
  simp only [Act.put, pA, pO, pS] at ha
  subst ha
  refine wl_pure (.bool false) rfl (fun _ => by kernel_rfl) ?_
  intro a' ha
  simp only [Act.put, pA, pO, pS] at ha
  subst ha
  refine wl_pure (.int .i64 0) (by kernel_rfl) (fun _ => by kernel_rfl) ?_
  intro a' ha
  simp only [Act.put, pA, pO, pS] at ha
  subst ha
  refine wl_pure (.bool false) (by kernel_rfl) (fun _ => by kernel_rfl) ?_
  intro a' ha
  simp only [Act.put, pA, pO, pS] at ha
  subst ha
  refine wl_pure (.bool false) rfl (fun _ => by kernel_rfl) ?_
  intro a' ha
  simp only [Act.put, pA, pO, pS] at ha
  subst ha
  refine wl_nil (hK _ _ ?_)
  clear hK K
  refine wp_cond_false rfl ?_
  refine wp_skip (hK _ _ ?_)
  clear hK K
  refine wp_seq_k fun K hK => ?_
  refine wr_list ?_
  refine wl_make S35 31 rfl (fun _ => by kernel_rfl) ?_
  intro b36 W37 a' S38 ha
  simp only [Act.put, pA, pO, pS] at ha
  subst ha
  refine wl_textz S38 0 b36 31 (.tmp 111) rfl rfl rfl rfl ?_
  intro a' ha
  simp only [Act.put, pA, pO, pS] at ha
  subst ha
  refine wl_pure (.string ((⟨#[1]⟩ : ByteArray) ++ ((zs 31) : ByteArray))) rfl (fun _ => by kernel_rfl) ?_
  intro a' ha
  simp only [Act.put, pA, pO, pS] at ha
  subst ha
  refine wl_call hZ S38 H6 rfl (fun _ => by kernel_rfl) ?_
  intro W39 a' S40 ha
  simp only [Act.put, pA, pO, pS] at ha
  subst ha
  refine wl_pure (.tuple #[wd one, .int .i64 0]) rfl (fun _ => by kernel_rfl) ?_
  intro a' ha
  simp only [Act.put, pA, pO, pS] at ha
  subst ha
  refine wl_pure (wd one) rfl (fun _ => by kernel_rfl) ?_
  intro a' ha
  simp only [Act.put, pA, pO, pS] at ha
  subst ha
  refine wl_pure (.int .i64 0) rfl (fun _ => by kernel_rfl) ?_
  intro a' ha
  simp only [Act.put, pA, pO, pS] at ha
  subst ha
  refine wl_alloc S40 (e4 0) 46 rfl (fun _ => by kernel_rfl) ?_
  intro b41 W42 a' S43 ha
  simp only [Act.put, pA, pO, pS] at ha
  subst ha
  refine wl_store S43 0 b41 46 4 (.tmp 21) (.tmp 115) (e4 0) (e4 one) rfl rfl rfl rfl rfl row46 rfl rfl (e4_one _) ?_
  intro W44 a' S45 ha
  simp only [Act.put, pA, pO, pS] at ha
  subst ha
  refine wl_pure (.int .i64 0) rfl (fun _ => by kernel_rfl) ?_
  intro a' ha
  simp only [Act.put, pA, pO, pS] at ha
  subst ha
  refine wl_nil (hK _ _ ?_)
  clear hK K
  refine wp_seq_k fun K hK => ?_
  refine wr_list ?_
  refine wl_make S45 15 rfl (fun _ => by kernel_rfl) ?_
  intro b46 W47 a' S48 ha
  simp only [Act.put, pA, pO, pS] at ha
  subst ha
  refine wl_textz S48 0 b46 15 (.tmp 118) rfl rfl rfl rfl ?_
  intro a' ha
  simp only [Act.put, pA, pO, pS] at ha
  subst ha
  refine wl_pure (.string ((⟨#[236, 211, 245, 92, 26, 99, 18, 88, 214, 156, 247, 162, 222, 249, 222, 20]⟩ : ByteArray) ++ ((zs 15) : ByteArray))) rfl (fun _ => by kernel_rfl) ?_
  intro a' ha
  simp only [Act.put, pA, pO, pS] at ha
  subst ha
  refine wl_pure (.string ((((⟨#[236, 211, 245, 92, 26, 99, 18, 88, 214, 156, 247, 162, 222, 249, 222, 20]⟩ : ByteArray) ++ ((zs 15) : ByteArray)) : ByteArray) ++ (⟨#[16]⟩ : ByteArray))) rfl (fun _ => by kernel_rfl) ?_
  intro a' ha
  simp only [Act.put, pA, pO, pS] at ha
  subst ha
  refine wl_call hZ S48 H7 rfl (fun _ => by kernel_rfl) ?_
  intro W49 a' S50 ha
  simp only [Act.put, pA, pO, pS] at ha
  subst ha
  refine wl_pure (.tuple #[wd less, .int .i64 0]) rfl (fun _ => by kernel_rfl) ?_
  intro a' ha
  simp only [Act.put, pA, pO, pS] at ha
  subst ha
  refine wl_pure (wd less) rfl (fun _ => by kernel_rfl) ?_
  intro a' ha
  simp only [Act.put, pA, pO, pS] at ha
  subst ha
  refine wl_pure (.int .i64 0) rfl (fun _ => by kernel_rfl) ?_
  intro a' ha
  simp only [Act.put, pA, pO, pS] at ha
  subst ha
  refine wl_alloc S50 (e4 0) 46 rfl (fun _ => by kernel_rfl) ?_
  intro b51 W52 a' S53 ha
  simp only [Act.put, pA, pO, pS] at ha
  subst ha
  refine wl_store S53 0 b51 46 4 (.tmp 23) (.tmp 123) (e4 0) (e4 less) rfl rfl rfl rfl rfl row46 rfl rfl (e4_one _) ?_
  intro W54 a' S55 ha
  simp only [Act.put, pA, pO, pS] at ha
  subst ha
  refine wl_pure (.int .i64 0) rfl (fun _ => by kernel_rfl) ?_
  intro a' ha
  simp only [Act.put, pA, pO, pS] at ha
  subst ha
  refine wl_nil (hK _ _ ?_)
  clear hK K
  refine wp_seq_k fun K hK => ?_
  refine wr_list ?_
  refine wl_pure (.agg (e4 0)) rfl (fun _ => by kernel_rfl) ?_
  intro a' ha
  simp only [Act.put, pA, pO, pS] at ha
  subst ha
  refine wl_alloc S55 (e4 0) 46 rfl (fun _ => by kernel_rfl) ?_
  intro b56 W57 a' S58 ha
  simp only [Act.put, pA, pO, pS] at ha
  subst ha
  refine wl_store S58 0 b56 46 4 (.tmp 25) (.tmp 125) (e4 0) (e4 0) rfl rfl rfl rfl rfl row46 rfl rfl (e4_one _) ?_
  intro W59 a' S60 ha
  simp only [Act.put, pA, pO, pS] at ha
  subst ha
  refine wl_nil (hK _ _ ?_)
  clear hK K
  refine wp_seq_k fun K hK => ?_
  refine wr_list ?_
  refine wl_call hZ S60 H8 rfl (fun _ => by kernel_rfl) ?_
  intro W61 a' S62 ha
  simp only [Act.put, pA, pO, pS] at ha
  subst ha
  refine wl_alloc S62 (q4 0 0 0 0) 29 rfl (fun _ => by kernel_rfl) ?_
  intro b63 W64 a' S65 ha
  simp only [Act.put, pA, pO, pS] at ha
  subst ha
  refine wl_store S65 0 b63 29 16 (.tmp 26) (.tmp 126) (q4 0 0 0 0) (q4 v1 v2 v3 v4) rfl rfl rfl rfl rfl row29 rfl rfl (q4_one _ _ _ _) ?_
  intro W66 a' S67 ha
  simp only [Act.put, pA, pO, pS] at ha
  subst ha
  refine wl_nil (hK _ _ ?_)
  clear hK K
  refine wp_seq_k fun K hK => ?_
  refine wr_list ?_
  refine wl_load S67 0 b63 0 29 16 (.tmp 26) (q4 v1 v2 v3 v4) (q4 v1 v2 v3 v4) rfl rfl rfl rfl (Sub.self _) row29 rfl ?_
  intro a' ha
  simp only [Act.put, pA, pO, pS] at ha
  subst ha
  refine wl_load S67 7 b24 0 46 4 (.tmp 17) (e4 a) (e4 a) rfl rfl rfl rfl (Sub.self _) row46 rfl ?_
  intro a' ha
  simp only [Act.put, pA, pO, pS] at ha
  subst ha
  refine wl_load S67 1 b56 0 46 4 (.tmp 25) (e4 0) (e4 0) rfl rfl rfl rfl (Sub.self _) row46 rfl ?_
  intro a' ha
  simp only [Act.put, pA, pO, pS] at ha
  subst ha
  refine wl_call hZ S67 H9 rfl (fun _ => by kernel_rfl) ?_
  intro W68 a' S69 ha
  simp only [Act.put, pA, pO, pS] at ha
  subst ha
  refine wl_alloc S69 (q4 0 0 0 0) 29 rfl (fun _ => by kernel_rfl) ?_
  intro b70 W71 a' S72 ha
  simp only [Act.put, pA, pO, pS] at ha
  subst ha
  refine wl_store S72 0 b70 29 16 (.tmp 27) (.tmp 130) (q4 0 0 0 0) (q4 v5 v6 v7 v8) rfl rfl rfl rfl rfl row29 rfl rfl (q4_one _ _ _ _) ?_
  intro W73 a' S74 ha
  simp only [Act.put, pA, pO, pS] at ha
  subst ha
  refine wl_nil (hK _ _ ?_)
  clear hK K
  refine wp_seq_k fun K hK => ?_
  refine wr_list ?_
  refine wl_load S74 1 b63 0 29 16 (.tmp 26) (q4 v1 v2 v3 v4) (q4 v1 v2 v3 v4) rfl rfl rfl rfl (Sub.self _) row29 rfl ?_
  intro a' ha
  simp only [Act.put, pA, pO, pS] at ha
  subst ha
  refine wl_load S74 2 b56 0 46 4 (.tmp 25) (e4 0) (e4 0) rfl rfl rfl rfl (Sub.self _) row46 rfl ?_
  intro a' ha
  simp only [Act.put, pA, pO, pS] at ha
  subst ha
  refine wl_load S74 7 b31 0 46 4 (.tmp 19) (e4 b) (e4 b) rfl rfl rfl rfl (Sub.self _) row46 rfl ?_
  intro a' ha
  simp only [Act.put, pA, pO, pS] at ha
  subst ha
  refine wl_call hZ S74 H10 rfl (fun _ => by kernel_rfl) ?_
  intro W75 a' S76 ha
  simp only [Act.put, pA, pO, pS] at ha
  subst ha
  refine wl_alloc S76 (q4 0 0 0 0) 29 rfl (fun _ => by kernel_rfl) ?_
  intro b77 W78 a' S79 ha
  simp only [Act.put, pA, pO, pS] at ha
  subst ha
  refine wl_store S79 0 b77 29 16 (.tmp 28) (.tmp 134) (q4 0 0 0 0) (q4 v9 v10 v11 v12) rfl rfl rfl rfl rfl row29 rfl rfl (q4_one _ _ _ _) ?_
  intro W80 a' S81 ha
  simp only [Act.put, pA, pO, pS] at ha
  subst ha
  refine wl_nil (hK _ _ ?_)
  clear hK K
  refine wp_seq_k fun K hK => ?_
  refine wr_ext S81 (by kernel_rfl) (by kernel_rfl) ?_
  refine wq_load S81 1 b70 0 29 16 (.tmp 27) (q4 v5 v6 v7 v8) (q4 v5 v6 v7 v8) rfl rfl rfl rfl (Sub.self _) row29 rfl ?_
  intro a' ha
  simp only [Act.put, pA, pO, pS] at ha
  subst ha
  refine wq_load S81 0 b77 0 29 16 (.tmp 28) (q4 v9 v10 v11 v12) (q4 v9 v10 v11 v12) rfl rfl rfl rfl (Sub.self _) row29 rfl ?_
  intro a' ha
  simp only [Act.put, pA, pO, pS] at ha
  subst ha
  refine wq_call hZ S81 H11 rfl (fun _ => by kernel_rfl) ?_
  intro a' ha
  simp only [Act.put, pA, pO, pS] at ha
  subst ha
  refine wq_load S81 2 b63 0 29 16 (.tmp 26) (q4 v1 v2 v3 v4) (q4 v1 v2 v3 v4) rfl rfl rfl rfl (Sub.self _) row29 rfl ?_
  intro a' ha
  simp only [Act.put, pA, pO, pS] at ha
  subst ha
  refine wq_load S81 9 b24 0 46 4 (.tmp 17) (e4 a) (e4 a) rfl rfl rfl rfl (Sub.self _) row46 rfl ?_
  intro a' ha
  simp only [Act.put, pA, pO, pS] at ha
  subst ha
  refine wq_load S81 8 b31 0 46 4 (.tmp 19) (e4 b) (e4 b) rfl rfl rfl rfl (Sub.self _) row46 rfl ?_
  intro a' ha
  simp only [Act.put, pA, pO, pS] at ha
  subst ha
  refine wq_call hZ S81 H12 rfl (fun _ => by kernel_rfl) ?_
  intro a' ha
  simp only [Act.put, pA, pO, pS] at ha
  subst ha
  refine wq_call hZ S81 H13 rfl (fun _ => by kernel_rfl) ?_
  intro a' ha
  simp only [Act.put, pA, pO, pS] at ha
  subst ha
  refine wq_pure (.bool true) rfl (fun _ => by kernel_rfl) ?_
  intro a' ha
  simp only [Act.put, pA, pO, pS] at ha
  subst ha
  refine wq_load S81 1 b70 0 29 16 (.tmp 27) (q4 v5 v6 v7 v8) (q4 v5 v6 v7 v8) (by kernel_rfl) rfl rfl rfl (Sub.self _) row29 rfl ?_
  intro a' ha
  simp only [Act.put, pA, pO, pS] at ha
  subst ha
  refine wq_load S81 0 b77 0 29 16 (.tmp 28) (q4 v9 v10 v11 v12) (q4 v9 v10 v11 v12) (by kernel_rfl) rfl rfl rfl (Sub.self _) row29 rfl ?_
  intro a' ha
  simp only [Act.put, pA, pO, pS] at ha
  subst ha
  refine wq_call hZ S81 H11 (by kernel_rfl) (fun _ => by kernel_rfl) ?_
  intro a' ha
  simp only [Act.put, pA, pO, pS] at ha
  subst ha
  refine wq_load S81 2 b63 0 29 16 (.tmp 26) (q4 v1 v2 v3 v4) (q4 v1 v2 v3 v4) (by kernel_rfl) rfl rfl rfl (Sub.self _) row29 rfl ?_
  intro a' ha
  simp only [Act.put, pA, pO, pS] at ha
  subst ha
  refine wq_load S81 9 b24 0 46 4 (.tmp 17) (e4 a) (e4 a) (by kernel_rfl) rfl rfl rfl (Sub.self _) row46 rfl ?_
  intro a' ha
  simp only [Act.put, pA, pO, pS] at ha
  subst ha
  refine wq_load S81 6 b41 0 46 4 (.tmp 21) (e4 one) (e4 one) (by kernel_rfl) rfl rfl rfl (Sub.self _) row46 rfl ?_
  intro a' ha
  simp only [Act.put, pA, pO, pS] at ha
  subst ha
  refine wq_load S81 8 b31 0 46 4 (.tmp 19) (e4 b) (e4 b) (by kernel_rfl) rfl rfl rfl (Sub.self _) row46 rfl ?_
  intro a' ha
  simp only [Act.put, pA, pO, pS] at ha
  subst ha
  refine wq_call hZ S81 H14 (by kernel_rfl) (fun _ => by kernel_rfl) ?_
  intro a' ha
  simp only [Act.put, pA, pO, pS] at ha
  subst ha
  refine wq_load S81 3 b56 0 46 4 (.tmp 25) (e4 0) (e4 0) (by kernel_rfl) rfl rfl rfl (Sub.self _) row46 rfl ?_
  intro a' ha
  simp only [Act.put, pA, pO, pS] at ha
  subst ha
  refine wq_call hZ S81 H15 (by kernel_rfl) (fun _ => by kernel_rfl) ?_
  intro a' ha
  simp only [Act.put, pA, pO, pS] at ha
  subst ha
  refine wq_call hZ S81 H16 (by kernel_rfl) (fun _ => by kernel_rfl) ?_
  intro a' ha
  simp only [Act.put, pA, pO, pS] at ha
  subst ha
  refine wq_pure (.bool true) rfl (fun _ => by kernel_rfl) ?_
  intro a' ha
  simp only [Act.put, pA, pO, pS] at ha
  subst ha
  refine wq_pure (.bool true) rfl (fun _ => by kernel_rfl) ?_
  intro a' ha
  simp only [Act.put, pA, pO, pS] at ha
  subst ha
  refine wq_load S81 1 b70 0 29 16 (.tmp 27) (q4 v5 v6 v7 v8) (q4 v5 v6 v7 v8) (by kernel_rfl) rfl rfl rfl (Sub.self _) row29 rfl ?_
  intro a' ha
  simp only [Act.put, pA, pO, pS] at ha
  subst ha
  refine wq_load S81 8 b31 0 46 4 (.tmp 19) (e4 b) (e4 b) (by kernel_rfl) rfl rfl rfl (Sub.self _) row46 rfl ?_
  intro a' ha
  simp only [Act.put, pA, pO, pS] at ha
  subst ha
  refine wq_load S81 3 b56 0 46 4 (.tmp 25) (e4 0) (e4 0) (by kernel_rfl) rfl rfl rfl (Sub.self _) row46 rfl ?_
  intro a' ha
  simp only [Act.put, pA, pO, pS] at ha
  subst ha
  refine wq_call hZ S81 H17 (by kernel_rfl) (fun _ => by kernel_rfl) ?_
  intro a' ha
  simp only [Act.put, pA, pO, pS] at ha
  subst ha
  refine wq_load S81 2 b63 0 29 16 (.tmp 26) (q4 v1 v2 v3 v4) (q4 v1 v2 v3 v4) (by kernel_rfl) rfl rfl rfl (Sub.self _) row29 rfl ?_
  intro a' ha
  simp only [Act.put, pA, pO, pS] at ha
  subst ha
  refine wq_load S81 9 b24 0 46 4 (.tmp 17) (e4 a) (e4 a) (by kernel_rfl) rfl rfl rfl (Sub.self _) row46 rfl ?_
  intro a' ha
  simp only [Act.put, pA, pO, pS] at ha
  subst ha
  refine wq_load S81 8 b31 0 46 4 (.tmp 19) (e4 b) (e4 b) (by kernel_rfl) rfl rfl rfl (Sub.self _) row46 rfl ?_
  intro a' ha
  simp only [Act.put, pA, pO, pS] at ha
  subst ha
  refine wq_load S81 3 b56 0 46 4 (.tmp 25) (e4 0) (e4 0) (by kernel_rfl) rfl rfl rfl (Sub.self _) row46 rfl ?_
  intro a' ha
  simp only [Act.put, pA, pO, pS] at ha
  subst ha
  refine wq_call hZ S81 H18 (by kernel_rfl) (fun _ => by kernel_rfl) ?_
  intro a' ha
  simp only [Act.put, pA, pO, pS] at ha
  subst ha
  refine wq_load S81 3 b56 0 46 4 (.tmp 25) (e4 0) (e4 0) (by kernel_rfl) rfl rfl rfl (Sub.self _) row46 rfl ?_
  intro a' ha
  simp only [Act.put, pA, pO, pS] at ha
  subst ha
  refine wq_call hZ S81 H19 (by kernel_rfl) (fun _ => by kernel_rfl) ?_
  intro a' ha
  simp only [Act.put, pA, pO, pS] at ha
  subst ha
  refine wq_call hZ S81 H20 (by kernel_rfl) (fun _ => by kernel_rfl) ?_
  intro a' ha
  simp only [Act.put, pA, pO, pS] at ha
  subst ha
  refine wq_pure (.bool true) rfl (fun _ => by kernel_rfl) ?_
  intro a' ha
  simp only [Act.put, pA, pO, pS] at ha
  subst ha
  refine wq_pure (.bool true) rfl (fun _ => by kernel_rfl) ?_
  intro a' ha
  simp only [Act.put, pA, pO, pS] at ha
  subst ha
  refine wq_load S81 2 b63 0 29 16 (.tmp 26) (q4 v1 v2 v3 v4) (q4 v1 v2 v3 v4) (by kernel_rfl) rfl rfl rfl (Sub.self _) row29 rfl ?_
  intro a' ha
  simp only [Act.put, pA, pO, pS] at ha
  subst ha
  refine wq_load S81 4 b51 0 46 4 (.tmp 23) (e4 less) (e4 less) (by kernel_rfl) rfl rfl rfl (Sub.self _) row46 rfl ?_
  intro a' ha
  simp only [Act.put, pA, pO, pS] at ha
  subst ha
  refine wq_load S81 6 b41 0 46 4 (.tmp 21) (e4 one) (e4 one) (by kernel_rfl) rfl rfl rfl (Sub.self _) row46 rfl ?_
  intro a' ha
  simp only [Act.put, pA, pO, pS] at ha
  subst ha
  refine wq_call hZ S81 H21 (by kernel_rfl) (fun _ => by kernel_rfl) ?_
  intro a' ha
  simp only [Act.put, pA, pO, pS] at ha
  subst ha
  refine wq_call hZ S81 H22 (by kernel_rfl) (fun _ => by kernel_rfl) ?_
  intro a' ha
  simp only [Act.put, pA, pO, pS] at ha
  subst ha
  refine wq_call hZ S81 H23 (by kernel_rfl) (fun _ => by kernel_rfl) ?_
  intro a' ha
  simp only [Act.put, pA, pO, pS] at ha
  subst ha
  refine wq_pure (.bool true) rfl (fun _ => by kernel_rfl) ?_
  intro a' ha
  simp only [Act.put, pA, pO, pS] at ha
  subst ha
  refine wq_pure (.bool true) rfl (fun _ => by kernel_rfl) ?_
  intro a' ha
  simp only [Act.put, pA, pO, pS] at ha
  subst ha
  refine wq_call hZ S81 H24 (by kernel_rfl) (fun _ => by kernel_rfl) ?_
  intro a' ha
  simp only [Act.put, pA, pO, pS] at ha
  subst ha
  refine wq_pure (.bool true) rfl (fun _ => by kernel_rfl) ?_
  intro a' ha
  simp only [Act.put, pA, pO, pS] at ha
  subst ha
  refine wq_pure (.bool true) rfl (fun _ => by kernel_rfl) ?_
  intro a' ha
  simp only [Act.put, pA, pO, pS] at ha
  subst ha
  refine wq_nil ?_
  intro W82 S83
  refine hK _ _ ?_
  clear hK K
  refine wp_ret ?_
  exact fin_tmp S83 rfl rfl rfl
theorem laws_1y {Z : World → Prop} (hZ : Keeps Z) {x1 y1 z1 t1 x2 y2 z2 t2 x3 y3 z3 t3 a b one less v1 v2 v3 v4 v5 v6 v7 v8 v9 v10 v11 v12 v13 v14 v15 v16 v17 v18 v19 v20 v21 v22 v23 v24 v25 v26 v27 v28 v29 v30 v31 v32 v33 v34 v35 v36 v37 v38 v39 v40 v41 v42 : Nat} {r s t m n : ByteArray} {f g : Int} (H1 : Ret Z 9 #[.string r] (.tuple #[pv x1 y1 z1 t1, .int .i64 0])) (H2 : Ret Z 9 #[.string s] (.tuple #[pv x2 y2 z2 t2, .int .i64 f])) (H3 : Ret Z 9 #[.string t] (.tuple #[pv x3 y3 z3 t3, .int .i64 g])) (H4 : Ret Z 17 #[.string m] (.tuple #[wd a, .int .i64 0])) (H5 : Ret Z 17 #[.string n] (.tuple #[wd b, .int .i64 0])) (H6 : Ret Z 17 #[.string ((⟨#[1]⟩ : ByteArray) ++ ((zs 31) : ByteArray))] (.tuple #[wd one, .int .i64 0])) (H7 : Ret Z 17 #[.string ((((⟨#[236, 211, 245, 92, 26, 99, 18, 88, 214, 156, 247, 162, 222, 249, 222, 20]⟩ : ByteArray) ++ ((zs 15) : ByteArray)) : ByteArray) ++ (⟨#[16]⟩ : ByteArray))] (.tuple #[wd less, .int .i64 0])) (H8 : Ret Z 26 #[] (pv v1 v2 v3 v4)) (H9 : Ret Z 21 #[pv v1 v2 v3 v4, wd a, wd 0] (pv v5 v6 v7 v8)) (H10 : Ret Z 21 #[pv v1 v2 v3 v4, wd 0, wd b] (pv v9 v10 v11 v12)) (H11 : Ret Z 18 #[pv v5 v6 v7 v8, pv v9 v10 v11 v12] (pv v13 v14 v15 v16)) (H12 : Ret Z 21 #[pv v1 v2 v3 v4, wd a, wd b] (pv v17 v18 v19 v20)) (H13 : Ret Z 14 #[pv v13 v14 v15 v16, pv v17 v18 v19 v20] (.bool true)) (H14 : Ret Z 27 #[wd a, wd one, wd b] (wd v21)) (H15 : Ret Z 21 #[pv v1 v2 v3 v4, wd v21, wd 0] (pv v22 v23 v24 v25)) (H16 : Ret Z 14 #[pv v13 v14 v15 v16, pv v22 v23 v24 v25] (.bool true)) (H17 : Ret Z 21 #[pv v5 v6 v7 v8, wd b, wd 0] (pv v26 v27 v28 v29)) (H18 : Ret Z 27 #[wd a, wd b, wd 0] (wd v30)) (H19 : Ret Z 21 #[pv v1 v2 v3 v4, wd v30, wd 0] (pv v31 v32 v33 v34)) (H20 : Ret Z 14 #[pv v26 v27 v28 v29, pv v31 v32 v33 v34] (.bool true)) (H21 : Ret Z 21 #[pv v1 v2 v3 v4, wd less, wd one] (pv v35 v36 v37 v38)) (H22 : Ret Z 25 #[] (pv v39 v40 v41 v42)) (H23 : Ret Z 14 #[pv v35 v36 v37 v38, pv v39 v40 v41 v42] (.bool true)) (H24 : Ret Z 8 #[] (.bool true)) (hq1 : decide (f = 0) = false) : Ret Z 6 #[.string r, .string s, .string t, .string m, .string n] (.bool true) := by
  intro w hw
  have S := St.refl hw
  go_enter Tryd.func6, Tryd.ntmps6
  refine wp_seq_k fun K hK => ?_
  refine wr_list ?_
  refine wl_pure (.bool false) rfl (fun _ => by kernel_rfl) ?_
  intro a' ha
  simp only [Act.put, pA, pO, pS] at ha
  subst ha
  refine wl_nil (hK _ _ ?_)
  clear hK K
  refine wp_seq_k fun K hK => ?_
  refine wr_list ?_
  refine wl_pure (.string r) rfl (fun _ => by kernel_rfl) ?_
  intro a' ha
  simp only [Act.put, pA, pO, pS] at ha
  subst ha
  refine wl_call hZ S H1 rfl (fun _ => by kernel_rfl) ?_
  intro W1 a' S2 ha
  simp only [Act.put, pA, pO, pS] at ha
  subst ha
  refine wl_pure (.tuple #[pv x1 y1 z1 t1, .int .i64 0]) rfl (fun _ => by kernel_rfl) ?_
  intro a' ha
  simp only [Act.put, pA, pO, pS] at ha
  subst ha
  refine wl_pure (pv x1 y1 z1 t1) rfl (fun _ => by kernel_rfl) ?_
  intro a' ha
  simp only [Act.put, pA, pO, pS] at ha
  subst ha
  refine wl_pure (.int .i64 0) rfl (fun _ => by kernel_rfl) ?_
  intro a' ha
  simp only [Act.put, pA, pO, pS] at ha
  subst ha
  refine wl_alloc S2 (q4 0 0 0 0) 29 rfl (fun _ => by kernel_rfl) ?_
  intro b3 W4 a' S5 ha
  simp only [Act.put, pA, pO, pS] at ha
  subst ha
  refine wl_store S5 0 b3 29 16 (.tmp 11) (.tmp 32) (q4 0 0 0 0) (q4 x1 y1 z1 t1) rfl rfl rfl rfl rfl row29 rfl rfl (q4_one _ _ _ _) ?_
  intro W6 a' S7 ha
  simp only [Act.put, pA, pO, pS] at ha
  subst ha
  refine wl_pure (.int .i64 0) rfl (fun _ => by kernel_rfl) ?_
  intro a' ha
  simp only [Act.put, pA, pO, pS] at ha
  subst ha
  refine wl_nil (hK _ _ ?_)
  clear hK K
  refine wp_seq_k fun K hK => ?_
  refine wr_list ?_
  refine wl_pure (.string s) rfl (fun _ => by kernel_rfl) ?_
  intro a' ha
  simp only [Act.put, pA, pO, pS] at ha
  subst ha
  refine wl_call hZ S7 H2 rfl (fun _ => by kernel_rfl) ?_
  intro W8 a' S9 ha
  simp only [Act.put, pA, pO, pS] at ha
  subst ha
  refine wl_pure (.tuple #[pv x2 y2 z2 t2, .int .i64 f]) rfl (fun _ => by kernel_rfl) ?_
  intro a' ha
  simp only [Act.put, pA, pO, pS] at ha
  subst ha
  refine wl_pure (pv x2 y2 z2 t2) rfl (fun _ => by kernel_rfl) ?_
  intro a' ha
  simp only [Act.put, pA, pO, pS] at ha
  subst ha
  refine wl_pure (.int .i64 f) rfl (fun _ => by kernel_rfl) ?_
  intro a' ha
  simp only [Act.put, pA, pO, pS] at ha
  subst ha
  refine wl_alloc S9 (q4 0 0 0 0) 29 rfl (fun _ => by kernel_rfl) ?_
  intro b10 W11 a' S12 ha
  simp only [Act.put, pA, pO, pS] at ha
  subst ha
  refine wl_store S12 0 b10 29 16 (.tmp 13) (.tmp 37) (q4 0 0 0 0) (q4 x2 y2 z2 t2) rfl rfl rfl rfl rfl row29 rfl rfl (q4_one _ _ _ _) ?_
  intro W13 a' S14 ha
  simp only [Act.put, pA, pO, pS] at ha
  subst ha
  refine wl_pure (.int .i64 f) rfl (fun _ => by kernel_rfl) ?_
  intro a' ha
  simp only [Act.put, pA, pO, pS] at ha
  subst ha
  refine wl_nil (hK _ _ ?_)
  clear hK K
  refine wp_seq_k fun K hK => ?_
  refine wr_list ?_
  refine wl_pure (.string t) rfl (fun _ => by kernel_rfl) ?_
  intro a' ha
  simp only [Act.put, pA, pO, pS] at ha
  subst ha
  refine wl_call hZ S14 H3 rfl (fun _ => by kernel_rfl) ?_
  intro W15 a' S16 ha
  simp only [Act.put, pA, pO, pS] at ha
  subst ha
  refine wl_pure (.tuple #[pv x3 y3 z3 t3, .int .i64 g]) rfl (fun _ => by kernel_rfl) ?_
  intro a' ha
  simp only [Act.put, pA, pO, pS] at ha
  subst ha
  refine wl_pure (pv x3 y3 z3 t3) rfl (fun _ => by kernel_rfl) ?_
  intro a' ha
  simp only [Act.put, pA, pO, pS] at ha
  subst ha
  refine wl_pure (.int .i64 g) rfl (fun _ => by kernel_rfl) ?_
  intro a' ha
  simp only [Act.put, pA, pO, pS] at ha
  subst ha
  refine wl_alloc S16 (q4 0 0 0 0) 29 rfl (fun _ => by kernel_rfl) ?_
  intro b17 W18 a' S19 ha
  simp only [Act.put, pA, pO, pS] at ha
  subst ha
  refine wl_store S19 0 b17 29 16 (.tmp 15) (.tmp 42) (q4 0 0 0 0) (q4 x3 y3 z3 t3) rfl rfl rfl rfl rfl row29 rfl rfl (q4_one _ _ _ _) ?_
  intro W20 a' S21 ha
  simp only [Act.put, pA, pO, pS] at ha
  subst ha
  refine wl_pure (.int .i64 g) rfl (fun _ => by kernel_rfl) ?_
  intro a' ha
  simp only [Act.put, pA, pO, pS] at ha
  subst ha
  refine wl_nil (hK _ _ ?_)
  clear hK K
  refine wp_seq_k fun K hK => ?_
  refine wp_seq_k fun K hK => ?_
  refine wr_list ?_
  refine wl_pure (.int .i64 0) rfl (fun _ => by kernel_rfl) ?_
  intro a' ha
  simp only [Act.put, pA, pO, pS] at ha
  subst ha
  refine wl_pure (.bool true) rfl (fun _ => by kernel_rfl) ?_
  intro a' ha
  simp only [Act.put, pA, pO, pS] at ha
  subst ha
  refine wl_pure (.bool true) rfl (fun _ => by kernel_rfl) ?_
  intro a' ha
  simp only [Act.put, pA, pO, pS] at ha
  subst ha
  refine wl_pure (.int .i64 f) (by kernel_rfl) (fun _ => by kernel_rfl) ?_
  intro a' ha
  simp only [Act.put, pA, pO, pS] at ha
  subst ha
  refine wl_pure (.bool false) (by kernel_rfl) (fun _ => (show (execOp _ _).run Tryd.prog _ = .ok (.value (.bool (decide (f = 0)))) _ from by kernel_rfl).trans (by rw [hq1])) ?_
  intro a' ha
  simp only [Act.put, pA, pO, pS] at ha
  subst ha
  refine wl_pure (.bool false) rfl (fun _ => by kernel_rfl) ?_
  intro a' ha
  simp only [Act.put, pA, pO, pS] at ha
  subst ha
  refine wl_pure (.bool false) rfl (fun _ => by kernel_rfl) ?_
  intro a' ha
  simp only [Act.put, pA, pO, pS] at ha
  subst ha
  refine wl_skip (by kernel_rfl) ?_
  intro a' ha
  simp only [Act.put, pA, pO, pS] at ha
  subst ha
  refine wl_skip (by kernel_rfl) ?_
  intro a' ha
  simp only [Act.put, pA, pO, pS] at ha
  subst ha
  refine wl_pure (.bool false) rfl (fun _ => by kernel_rfl) ?_
  intro a' ha
  simp only [Act.put, pA, pO, pS] at ha
  subst ha
  refine wl_nil (hK _ _ ?_)
  clear hK K
  refine wp_cond_false rfl ?_
  refine wp_skip (hK _ _ ?_)
  clear hK K
  refine wp_seq_k fun K hK => ?_
  refine wr_list ?_
  refine wl_pure (.string m) rfl (fun _ => by kernel_rfl) ?_
  intro a' ha
  simp only [Act.put, pA, pO, pS] at ha
  subst ha
  refine wl_call hZ S21 H4 rfl (fun _ => by kernel_rfl) ?_
  intro W22 a' S23 ha
  simp only [Act.put, pA, pO, pS] at ha
  subst ha
  refine wl_pure (.tuple #[wd a, .int .i64 0]) rfl (fun _ => by kernel_rfl) ?_
  intro a' ha
  simp only [Act.put, pA, pO, pS] at ha
  subst ha
  refine wl_pure (wd a) rfl (fun _ => by kernel_rfl) ?_
  intro a' ha
  simp only [Act.put, pA, pO, pS] at ha
  subst ha
  refine wl_pure (.int .i64 0) rfl (fun _ => by kernel_rfl) ?_
  intro a' ha
  simp only [Act.put, pA, pO, pS] at ha
  subst ha
  refine wl_alloc S23 (e4 0) 46 rfl (fun _ => by kernel_rfl) ?_
  intro b24 W25 a' S26 ha
  simp only [Act.put, pA, pO, pS] at ha
  subst ha
  refine wl_store S26 0 b24 46 4 (.tmp 17) (.tmp 96) (e4 0) (e4 a) rfl rfl rfl rfl rfl row46 rfl rfl (e4_one _) ?_
  intro W27 a' S28 ha
  simp only [Act.put, pA, pO, pS] at ha
  subst ha
  refine wl_pure (.int .i64 0) rfl (fun _ => by kernel_rfl) ?_
  intro a' ha
  simp only [Act.put, pA, pO, pS] at ha
  subst ha
  refine wl_nil (hK _ _ ?_)
  clear hK K
  refine wp_seq_k fun K hK => ?_
  refine wr_list ?_
  refine wl_pure (.string n) rfl (fun _ => by kernel_rfl) ?_
  intro a' ha
  simp only [Act.put, pA, pO, pS] at ha
  subst ha
  refine wl_call hZ S28 H5 rfl (fun _ => by kernel_rfl) ?_
  intro W29 a' S30 ha
  simp only [Act.put, pA, pO, pS] at ha
  subst ha
  refine wl_pure (.tuple #[wd b, .int .i64 0]) rfl (fun _ => by kernel_rfl) ?_
  intro a' ha
  simp only [Act.put, pA, pO, pS] at ha
  subst ha
  refine wl_pure (wd b) rfl (fun _ => by kernel_rfl) ?_
  intro a' ha
  simp only [Act.put, pA, pO, pS] at ha
  subst ha
  refine wl_pure (.int .i64 0) rfl (fun _ => by kernel_rfl) ?_
  intro a' ha
  simp only [Act.put, pA, pO, pS] at ha
  subst ha
  refine wl_alloc S30 (e4 0) 46 rfl (fun _ => by kernel_rfl) ?_
  intro b31 W32 a' S33 ha
  simp only [Act.put, pA, pO, pS] at ha
  subst ha
  refine wl_store S33 0 b31 46 4 (.tmp 19) (.tmp 101) (e4 0) (e4 b) rfl rfl rfl rfl rfl row46 rfl rfl (e4_one _) ?_
  intro W34 a' S35 ha
  simp only [Act.put, pA, pO, pS] at ha
  subst ha
  refine wl_pure (.int .i64 0) rfl (fun _ => by kernel_rfl) ?_
  intro a' ha
  simp only [Act.put, pA, pO, pS] at ha
  subst ha
  refine wl_nil (hK _ _ ?_)
  clear hK K
  refine wp_seq_k fun K hK => ?_
  refine wp_seq_k fun K hK => ?_
  refine wr_list ?_
  refine wl_pure (.int .i64 0) rfl (fun _ => by kernel_rfl) ?_
  intro a' ha
  simp only [Act.put, pA, pO, pS] at ha
  subst ha
  refine wl_pure (.bool false) rfl (fun _ => by kernel_rfl) ?_
  intro a' ha
  simp only [Act.put, pA, pO, pS] at ha
  subst ha
  refine wl_pure (.bool false) rfl (fun _ => by kernel_rfl) ?_
  intro a' ha
  simp only [Act.put, pA, pO, pS] at ha
  subst ha
  refine wl_pure (.int .i64 0) (by kernel_rfl) (fun _ => by kernel_rfl) ?_
  intro a' ha
  simp only [Act.put, pA, pO, pS] at ha
  subst ha
  refine wl_pure (.bool false) (by kernel_rfl) (fun _ => by kernel_rfl) ?_
  intro a' ha
  simp only [Act.put, pA, pO, pS] at ha
  subst ha
  refine wl_pure (.bool false) rfl (fun _ => by kernel_rfl) ?_
  intro a' ha
  simp only [Act.put, pA, pO, pS] at ha
  subst ha
  refine wl_nil (hK _ _ ?_)
  clear hK K
  refine wp_cond_false rfl ?_
  refine wp_skip (hK _ _ ?_)
  clear hK K
  refine wp_seq_k fun K hK => ?_
  refine wr_list ?_
  refine wl_make S35 31 rfl (fun _ => by kernel_rfl) ?_
  intro b36 W37 a' S38 ha
  simp only [Act.put, pA, pO, pS] at ha
  subst ha
  refine wl_textz S38 0 b36 31 (.tmp 111) rfl rfl rfl rfl ?_
  intro a' ha
  simp only [Act.put, pA, pO, pS] at ha
  subst ha
  refine wl_pure (.string ((⟨#[1]⟩ : ByteArray) ++ ((zs 31) : ByteArray))) rfl (fun _ => by kernel_rfl) ?_
  intro a' ha
  simp only [Act.put, pA, pO, pS] at ha
  subst ha
  refine wl_call hZ S38 H6 rfl (fun _ => by kernel_rfl) ?_
  intro W39 a' S40 ha
  simp only [Act.put, pA, pO, pS] at ha
  subst ha
  refine wl_pure (.tuple #[wd one, .int .i64 0]) rfl (fun _ => by kernel_rfl) ?_
  intro a' ha
  simp only [Act.put, pA, pO, pS] at ha
  subst ha
  refine wl_pure (wd one) rfl (fun _ => by kernel_rfl) ?_
  intro a' ha
  simp only [Act.put, pA, pO, pS] at ha
  subst ha
  refine wl_pure (.int .i64 0) rfl (fun _ => by kernel_rfl) ?_
  intro a' ha
  simp only [Act.put, pA, pO, pS] at ha
  subst ha
  refine wl_alloc S40 (e4 0) 46 rfl (fun _ => by kernel_rfl) ?_
  intro b41 W42 a' S43 ha
  simp only [Act.put, pA, pO, pS] at ha
  subst ha
  refine wl_store S43 0 b41 46 4 (.tmp 21) (.tmp 115) (e4 0) (e4 one) rfl rfl rfl rfl rfl row46 rfl rfl (e4_one _) ?_
  intro W44 a' S45 ha
  simp only [Act.put, pA, pO, pS] at ha
  subst ha
  refine wl_pure (.int .i64 0) rfl (fun _ => by kernel_rfl) ?_
  intro a' ha
  simp only [Act.put, pA, pO, pS] at ha
  subst ha
  refine wl_nil (hK _ _ ?_)
  clear hK K
  refine wp_seq_k fun K hK => ?_
  refine wr_list ?_
  refine wl_make S45 15 rfl (fun _ => by kernel_rfl) ?_
  intro b46 W47 a' S48 ha
  simp only [Act.put, pA, pO, pS] at ha
  subst ha
  refine wl_textz S48 0 b46 15 (.tmp 118) rfl rfl rfl rfl ?_
  intro a' ha
  simp only [Act.put, pA, pO, pS] at ha
  subst ha
  refine wl_pure (.string ((⟨#[236, 211, 245, 92, 26, 99, 18, 88, 214, 156, 247, 162, 222, 249, 222, 20]⟩ : ByteArray) ++ ((zs 15) : ByteArray))) rfl (fun _ => by kernel_rfl) ?_
  intro a' ha
  simp only [Act.put, pA, pO, pS] at ha
  subst ha
  refine wl_pure (.string ((((⟨#[236, 211, 245, 92, 26, 99, 18, 88, 214, 156, 247, 162, 222, 249, 222, 20]⟩ : ByteArray) ++ ((zs 15) : ByteArray)) : ByteArray) ++ (⟨#[16]⟩ : ByteArray))) rfl (fun _ => by kernel_rfl) ?_
  intro a' ha
  simp only [Act.put, pA, pO, pS] at ha
  subst ha
  refine wl_call hZ S48 H7 rfl (fun _ => by kernel_rfl) ?_
  intro W49 a' S50 ha
  simp only [Act.put, pA, pO, pS] at ha
  subst ha
  refine wl_pure (.tuple #[wd less, .int .i64 0]) rfl (fun _ => by kernel_rfl) ?_
  intro a' ha
  simp only [Act.put, pA, pO, pS] at ha
  subst ha
  refine wl_pure (wd less) rfl (fun _ => by kernel_rfl) ?_
  intro a' ha
  simp only [Act.put, pA, pO, pS] at ha
  subst ha
  refine wl_pure (.int .i64 0) rfl (fun _ => by kernel_rfl) ?_
  intro a' ha
  simp only [Act.put, pA, pO, pS] at ha
  subst ha
  refine wl_alloc S50 (e4 0) 46 rfl (fun _ => by kernel_rfl) ?_
  intro b51 W52 a' S53 ha
  simp only [Act.put, pA, pO, pS] at ha
  subst ha
  refine wl_store S53 0 b51 46 4 (.tmp 23) (.tmp 123) (e4 0) (e4 less) rfl rfl rfl rfl rfl row46 rfl rfl (e4_one _) ?_
  intro W54 a' S55 ha
  simp only [Act.put, pA, pO, pS] at ha
  subst ha
  refine wl_pure (.int .i64 0) rfl (fun _ => by kernel_rfl) ?_
  intro a' ha
  simp only [Act.put, pA, pO, pS] at ha
  subst ha
  refine wl_nil (hK _ _ ?_)
  clear hK K
  refine wp_seq_k fun K hK => ?_
  refine wr_list ?_
  refine wl_pure (.agg (e4 0)) rfl (fun _ => by kernel_rfl) ?_
  intro a' ha
  simp only [Act.put, pA, pO, pS] at ha
  subst ha
  refine wl_alloc S55 (e4 0) 46 rfl (fun _ => by kernel_rfl) ?_
  intro b56 W57 a' S58 ha
  simp only [Act.put, pA, pO, pS] at ha
  subst ha
  refine wl_store S58 0 b56 46 4 (.tmp 25) (.tmp 125) (e4 0) (e4 0) rfl rfl rfl rfl rfl row46 rfl rfl (e4_one _) ?_
  intro W59 a' S60 ha
  simp only [Act.put, pA, pO, pS] at ha
  subst ha
  refine wl_nil (hK _ _ ?_)
  clear hK K
  refine wp_seq_k fun K hK => ?_
  refine wr_list ?_
  refine wl_call hZ S60 H8 rfl (fun _ => by kernel_rfl) ?_
  intro W61 a' S62 ha
  simp only [Act.put, pA, pO, pS] at ha
  subst ha
  refine wl_alloc S62 (q4 0 0 0 0) 29 rfl (fun _ => by kernel_rfl) ?_
  intro b63 W64 a' S65 ha
  simp only [Act.put, pA, pO, pS] at ha
  subst ha
  refine wl_store S65 0 b63 29 16 (.tmp 26) (.tmp 126) (q4 0 0 0 0) (q4 v1 v2 v3 v4) rfl rfl rfl rfl rfl row29 rfl rfl (q4_one _ _ _ _) ?_
  intro W66 a' S67 ha
  simp only [Act.put, pA, pO, pS] at ha
  subst ha
  refine wl_nil (hK _ _ ?_)
  clear hK K
  refine wp_seq_k fun K hK => ?_
  refine wr_list ?_
  refine wl_load S67 0 b63 0 29 16 (.tmp 26) (q4 v1 v2 v3 v4) (q4 v1 v2 v3 v4) rfl rfl rfl rfl (Sub.self _) row29 rfl ?_
  intro a' ha
  simp only [Act.put, pA, pO, pS] at ha
  subst ha
  refine wl_load S67 7 b24 0 46 4 (.tmp 17) (e4 a) (e4 a) rfl rfl rfl rfl (Sub.self _) row46 rfl ?_
  intro a' ha
  simp only [Act.put, pA, pO, pS] at ha
  subst ha
  refine wl_load S67 1 b56 0 46 4 (.tmp 25) (e4 0) (e4 0) rfl rfl rfl rfl (Sub.self _) row46 rfl ?_
  intro a' ha
  simp only [Act.put, pA, pO, pS] at ha
  subst ha
  refine wl_call hZ S67 H9 rfl (fun _ => by kernel_rfl) ?_
  intro W68 a' S69 ha
  simp only [Act.put, pA, pO, pS] at ha
  subst ha
  refine wl_alloc S69 (q4 0 0 0 0) 29 rfl (fun _ => by kernel_rfl) ?_
  intro b70 W71 a' S72 ha
  simp only [Act.put, pA, pO, pS] at ha
  subst ha
  refine wl_store S72 0 b70 29 16 (.tmp 27) (.tmp 130) (q4 0 0 0 0) (q4 v5 v6 v7 v8) rfl rfl rfl rfl rfl row29 rfl rfl (q4_one _ _ _ _) ?_
  intro W73 a' S74 ha
  simp only [Act.put, pA, pO, pS] at ha
  subst ha
  refine wl_nil (hK _ _ ?_)
  clear hK K
  refine wp_seq_k fun K hK => ?_
  refine wr_list ?_
  refine wl_load S74 1 b63 0 29 16 (.tmp 26) (q4 v1 v2 v3 v4) (q4 v1 v2 v3 v4) rfl rfl rfl rfl (Sub.self _) row29 rfl ?_
  intro a' ha
  simp only [Act.put, pA, pO, pS] at ha
  subst ha
  refine wl_load S74 2 b56 0 46 4 (.tmp 25) (e4 0) (e4 0) rfl rfl rfl rfl (Sub.self _) row46 rfl ?_
  intro a' ha
  simp only [Act.put, pA, pO, pS] at ha
  subst ha
  refine wl_load S74 7 b31 0 46 4 (.tmp 19) (e4 b) (e4 b) rfl rfl rfl rfl (Sub.self _) row46 rfl ?_
  intro a' ha
  simp only [Act.put, pA, pO, pS] at ha
  subst ha
  refine wl_call hZ S74 H10 rfl (fun _ => by kernel_rfl) ?_
  intro W75 a' S76 ha
  simp only [Act.put, pA, pO, pS] at ha
  subst ha
  refine wl_alloc S76 (q4 0 0 0 0) 29 rfl (fun _ => by kernel_rfl) ?_
  intro b77 W78 a' S79 ha
  simp only [Act.put, pA, pO, pS] at ha
  subst ha
  refine wl_store S79 0 b77 29 16 (.tmp 28) (.tmp 134) (q4 0 0 0 0) (q4 v9 v10 v11 v12) rfl rfl rfl rfl rfl row29 rfl rfl (q4_one _ _ _ _) ?_
  intro W80 a' S81 ha
  simp only [Act.put, pA, pO, pS] at ha
  subst ha
  refine wl_nil (hK _ _ ?_)
  clear hK K
  refine wp_seq_k fun K hK => ?_
  refine wr_ext S81 (by kernel_rfl) (by kernel_rfl) ?_
  refine wq_load S81 1 b70 0 29 16 (.tmp 27) (q4 v5 v6 v7 v8) (q4 v5 v6 v7 v8) rfl rfl rfl rfl (Sub.self _) row29 rfl ?_
  intro a' ha
  simp only [Act.put, pA, pO, pS] at ha
  subst ha
  refine wq_load S81 0 b77 0 29 16 (.tmp 28) (q4 v9 v10 v11 v12) (q4 v9 v10 v11 v12) rfl rfl rfl rfl (Sub.self _) row29 rfl ?_
  intro a' ha
  simp only [Act.put, pA, pO, pS] at ha
  subst ha
  refine wq_call hZ S81 H11 rfl (fun _ => by kernel_rfl) ?_
  intro a' ha
  simp only [Act.put, pA, pO, pS] at ha
  subst ha
  refine wq_load S81 2 b63 0 29 16 (.tmp 26) (q4 v1 v2 v3 v4) (q4 v1 v2 v3 v4) rfl rfl rfl rfl (Sub.self _) row29 rfl ?_
  intro a' ha
  simp only [Act.put, pA, pO, pS] at ha
  subst ha
  refine wq_load S81 9 b24 0 46 4 (.tmp 17) (e4 a) (e4 a) rfl rfl rfl rfl (Sub.self _) row46 rfl ?_
  intro a' ha
  simp only [Act.put, pA, pO, pS] at ha
  subst ha
  refine wq_load S81 8 b31 0 46 4 (.tmp 19) (e4 b) (e4 b) rfl rfl rfl rfl (Sub.self _) row46 rfl ?_
  intro a' ha
  simp only [Act.put, pA, pO, pS] at ha
  subst ha
  refine wq_call hZ S81 H12 rfl (fun _ => by kernel_rfl) ?_
  intro a' ha
  simp only [Act.put, pA, pO, pS] at ha
  subst ha
  refine wq_call hZ S81 H13 rfl (fun _ => by kernel_rfl) ?_
  intro a' ha
  simp only [Act.put, pA, pO, pS] at ha
  subst ha
  refine wq_pure (.bool true) rfl (fun _ => by kernel_rfl) ?_
  intro a' ha
  simp only [Act.put, pA, pO, pS] at ha
  subst ha
  refine wq_load S81 1 b70 0 29 16 (.tmp 27) (q4 v5 v6 v7 v8) (q4 v5 v6 v7 v8) (by kernel_rfl) rfl rfl rfl (Sub.self _) row29 rfl ?_
  intro a' ha
  simp only [Act.put, pA, pO, pS] at ha
  subst ha
  refine wq_load S81 0 b77 0 29 16 (.tmp 28) (q4 v9 v10 v11 v12) (q4 v9 v10 v11 v12) (by kernel_rfl) rfl rfl rfl (Sub.self _) row29 rfl ?_
  intro a' ha
  simp only [Act.put, pA, pO, pS] at ha
  subst ha
  refine wq_call hZ S81 H11 (by kernel_rfl) (fun _ => by kernel_rfl) ?_
  intro a' ha
  simp only [Act.put, pA, pO, pS] at ha
  subst ha
  refine wq_load S81 2 b63 0 29 16 (.tmp 26) (q4 v1 v2 v3 v4) (q4 v1 v2 v3 v4) (by kernel_rfl) rfl rfl rfl (Sub.self _) row29 rfl ?_
  intro a' ha
  simp only [Act.put, pA, pO, pS] at ha
  subst ha
  refine wq_load S81 9 b24 0 46 4 (.tmp 17) (e4 a) (e4 a) (by kernel_rfl) rfl rfl rfl (Sub.self _) row46 rfl ?_
  intro a' ha
  simp only [Act.put, pA, pO, pS] at ha
  subst ha
  refine wq_load S81 6 b41 0 46 4 (.tmp 21) (e4 one) (e4 one) (by kernel_rfl) rfl rfl rfl (Sub.self _) row46 rfl ?_
  intro a' ha
  simp only [Act.put, pA, pO, pS] at ha
  subst ha
  refine wq_load S81 8 b31 0 46 4 (.tmp 19) (e4 b) (e4 b) (by kernel_rfl) rfl rfl rfl (Sub.self _) row46 rfl ?_
  intro a' ha
  simp only [Act.put, pA, pO, pS] at ha
  subst ha
  refine wq_call hZ S81 H14 (by kernel_rfl) (fun _ => by kernel_rfl) ?_
  intro a' ha
  simp only [Act.put, pA, pO, pS] at ha
  subst ha
  refine wq_load S81 3 b56 0 46 4 (.tmp 25) (e4 0) (e4 0) (by kernel_rfl) rfl rfl rfl (Sub.self _) row46 rfl ?_
  intro a' ha
  simp only [Act.put, pA, pO, pS] at ha
  subst ha
  refine wq_call hZ S81 H15 (by kernel_rfl) (fun _ => by kernel_rfl) ?_
  intro a' ha
  simp only [Act.put, pA, pO, pS] at ha
  subst ha
  refine wq_call hZ S81 H16 (by kernel_rfl) (fun _ => by kernel_rfl) ?_
  intro a' ha
  simp only [Act.put, pA, pO, pS] at ha
  subst ha
  refine wq_pure (.bool true) rfl (fun _ => by kernel_rfl) ?_
  intro a' ha
  simp only [Act.put, pA, pO, pS] at ha
  subst ha
  refine wq_pure (.bool true) rfl (fun _ => by kernel_rfl) ?_
  intro a' ha
  simp only [Act.put, pA, pO, pS] at ha
  subst ha
  refine wq_load S81 1 b70 0 29 16 (.tmp 27) (q4 v5 v6 v7 v8) (q4 v5 v6 v7 v8) (by kernel_rfl) rfl rfl rfl (Sub.self _) row29 rfl ?_
  intro a' ha
  simp only [Act.put, pA, pO, pS] at ha
  subst ha
  refine wq_load S81 8 b31 0 46 4 (.tmp 19) (e4 b) (e4 b) (by kernel_rfl) rfl rfl rfl (Sub.self _) row46 rfl ?_
  intro a' ha
  simp only [Act.put, pA, pO, pS] at ha
  subst ha
  refine wq_load S81 3 b56 0 46 4 (.tmp 25) (e4 0) (e4 0) (by kernel_rfl) rfl rfl rfl (Sub.self _) row46 rfl ?_
  intro a' ha
  simp only [Act.put, pA, pO, pS] at ha
  subst ha
  refine wq_call hZ S81 H17 (by kernel_rfl) (fun _ => by kernel_rfl) ?_
  intro a' ha
  simp only [Act.put, pA, pO, pS] at ha
  subst ha
  refine wq_load S81 2 b63 0 29 16 (.tmp 26) (q4 v1 v2 v3 v4) (q4 v1 v2 v3 v4) (by kernel_rfl) rfl rfl rfl (Sub.self _) row29 rfl ?_
  intro a' ha
  simp only [Act.put, pA, pO, pS] at ha
  subst ha
  refine wq_load S81 9 b24 0 46 4 (.tmp 17) (e4 a) (e4 a) (by kernel_rfl) rfl rfl rfl (Sub.self _) row46 rfl ?_
  intro a' ha
  simp only [Act.put, pA, pO, pS] at ha
  subst ha
  refine wq_load S81 8 b31 0 46 4 (.tmp 19) (e4 b) (e4 b) (by kernel_rfl) rfl rfl rfl (Sub.self _) row46 rfl ?_
  intro a' ha
  simp only [Act.put, pA, pO, pS] at ha
  subst ha
  refine wq_load S81 3 b56 0 46 4 (.tmp 25) (e4 0) (e4 0) (by kernel_rfl) rfl rfl rfl (Sub.self _) row46 rfl ?_
  intro a' ha
  simp only [Act.put, pA, pO, pS] at ha
  subst ha
  refine wq_call hZ S81 H18 (by kernel_rfl) (fun _ => by kernel_rfl) ?_
  intro a' ha
  simp only [Act.put, pA, pO, pS] at ha
  subst ha
  refine wq_load S81 3 b56 0 46 4 (.tmp 25) (e4 0) (e4 0) (by kernel_rfl) rfl rfl rfl (Sub.self _) row46 rfl ?_
  intro a' ha
  simp only [Act.put, pA, pO, pS] at ha
  subst ha
  refine wq_call hZ S81 H19 (by kernel_rfl) (fun _ => by kernel_rfl) ?_
  intro a' ha
  simp only [Act.put, pA, pO, pS] at ha
  subst ha
  refine wq_call hZ S81 H20 (by kernel_rfl) (fun _ => by kernel_rfl) ?_
  intro a' ha
  simp only [Act.put, pA, pO, pS] at ha
  subst ha
  refine wq_pure (.bool true) rfl (fun _ => by kernel_rfl) ?_
  intro a' ha
  simp only [Act.put, pA, pO, pS] at ha
  subst ha
  refine wq_pure (.bool true) rfl (fun _ => by kernel_rfl) ?_
  intro a' ha
  simp only [Act.put, pA, pO, pS] at ha
  subst ha
  refine wq_load S81 2 b63 0 29 16 (.tmp 26) (q4 v1 v2 v3 v4) (q4 v1 v2 v3 v4) (by kernel_rfl) rfl rfl rfl (Sub.self _) row29 rfl ?_
  intro a' ha
  simp only [Act.put, pA, pO, pS] at ha
  subst ha
  refine wq_load S81 4 b51 0 46 4 (.tmp 23) (e4 less) (e4 less) (by kernel_rfl) rfl rfl rfl (Sub.self _) row46 rfl ?_
  intro a' ha
  simp only [Act.put, pA, pO, pS] at ha
  subst ha
  refine wq_load S81 6 b41 0 46 4 (.tmp 21) (e4 one) (e4 one) (by kernel_rfl) rfl rfl rfl (Sub.self _) row46 rfl ?_
  intro a' ha
  simp only [Act.put, pA, pO, pS] at ha
  subst ha
  refine wq_call hZ S81 H21 (by kernel_rfl) (fun _ => by kernel_rfl) ?_
  intro a' ha
  simp only [Act.put, pA, pO, pS] at ha
  subst ha
  refine wq_call hZ S81 H22 (by kernel_rfl) (fun _ => by kernel_rfl) ?_
  intro a' ha
  simp only [Act.put, pA, pO, pS] at ha
  subst ha
  refine wq_call hZ S81 H23 (by kernel_rfl) (fun _ => by kernel_rfl) ?_
  intro a' ha
  simp only [Act.put, pA, pO, pS] at ha
  subst ha
  refine wq_pure (.bool true) rfl (fun _ => by kernel_rfl) ?_
  intro a' ha
  simp only [Act.put, pA, pO, pS] at ha
  subst ha
  refine wq_pure (.bool true) rfl (fun _ => by kernel_rfl) ?_
  intro a' ha
  simp only [Act.put, pA, pO, pS] at ha
  subst ha
  refine wq_call hZ S81 H24 (by kernel_rfl) (fun _ => by kernel_rfl) ?_
  intro a' ha
  simp only [Act.put, pA, pO, pS] at ha
  subst ha
  refine wq_pure (.bool true) rfl (fun _ => by kernel_rfl) ?_
  intro a' ha
  simp only [Act.put, pA, pO, pS] at ha
  subst ha
  refine wq_pure (.bool true) rfl (fun _ => by kernel_rfl) ?_
  intro a' ha
  simp only [Act.put, pA, pO, pS] at ha
  subst ha
  refine wq_nil ?_
  intro W82 S83
  refine hK _ _ ?_
  clear hK K
  refine wp_ret ?_
  exact fin_tmp S83 rfl rfl rfl
theorem laws_2y {Z : World → Prop} (hZ : Keeps Z) {x1 y1 z1 t1 x2 y2 z2 t2 x3 y3 z3 t3 a b one less v1 v2 v3 v4 v5 v6 v7 v8 v9 v10 v11 v12 v13 v14 v15 v16 v17 v18 v19 v20 v21 v22 v23 v24 v25 v26 v27 v28 v29 v30 v31 v32 v33 v34 v35 v36 v37 v38 v39 v40 v41 v42 : Nat} {r s t m n : ByteArray} {g : Int} (H1 : Ret Z 9 #[.string r] (.tuple #[pv x1 y1 z1 t1, .int .i64 0])) (H2 : Ret Z 9 #[.string s] (.tuple #[pv x2 y2 z2 t2, .int .i64 0])) (H3 : Ret Z 9 #[.string t] (.tuple #[pv x3 y3 z3 t3, .int .i64 g])) (H4 : Ret Z 17 #[.string m] (.tuple #[wd a, .int .i64 0])) (H5 : Ret Z 17 #[.string n] (.tuple #[wd b, .int .i64 0])) (H6 : Ret Z 17 #[.string ((⟨#[1]⟩ : ByteArray) ++ ((zs 31) : ByteArray))] (.tuple #[wd one, .int .i64 0])) (H7 : Ret Z 17 #[.string ((((⟨#[236, 211, 245, 92, 26, 99, 18, 88, 214, 156, 247, 162, 222, 249, 222, 20]⟩ : ByteArray) ++ ((zs 15) : ByteArray)) : ByteArray) ++ (⟨#[16]⟩ : ByteArray))] (.tuple #[wd less, .int .i64 0])) (H8 : Ret Z 26 #[] (pv v1 v2 v3 v4)) (H9 : Ret Z 21 #[pv v1 v2 v3 v4, wd a, wd 0] (pv v5 v6 v7 v8)) (H10 : Ret Z 21 #[pv v1 v2 v3 v4, wd 0, wd b] (pv v9 v10 v11 v12)) (H11 : Ret Z 18 #[pv v5 v6 v7 v8, pv v9 v10 v11 v12] (pv v13 v14 v15 v16)) (H12 : Ret Z 21 #[pv v1 v2 v3 v4, wd a, wd b] (pv v17 v18 v19 v20)) (H13 : Ret Z 14 #[pv v13 v14 v15 v16, pv v17 v18 v19 v20] (.bool true)) (H14 : Ret Z 27 #[wd a, wd one, wd b] (wd v21)) (H15 : Ret Z 21 #[pv v1 v2 v3 v4, wd v21, wd 0] (pv v22 v23 v24 v25)) (H16 : Ret Z 14 #[pv v13 v14 v15 v16, pv v22 v23 v24 v25] (.bool true)) (H17 : Ret Z 21 #[pv v5 v6 v7 v8, wd b, wd 0] (pv v26 v27 v28 v29)) (H18 : Ret Z 27 #[wd a, wd b, wd 0] (wd v30)) (H19 : Ret Z 21 #[pv v1 v2 v3 v4, wd v30, wd 0] (pv v31 v32 v33 v34)) (H20 : Ret Z 14 #[pv v26 v27 v28 v29, pv v31 v32 v33 v34] (.bool true)) (H21 : Ret Z 21 #[pv v1 v2 v3 v4, wd less, wd one] (pv v35 v36 v37 v38)) (H22 : Ret Z 25 #[] (pv v39 v40 v41 v42)) (H23 : Ret Z 14 #[pv v35 v36 v37 v38, pv v39 v40 v41 v42] (.bool true)) (H24 : Ret Z 8 #[] (.bool true)) (hq1 : decide (g = 0) = false) : Ret Z 6 #[.string r, .string s, .string t, .string m, .string n] (.bool true) := by
  intro w hw
  have S := St.refl hw
  go_enter Tryd.func6, Tryd.ntmps6
  refine wp_seq_k fun K hK => ?_
  refine wr_list ?_
  refine wl_pure (.bool false) rfl (fun _ => by kernel_rfl) ?_
  intro a' ha
  simp only [Act.put, pA, pO, pS] at ha
  subst ha
  refine wl_nil (hK _ _ ?_)
  clear hK K
  refine wp_seq_k fun K hK => ?_
  refine wr_list ?_
  refine wl_pure (.string r) rfl (fun _ => by kernel_rfl) ?_
  intro a' ha
  simp only [Act.put, pA, pO, pS] at ha
  subst ha
  refine wl_call hZ S H1 rfl (fun _ => by kernel_rfl) ?_
  intro W1 a' S2 ha
  simp only [Act.put, pA, pO, pS] at ha
  subst ha
  refine wl_pure (.tuple #[pv x1 y1 z1 t1, .int .i64 0]) rfl (fun _ => by kernel_rfl) ?_
  intro a' ha
  simp only [Act.put, pA, pO, pS] at ha
  subst ha
  refine wl_pure (pv x1 y1 z1 t1) rfl (fun _ => by kernel_rfl) ?_
  intro a' ha
  simp only [Act.put, pA, pO, pS] at ha
  subst ha
  refine wl_pure (.int .i64 0) rfl (fun _ => by kernel_rfl) ?_
  intro a' ha
  simp only [Act.put, pA, pO, pS] at ha
  subst ha
  refine wl_alloc S2 (q4 0 0 0 0) 29 rfl (fun _ => by kernel_rfl) ?_
  intro b3 W4 a' S5 ha
  simp only [Act.put, pA, pO, pS] at ha
  subst ha
  refine wl_store S5 0 b3 29 16 (.tmp 11) (.tmp 32) (q4 0 0 0 0) (q4 x1 y1 z1 t1) rfl rfl rfl rfl rfl row29 rfl rfl (q4_one _ _ _ _) ?_
  intro W6 a' S7 ha
  simp only [Act.put, pA, pO, pS] at ha
  subst ha
  refine wl_pure (.int .i64 0) rfl (fun _ => by kernel_rfl) ?_
  intro a' ha
  simp only [Act.put, pA, pO, pS] at ha
  subst ha
  refine wl_nil (hK _ _ ?_)
  clear hK K
  refine wp_seq_k fun K hK => ?_
  refine wr_list ?_
  refine wl_pure (.string s) rfl (fun _ => by kernel_rfl) ?_
  intro a' ha
  simp only [Act.put, pA, pO, pS] at ha
  subst ha
  refine wl_call hZ S7 H2 rfl (fun _ => by kernel_rfl) ?_
  intro W8 a' S9 ha
  simp only [Act.put, pA, pO, pS] at ha
  subst ha
  refine wl_pure (.tuple #[pv x2 y2 z2 t2, .int .i64 0]) rfl (fun _ => by kernel_rfl) ?_
  intro a' ha
  simp only [Act.put, pA, pO, pS] at ha
  subst ha
  refine wl_pure (pv x2 y2 z2 t2) rfl (fun _ => by kernel_rfl) ?_
  intro a' ha
  simp only [Act.put, pA, pO, pS] at ha
  subst ha
  refine wl_pure (.int .i64 0) rfl (fun _ => by kernel_rfl) ?_
  intro a' ha
  simp only [Act.put, pA, pO, pS] at ha
  subst ha
  refine wl_alloc S9 (q4 0 0 0 0) 29 rfl (fun _ => by kernel_rfl) ?_
  intro b10 W11 a' S12 ha
  simp only [Act.put, pA, pO, pS] at ha
  subst ha
  refine wl_store S12 0 b10 29 16 (.tmp 13) (.tmp 37) (q4 0 0 0 0) (q4 x2 y2 z2 t2) rfl rfl rfl rfl rfl row29 rfl rfl (q4_one _ _ _ _) ?_
  intro W13 a' S14 ha
  simp only [Act.put, pA, pO, pS] at ha
  subst ha
  refine wl_pure (.int .i64 0) rfl (fun _ => by kernel_rfl) ?_
  intro a' ha
  simp only [Act.put, pA, pO, pS] at ha
  subst ha
  refine wl_nil (hK _ _ ?_)
  clear hK K
  refine wp_seq_k fun K hK => ?_
  refine wr_list ?_
  refine wl_pure (.string t) rfl (fun _ => by kernel_rfl) ?_
  intro a' ha
  simp only [Act.put, pA, pO, pS] at ha
  subst ha
  refine wl_call hZ S14 H3 rfl (fun _ => by kernel_rfl) ?_
  intro W15 a' S16 ha
  simp only [Act.put, pA, pO, pS] at ha
  subst ha
  refine wl_pure (.tuple #[pv x3 y3 z3 t3, .int .i64 g]) rfl (fun _ => by kernel_rfl) ?_
  intro a' ha
  simp only [Act.put, pA, pO, pS] at ha
  subst ha
  refine wl_pure (pv x3 y3 z3 t3) rfl (fun _ => by kernel_rfl) ?_
  intro a' ha
  simp only [Act.put, pA, pO, pS] at ha
  subst ha
  refine wl_pure (.int .i64 g) rfl (fun _ => by kernel_rfl) ?_
  intro a' ha
  simp only [Act.put, pA, pO, pS] at ha
  subst ha
  refine wl_alloc S16 (q4 0 0 0 0) 29 rfl (fun _ => by kernel_rfl) ?_
  intro b17 W18 a' S19 ha
  simp only [Act.put, pA, pO, pS] at ha
  subst ha
  refine wl_store S19 0 b17 29 16 (.tmp 15) (.tmp 42) (q4 0 0 0 0) (q4 x3 y3 z3 t3) rfl rfl rfl rfl rfl row29 rfl rfl (q4_one _ _ _ _) ?_
  intro W20 a' S21 ha
  simp only [Act.put, pA, pO, pS] at ha
  subst ha
  refine wl_pure (.int .i64 g) rfl (fun _ => by kernel_rfl) ?_
  intro a' ha
  simp only [Act.put, pA, pO, pS] at ha
  subst ha
  refine wl_nil (hK _ _ ?_)
  clear hK K
  refine wp_seq_k fun K hK => ?_
  refine wp_seq_k fun K hK => ?_
  refine wr_list ?_
  refine wl_pure (.int .i64 0) rfl (fun _ => by kernel_rfl) ?_
  intro a' ha
  simp only [Act.put, pA, pO, pS] at ha
  subst ha
  refine wl_pure (.bool true) rfl (fun _ => by kernel_rfl) ?_
  intro a' ha
  simp only [Act.put, pA, pO, pS] at ha
  subst ha
  refine wl_pure (.bool true) rfl (fun _ => by kernel_rfl) ?_
  intro a' ha
  simp only [Act.put, pA, pO, pS] at ha
  subst ha
  refine wl_pure (.int .i64 0) (by kernel_rfl) (fun _ => by kernel_rfl) ?_
  intro a' ha
  simp only [Act.put, pA, pO, pS] at ha
  subst ha
  refine wl_pure (.bool true) (by kernel_rfl) (fun _ => by kernel_rfl) ?_
  intro a' ha
  simp only [Act.put, pA, pO, pS] at ha
  subst ha
  refine wl_pure (.bool true) rfl (fun _ => by kernel_rfl) ?_
  intro a' ha
  simp only [Act.put, pA, pO, pS] at ha
  subst ha
  refine wl_pure (.bool true) rfl (fun _ => by kernel_rfl) ?_
  intro a' ha
  simp only [Act.put, pA, pO, pS] at ha
  subst ha
  refine wl_pure (.int .i64 g) (by kernel_rfl) (fun _ => by kernel_rfl) ?_
  intro a' ha
  simp only [Act.put, pA, pO, pS] at ha
  subst ha
  refine wl_pure (.bool false) (by kernel_rfl) (fun _ => (show (execOp _ _).run Tryd.prog _ = .ok (.value (.bool (decide (g = 0)))) _ from by kernel_rfl).trans (by rw [hq1])) ?_
  intro a' ha
  simp only [Act.put, pA, pO, pS] at ha
  subst ha
  refine wl_pure (.bool false) rfl (fun _ => by kernel_rfl) ?_
  intro a' ha
  simp only [Act.put, pA, pO, pS] at ha
  subst ha
  refine wl_nil (hK _ _ ?_)
  clear hK K
  refine wp_cond_false rfl ?_
  refine wp_skip (hK _ _ ?_)
  clear hK K
  refine wp_seq_k fun K hK => ?_
  refine wr_list ?_
  refine wl_pure (.string m) rfl (fun _ => by kernel_rfl) ?_
  intro a' ha
  simp only [Act.put, pA, pO, pS] at ha
  subst ha
  refine wl_call hZ S21 H4 rfl (fun _ => by kernel_rfl) ?_
  intro W22 a' S23 ha
  simp only [Act.put, pA, pO, pS] at ha
  subst ha
  refine wl_pure (.tuple #[wd a, .int .i64 0]) rfl (fun _ => by kernel_rfl) ?_
  intro a' ha
  simp only [Act.put, pA, pO, pS] at ha
  subst ha
  refine wl_pure (wd a) rfl (fun _ => by kernel_rfl) ?_
  intro a' ha
  simp only [Act.put, pA, pO, pS] at ha
  subst ha
  refine wl_pure (.int .i64 0) rfl (fun _ => by kernel_rfl) ?_
  intro a' ha
  simp only [Act.put, pA, pO, pS] at ha
  subst ha
  refine wl_alloc S23 (e4 0) 46 rfl (fun _ => by kernel_rfl) ?_
  intro b24 W25 a' S26 ha
  simp only [Act.put, pA, pO, pS] at ha
  subst ha
  refine wl_store S26 0 b24 46 4 (.tmp 17) (.tmp 96) (e4 0) (e4 a) rfl rfl rfl rfl rfl row46 rfl rfl (e4_one _) ?_
  intro W27 a' S28 ha
  simp only [Act.put, pA, pO, pS] at ha
  subst ha
  refine wl_pure (.int .i64 0) rfl (fun _ => by kernel_rfl) ?_
  intro a' ha
  simp only [Act.put, pA, pO, pS] at ha
  subst ha
  refine wl_nil (hK _ _ ?_)
  clear hK K
  refine wp_seq_k fun K hK => ?_
  refine wr_list ?_
  refine wl_pure (.string n) rfl (fun _ => by kernel_rfl) ?_
  intro a' ha
  simp only [Act.put, pA, pO, pS] at ha
  subst ha
  refine wl_call hZ S28 H5 rfl (fun _ => by kernel_rfl) ?_
  intro W29 a' S30 ha
  simp only [Act.put, pA, pO, pS] at ha
  subst ha
  refine wl_pure (.tuple #[wd b, .int .i64 0]) rfl (fun _ => by kernel_rfl) ?_
  intro a' ha
  simp only [Act.put, pA, pO, pS] at ha
  subst ha
  refine wl_pure (wd b) rfl (fun _ => by kernel_rfl) ?_
  intro a' ha
  simp only [Act.put, pA, pO, pS] at ha
  subst ha
  refine wl_pure (.int .i64 0) rfl (fun _ => by kernel_rfl) ?_
  intro a' ha
  simp only [Act.put, pA, pO, pS] at ha
  subst ha
  refine wl_alloc S30 (e4 0) 46 rfl (fun _ => by kernel_rfl) ?_
  intro b31 W32 a' S33 ha
  simp only [Act.put, pA, pO, pS] at ha
  subst ha
  refine wl_store S33 0 b31 46 4 (.tmp 19) (.tmp 101) (e4 0) (e4 b) rfl rfl rfl rfl rfl row46 rfl rfl (e4_one _) ?_
  intro W34 a' S35 ha
  simp only [Act.put, pA, pO, pS] at ha
  subst ha
  refine wl_pure (.int .i64 0) rfl (fun _ => by kernel_rfl) ?_
  intro a' ha
  simp only [Act.put, pA, pO, pS] at ha
  subst ha
  refine wl_nil (hK _ _ ?_)
  clear hK K
  refine wp_seq_k fun K hK => ?_
  refine wp_seq_k fun K hK => ?_
  refine wr_list ?_
  refine wl_pure (.int .i64 0) rfl (fun _ => by kernel_rfl) ?_
  intro a' ha
  simp only [Act.put, pA, pO, pS] at ha
  subst ha
  refine wl_pure (.bool false) rfl (fun _ => by kernel_rfl) ?_
  intro a' ha
  simp only [Act.put, pA, pO, pS] at ha
  subst ha
  refine wl_pure (.bool false) rfl (fun _ => by kernel_rfl) ?_
  intro a' ha
  simp only [Act.put, pA, pO, pS] at ha
  subst ha
  refine wl_pure (.int .i64 0) (by kernel_rfl) (fun _ => by kernel_rfl) ?_
  intro a' ha
  simp only [Act.put, pA, pO, pS] at ha
  subst ha
  refine wl_pure (.bool false) (by kernel_rfl) (fun _ => by kernel_rfl) ?_
  intro a' ha
  simp only [Act.put, pA, pO, pS] at ha
  subst ha
  refine wl_pure (.bool false) rfl (fun _ => by kernel_rfl) ?_
  intro a' ha
  simp only [Act.put, pA, pO, pS] at ha
  subst ha
  refine wl_nil (hK _ _ ?_)
  clear hK K
  refine wp_cond_false rfl ?_
  refine wp_skip (hK _ _ ?_)
  clear hK K
  refine wp_seq_k fun K hK => ?_
  refine wr_list ?_
  refine wl_make S35 31 rfl (fun _ => by kernel_rfl) ?_
  intro b36 W37 a' S38 ha
  simp only [Act.put, pA, pO, pS] at ha
  subst ha
  refine wl_textz S38 0 b36 31 (.tmp 111) rfl rfl rfl rfl ?_
  intro a' ha
  simp only [Act.put, pA, pO, pS] at ha
  subst ha
  refine wl_pure (.string ((⟨#[1]⟩ : ByteArray) ++ ((zs 31) : ByteArray))) rfl (fun _ => by kernel_rfl) ?_
  intro a' ha
  simp only [Act.put, pA, pO, pS] at ha
  subst ha
  refine wl_call hZ S38 H6 rfl (fun _ => by kernel_rfl) ?_
  intro W39 a' S40 ha
  simp only [Act.put, pA, pO, pS] at ha
  subst ha
  refine wl_pure (.tuple #[wd one, .int .i64 0]) rfl (fun _ => by kernel_rfl) ?_
  intro a' ha
  simp only [Act.put, pA, pO, pS] at ha
  subst ha
  refine wl_pure (wd one) rfl (fun _ => by kernel_rfl) ?_
  intro a' ha
  simp only [Act.put, pA, pO, pS] at ha
  subst ha
  refine wl_pure (.int .i64 0) rfl (fun _ => by kernel_rfl) ?_
  intro a' ha
  simp only [Act.put, pA, pO, pS] at ha
  subst ha
  refine wl_alloc S40 (e4 0) 46 rfl (fun _ => by kernel_rfl) ?_
  intro b41 W42 a' S43 ha
  simp only [Act.put, pA, pO, pS] at ha
  subst ha
  refine wl_store S43 0 b41 46 4 (.tmp 21) (.tmp 115) (e4 0) (e4 one) rfl rfl rfl rfl rfl row46 rfl rfl (e4_one _) ?_
  intro W44 a' S45 ha
  simp only [Act.put, pA, pO, pS] at ha
  subst ha
  refine wl_pure (.int .i64 0) rfl (fun _ => by kernel_rfl) ?_
  intro a' ha
  simp only [Act.put, pA, pO, pS] at ha
  subst ha
  refine wl_nil (hK _ _ ?_)
  clear hK K
  refine wp_seq_k fun K hK => ?_
  refine wr_list ?_
  refine wl_make S45 15 rfl (fun _ => by kernel_rfl) ?_
  intro b46 W47 a' S48 ha
  simp only [Act.put, pA, pO, pS] at ha
  subst ha
  refine wl_textz S48 0 b46 15 (.tmp 118) rfl rfl rfl rfl ?_
  intro a' ha
  simp only [Act.put, pA, pO, pS] at ha
  subst ha
  refine wl_pure (.string ((⟨#[236, 211, 245, 92, 26, 99, 18, 88, 214, 156, 247, 162, 222, 249, 222, 20]⟩ : ByteArray) ++ ((zs 15) : ByteArray))) rfl (fun _ => by kernel_rfl) ?_
  intro a' ha
  simp only [Act.put, pA, pO, pS] at ha
  subst ha
  refine wl_pure (.string ((((⟨#[236, 211, 245, 92, 26, 99, 18, 88, 214, 156, 247, 162, 222, 249, 222, 20]⟩ : ByteArray) ++ ((zs 15) : ByteArray)) : ByteArray) ++ (⟨#[16]⟩ : ByteArray))) rfl (fun _ => by kernel_rfl) ?_
  intro a' ha
  simp only [Act.put, pA, pO, pS] at ha
  subst ha
  refine wl_call hZ S48 H7 rfl (fun _ => by kernel_rfl) ?_
  intro W49 a' S50 ha
  simp only [Act.put, pA, pO, pS] at ha
  subst ha
  refine wl_pure (.tuple #[wd less, .int .i64 0]) rfl (fun _ => by kernel_rfl) ?_
  intro a' ha
  simp only [Act.put, pA, pO, pS] at ha
  subst ha
  refine wl_pure (wd less) rfl (fun _ => by kernel_rfl) ?_
  intro a' ha
  simp only [Act.put, pA, pO, pS] at ha
  subst ha
  refine wl_pure (.int .i64 0) rfl (fun _ => by kernel_rfl) ?_
  intro a' ha
  simp only [Act.put, pA, pO, pS] at ha
  subst ha
  refine wl_alloc S50 (e4 0) 46 rfl (fun _ => by kernel_rfl) ?_
  intro b51 W52 a' S53 ha
  simp only [Act.put, pA, pO, pS] at ha
  subst ha
  refine wl_store S53 0 b51 46 4 (.tmp 23) (.tmp 123) (e4 0) (e4 less) rfl rfl rfl rfl rfl row46 rfl rfl (e4_one _) ?_
  intro W54 a' S55 ha
  simp only [Act.put, pA, pO, pS] at ha
  subst ha
  refine wl_pure (.int .i64 0) rfl (fun _ => by kernel_rfl) ?_
  intro a' ha
  simp only [Act.put, pA, pO, pS] at ha
  subst ha
  refine wl_nil (hK _ _ ?_)
  clear hK K
  refine wp_seq_k fun K hK => ?_
  refine wr_list ?_
  refine wl_pure (.agg (e4 0)) rfl (fun _ => by kernel_rfl) ?_
  intro a' ha
  simp only [Act.put, pA, pO, pS] at ha
  subst ha
  refine wl_alloc S55 (e4 0) 46 rfl (fun _ => by kernel_rfl) ?_
  intro b56 W57 a' S58 ha
  simp only [Act.put, pA, pO, pS] at ha
  subst ha
  refine wl_store S58 0 b56 46 4 (.tmp 25) (.tmp 125) (e4 0) (e4 0) rfl rfl rfl rfl rfl row46 rfl rfl (e4_one _) ?_
  intro W59 a' S60 ha
  simp only [Act.put, pA, pO, pS] at ha
  subst ha
  refine wl_nil (hK _ _ ?_)
  clear hK K
  refine wp_seq_k fun K hK => ?_
  refine wr_list ?_
  refine wl_call hZ S60 H8 rfl (fun _ => by kernel_rfl) ?_
  intro W61 a' S62 ha
  simp only [Act.put, pA, pO, pS] at ha
  subst ha
  refine wl_alloc S62 (q4 0 0 0 0) 29 rfl (fun _ => by kernel_rfl) ?_
  intro b63 W64 a' S65 ha
  simp only [Act.put, pA, pO, pS] at ha
  subst ha
  refine wl_store S65 0 b63 29 16 (.tmp 26) (.tmp 126) (q4 0 0 0 0) (q4 v1 v2 v3 v4) rfl rfl rfl rfl rfl row29 rfl rfl (q4_one _ _ _ _) ?_
  intro W66 a' S67 ha
  simp only [Act.put, pA, pO, pS] at ha
  subst ha
  refine wl_nil (hK _ _ ?_)
  clear hK K
  refine wp_seq_k fun K hK => ?_
  refine wr_list ?_
  refine wl_load S67 0 b63 0 29 16 (.tmp 26) (q4 v1 v2 v3 v4) (q4 v1 v2 v3 v4) rfl rfl rfl rfl (Sub.self _) row29 rfl ?_
  intro a' ha
  simp only [Act.put, pA, pO, pS] at ha
  subst ha
  refine wl_load S67 7 b24 0 46 4 (.tmp 17) (e4 a) (e4 a) rfl rfl rfl rfl (Sub.self _) row46 rfl ?_
  intro a' ha
  simp only [Act.put, pA, pO, pS] at ha
  subst ha
  refine wl_load S67 1 b56 0 46 4 (.tmp 25) (e4 0) (e4 0) rfl rfl rfl rfl (Sub.self _) row46 rfl ?_
  intro a' ha
  simp only [Act.put, pA, pO, pS] at ha
  subst ha
  refine wl_call hZ S67 H9 rfl (fun _ => by kernel_rfl) ?_
  intro W68 a' S69 ha
  simp only [Act.put, pA, pO, pS] at ha
  subst ha
  refine wl_alloc S69 (q4 0 0 0 0) 29 rfl (fun _ => by kernel_rfl) ?_
  intro b70 W71 a' S72 ha
  simp only [Act.put, pA, pO, pS] at ha
  subst ha
  refine wl_store S72 0 b70 29 16 (.tmp 27) (.tmp 130) (q4 0 0 0 0) (q4 v5 v6 v7 v8) rfl rfl rfl rfl rfl row29 rfl rfl (q4_one _ _ _ _) ?_
  intro W73 a' S74 ha
  simp only [Act.put, pA, pO, pS] at ha
  subst ha
  refine wl_nil (hK _ _ ?_)
  clear hK K
  refine wp_seq_k fun K hK => ?_
  refine wr_list ?_
  refine wl_load S74 1 b63 0 29 16 (.tmp 26) (q4 v1 v2 v3 v4) (q4 v1 v2 v3 v4) rfl rfl rfl rfl (Sub.self _) row29 rfl ?_
  intro a' ha
  simp only [Act.put, pA, pO, pS] at ha
  subst ha
  refine wl_load S74 2 b56 0 46 4 (.tmp 25) (e4 0) (e4 0) rfl rfl rfl rfl (Sub.self _) row46 rfl ?_
  intro a' ha
  simp only [Act.put, pA, pO, pS] at ha
  subst ha
  refine wl_load S74 7 b31 0 46 4 (.tmp 19) (e4 b) (e4 b) rfl rfl rfl rfl (Sub.self _) row46 rfl ?_
  intro a' ha
  simp only [Act.put, pA, pO, pS] at ha
  subst ha
  refine wl_call hZ S74 H10 rfl (fun _ => by kernel_rfl) ?_
  intro W75 a' S76 ha
  simp only [Act.put, pA, pO, pS] at ha
  subst ha
  refine wl_alloc S76 (q4 0 0 0 0) 29 rfl (fun _ => by kernel_rfl) ?_
  intro b77 W78 a' S79 ha
  simp only [Act.put, pA, pO, pS] at ha
  subst ha
  refine wl_store S79 0 b77 29 16 (.tmp 28) (.tmp 134) (q4 0 0 0 0) (q4 v9 v10 v11 v12) rfl rfl rfl rfl rfl row29 rfl rfl (q4_one _ _ _ _) ?_
  intro W80 a' S81 ha
  simp only [Act.put, pA, pO, pS] at ha
  subst ha
  refine wl_nil (hK _ _ ?_)
  clear hK K
  refine wp_seq_k fun K hK => ?_
  refine wr_ext S81 (by kernel_rfl) (by kernel_rfl) ?_
  refine wq_load S81 1 b70 0 29 16 (.tmp 27) (q4 v5 v6 v7 v8) (q4 v5 v6 v7 v8) rfl rfl rfl rfl (Sub.self _) row29 rfl ?_
  intro a' ha
  simp only [Act.put, pA, pO, pS] at ha
  subst ha
  refine wq_load S81 0 b77 0 29 16 (.tmp 28) (q4 v9 v10 v11 v12) (q4 v9 v10 v11 v12) rfl rfl rfl rfl (Sub.self _) row29 rfl ?_
  intro a' ha
  simp only [Act.put, pA, pO, pS] at ha
  subst ha
  refine wq_call hZ S81 H11 rfl (fun _ => by kernel_rfl) ?_
  intro a' ha
  simp only [Act.put, pA, pO, pS] at ha
  subst ha
  refine wq_load S81 2 b63 0 29 16 (.tmp 26) (q4 v1 v2 v3 v4) (q4 v1 v2 v3 v4) rfl rfl rfl rfl (Sub.self _) row29 rfl ?_
  intro a' ha
  simp only [Act.put, pA, pO, pS] at ha
  subst ha
  refine wq_load S81 9 b24 0 46 4 (.tmp 17) (e4 a) (e4 a) rfl rfl rfl rfl (Sub.self _) row46 rfl ?_
  intro a' ha
  simp only [Act.put, pA, pO, pS] at ha
  subst ha
  refine wq_load S81 8 b31 0 46 4 (.tmp 19) (e4 b) (e4 b) rfl rfl rfl rfl (Sub.self _) row46 rfl ?_
  intro a' ha
  simp only [Act.put, pA, pO, pS] at ha
  subst ha
  refine wq_call hZ S81 H12 rfl (fun _ => by kernel_rfl) ?_
  intro a' ha
  simp only [Act.put, pA, pO, pS] at ha
  subst ha
  refine wq_call hZ S81 H13 rfl (fun _ => by kernel_rfl) ?_
  intro a' ha
  simp only [Act.put, pA, pO, pS] at ha
  subst ha
  refine wq_pure (.bool true) rfl (fun _ => by kernel_rfl) ?_
  intro a' ha
  simp only [Act.put, pA, pO, pS] at ha
  subst ha
  refine wq_load S81 1 b70 0 29 16 (.tmp 27) (q4 v5 v6 v7 v8) (q4 v5 v6 v7 v8) (by kernel_rfl) rfl rfl rfl (Sub.self _) row29 rfl ?_
  intro a' ha
  simp only [Act.put, pA, pO, pS] at ha
  subst ha
  refine wq_load S81 0 b77 0 29 16 (.tmp 28) (q4 v9 v10 v11 v12) (q4 v9 v10 v11 v12) (by kernel_rfl) rfl rfl rfl (Sub.self _) row29 rfl ?_
  intro a' ha
  simp only [Act.put, pA, pO, pS] at ha
  subst ha
  refine wq_call hZ S81 H11 (by kernel_rfl) (fun _ => by kernel_rfl) ?_
  intro a' ha
  simp only [Act.put, pA, pO, pS] at ha
  subst ha
  refine wq_load S81 2 b63 0 29 16 (.tmp 26) (q4 v1 v2 v3 v4) (q4 v1 v2 v3 v4) (by kernel_rfl) rfl rfl rfl (Sub.self _) row29 rfl ?_
  intro a' ha
  simp only [Act.put, pA, pO, pS] at ha
  subst ha
  refine wq_load S81 9 b24 0 46 4 (.tmp 17) (e4 a) (e4 a) (by kernel_rfl) rfl rfl rfl (Sub.self _) row46 rfl ?_
  intro a' ha
  simp only [Act.put, pA, pO, pS] at ha
  subst ha
  refine wq_load S81 6 b41 0 46 4 (.tmp 21) (e4 one) (e4 one) (by kernel_rfl) rfl rfl rfl (Sub.self _) row46 rfl ?_
  intro a' ha
  simp only [Act.put, pA, pO, pS] at ha
  subst ha
  refine wq_load S81 8 b31 0 46 4 (.tmp 19) (e4 b) (e4 b) (by kernel_rfl) rfl rfl rfl (Sub.self _) row46 rfl ?_
  intro a' ha
  simp only [Act.put, pA, pO, pS] at ha
  subst ha
  refine wq_call hZ S81 H14 (by kernel_rfl) (fun _ => by kernel_rfl) ?_
  intro a' ha
  simp only [Act.put, pA, pO, pS] at ha
  subst ha
  refine wq_load S81 3 b56 0 46 4 (.tmp 25) (e4 0) (e4 0) (by kernel_rfl) rfl rfl rfl (Sub.self _) row46 rfl ?_
  intro a' ha
  simp only [Act.put, pA, pO, pS] at ha
  subst ha
  refine wq_call hZ S81 H15 (by kernel_rfl) (fun _ => by kernel_rfl) ?_
  intro a' ha
  simp only [Act.put, pA, pO, pS] at ha
  subst ha
  refine wq_call hZ S81 H16 (by kernel_rfl) (fun _ => by kernel_rfl) ?_
  intro a' ha
  simp only [Act.put, pA, pO, pS] at ha
  subst ha
  refine wq_pure (.bool true) rfl (fun _ => by kernel_rfl) ?_
  intro a' ha
  simp only [Act.put, pA, pO, pS] at ha
  subst ha
  refine wq_pure (.bool true) rfl (fun _ => by kernel_rfl) ?_
  intro a' ha
  simp only [Act.put, pA, pO, pS] at ha
  subst ha
  refine wq_load S81 1 b70 0 29 16 (.tmp 27) (q4 v5 v6 v7 v8) (q4 v5 v6 v7 v8) (by kernel_rfl) rfl rfl rfl (Sub.self _) row29 rfl ?_
  intro a' ha
  simp only [Act.put, pA, pO, pS] at ha
  subst ha
  refine wq_load S81 8 b31 0 46 4 (.tmp 19) (e4 b) (e4 b) (by kernel_rfl) rfl rfl rfl (Sub.self _) row46 rfl ?_
  intro a' ha
  simp only [Act.put, pA, pO, pS] at ha
  subst ha
  refine wq_load S81 3 b56 0 46 4 (.tmp 25) (e4 0) (e4 0) (by kernel_rfl) rfl rfl rfl (Sub.self _) row46 rfl ?_
  intro a' ha
  simp only [Act.put, pA, pO, pS] at ha
  subst ha
  refine wq_call hZ S81 H17 (by kernel_rfl) (fun _ => by kernel_rfl) ?_
  intro a' ha
  simp only [Act.put, pA, pO, pS] at ha
  subst ha
  refine wq_load S81 2 b63 0 29 16 (.tmp 26) (q4 v1 v2 v3 v4) (q4 v1 v2 v3 v4) (by kernel_rfl) rfl rfl rfl (Sub.self _) row29 rfl ?_
  intro a' ha
  simp only [Act.put, pA, pO, pS] at ha
  subst ha
  refine wq_load S81 9 b24 0 46 4 (.tmp 17) (e4 a) (e4 a) (by kernel_rfl) rfl rfl rfl (Sub.self _) row46 rfl ?_
  intro a' ha
  simp only [Act.put, pA, pO, pS] at ha
  subst ha
  refine wq_load S81 8 b31 0 46 4 (.tmp 19) (e4 b) (e4 b) (by kernel_rfl) rfl rfl rfl (Sub.self _) row46 rfl ?_
  intro a' ha
  simp only [Act.put, pA, pO, pS] at ha
  subst ha
  refine wq_load S81 3 b56 0 46 4 (.tmp 25) (e4 0) (e4 0) (by kernel_rfl) rfl rfl rfl (Sub.self _) row46 rfl ?_
  intro a' ha
  simp only [Act.put, pA, pO, pS] at ha
  subst ha
  refine wq_call hZ S81 H18 (by kernel_rfl) (fun _ => by kernel_rfl) ?_
  intro a' ha
  simp only [Act.put, pA, pO, pS] at ha
  subst ha
  refine wq_load S81 3 b56 0 46 4 (.tmp 25) (e4 0) (e4 0) (by kernel_rfl) rfl rfl rfl (Sub.self _) row46 rfl ?_
  intro a' ha
  simp only [Act.put, pA, pO, pS] at ha
  subst ha
  refine wq_call hZ S81 H19 (by kernel_rfl) (fun _ => by kernel_rfl) ?_
  intro a' ha
  simp only [Act.put, pA, pO, pS] at ha
  subst ha
  refine wq_call hZ S81 H20 (by kernel_rfl) (fun _ => by kernel_rfl) ?_
  intro a' ha
  simp only [Act.put, pA, pO, pS] at ha
  subst ha
  refine wq_pure (.bool true) rfl (fun _ => by kernel_rfl) ?_
  intro a' ha
  simp only [Act.put, pA, pO, pS] at ha
  subst ha
  refine wq_pure (.bool true) rfl (fun _ => by kernel_rfl) ?_
  intro a' ha
  simp only [Act.put, pA, pO, pS] at ha
  subst ha
  refine wq_load S81 2 b63 0 29 16 (.tmp 26) (q4 v1 v2 v3 v4) (q4 v1 v2 v3 v4) (by kernel_rfl) rfl rfl rfl (Sub.self _) row29 rfl ?_
  intro a' ha
  simp only [Act.put, pA, pO, pS] at ha
  subst ha
  refine wq_load S81 4 b51 0 46 4 (.tmp 23) (e4 less) (e4 less) (by kernel_rfl) rfl rfl rfl (Sub.self _) row46 rfl ?_
  intro a' ha
  simp only [Act.put, pA, pO, pS] at ha
  subst ha
  refine wq_load S81 6 b41 0 46 4 (.tmp 21) (e4 one) (e4 one) (by kernel_rfl) rfl rfl rfl (Sub.self _) row46 rfl ?_
  intro a' ha
  simp only [Act.put, pA, pO, pS] at ha
  subst ha
  refine wq_call hZ S81 H21 (by kernel_rfl) (fun _ => by kernel_rfl) ?_
  intro a' ha
  simp only [Act.put, pA, pO, pS] at ha
  subst ha
  refine wq_call hZ S81 H22 (by kernel_rfl) (fun _ => by kernel_rfl) ?_
  intro a' ha
  simp only [Act.put, pA, pO, pS] at ha
  subst ha
  refine wq_call hZ S81 H23 (by kernel_rfl) (fun _ => by kernel_rfl) ?_
  intro a' ha
  simp only [Act.put, pA, pO, pS] at ha
  subst ha
  refine wq_pure (.bool true) rfl (fun _ => by kernel_rfl) ?_
  intro a' ha
  simp only [Act.put, pA, pO, pS] at ha
  subst ha
  refine wq_pure (.bool true) rfl (fun _ => by kernel_rfl) ?_
  intro a' ha
  simp only [Act.put, pA, pO, pS] at ha
  subst ha
  refine wq_call hZ S81 H24 (by kernel_rfl) (fun _ => by kernel_rfl) ?_
  intro a' ha
  simp only [Act.put, pA, pO, pS] at ha
  subst ha
  refine wq_pure (.bool true) rfl (fun _ => by kernel_rfl) ?_
  intro a' ha
  simp only [Act.put, pA, pO, pS] at ha
  subst ha
  refine wq_pure (.bool true) rfl (fun _ => by kernel_rfl) ?_
  intro a' ha
  simp only [Act.put, pA, pO, pS] at ha
  subst ha
  refine wq_nil ?_
  intro W82 S83
  refine hK _ _ ?_
  clear hK K
  refine wp_ret ?_
  exact fin_tmp S83 rfl rfl rfl
end Go.Proofs.YtpdagpjjlnncbaaDoor
