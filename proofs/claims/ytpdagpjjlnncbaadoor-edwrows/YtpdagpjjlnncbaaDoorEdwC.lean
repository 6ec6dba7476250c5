/-
  Package edw: walks of Decode, Bytes, Same. No statement is proved here.
-/
import Derived.Test.YtpdagpjjlnncbaaDoorEdwB
namespace Go.Proofs.YtpdagpjjlnncbaaDoor
open Go.RowKit Go.Lib Go.BigFrame
set_option linter.unusedVariables false
set_option linter.unusedSimpArgs false
set_option maxRecDepth 1000000
set_option maxHeartbeats 4000000

theorem decode_no {Z : World → Prop} (hZ : Keeps Z)  {s : ByteArray} (hd : decide ((s.size : Int) = 32) = false)  : Ret Z 9 #[.string s] (.tuple #[pv 0 0 0 0, .int .i64 2]) := by
  intro w hw
  have S := St.refl hw
  go_enter Tryd.func9, Tryd.ntmps9
  refine wp_seq_k fun K hK => ?_
  refine wr_list ?_
  refine wl_alloc S (q4 0 0 0 0) 29 rfl (fun _ => by kernel_rfl) ?_
  intro b1 W2 a' S3 ha
  simp only [Act.put, List.setIfInBounds_toArray, List.set_cons_zero, List.set_cons_succ] at ha
  subst ha
  refine wl_pure (.int .i64 0) rfl (fun _ => by kernel_rfl) ?_
  intro a' ha
  simp only [Act.put, List.setIfInBounds_toArray, List.set_cons_zero, List.set_cons_succ] at ha
  subst ha
  refine wl_nil (hK _ _ ?_)
  clear hK K
  refine wp_seq_k fun K hK => ?_
  refine wp_seq_k fun K hK => ?_
  refine wr_list ?_
  refine wl_pure (.string s) rfl (fun _ => by kernel_rfl) ?_
  intro a' ha
  simp only [Act.put, List.setIfInBounds_toArray, List.set_cons_zero, List.set_cons_succ] at ha
  subst ha
  refine wl_pure (.int .i64 (s.size : Int)) rfl (fun _ => by kernel_rfl) ?_
  intro a' ha
  simp only [Act.put, List.setIfInBounds_toArray, List.set_cons_zero, List.set_cons_succ] at ha
  subst ha
  refine wl_pure (.bool true) rfl (fun _ => (show (execOp _ _).run Tryd.prog _ = .ok (.value (.bool (!decide ((s.size : Int) = 32)))) _ from by kernel_rfl).trans (by rw [hd]; rfl)) ?_
  intro a' ha
  simp only [Act.put, List.setIfInBounds_toArray, List.set_cons_zero, List.set_cons_succ] at ha
  subst ha
  refine wl_nil (hK _ _ ?_)
  clear hK K
  refine wp_cond_true rfl ?_
  refine wp_seq_k fun K hK => ?_
  refine wr_list ?_
  refine wl_pure (.agg (q4 0 0 0 0)) rfl (fun _ => by kernel_rfl) ?_
  intro a' ha
  simp only [Act.put, List.setIfInBounds_toArray, List.set_cons_zero, List.set_cons_succ] at ha
  subst ha
  refine wl_store S3 0 b1 29 16 (.tmp 2) (.tmp 12) (q4 0 0 0 0) (q4 0 0 0 0) rfl rfl rfl rfl rfl row29 rfl rfl (q4_one _ _ _ _) ?_
  intro W4 a' S5 ha
  simp only [Act.put, List.setIfInBounds_toArray, List.set_cons_zero, List.set_cons_succ] at ha
  subst ha
  refine wl_pure (.int .i64 2) rfl (fun _ => by kernel_rfl) ?_
  intro a' ha
  simp only [Act.put, List.setIfInBounds_toArray, List.set_cons_zero, List.set_cons_succ] at ha
  subst ha
  refine wl_nil (hK _ _ ?_)
  clear hK K
  refine wp_ret ?_
  exact fin_cell_tmp (k := 0) S5 rfl rfl rfl rfl row29 rfl rfl
theorem decode_nc {Z : World → Prop} (hZ : Keeps Z)  {s : ByteArray} (hs : s.size = 32) (hd : decide ((s.size : Int) = 32) = true) (H1 : Ret Z 30 #[.string (sbi (fun j => if j = 31 then (bits .andNot .u8 ((bys s) 31) 128) else (bys s) j))] (.bool false)) : Ret Z 9 #[.string s] (.tuple #[pv 0 0 0 0, .int .i64 90]) := by
  intro w hw
  have S := St.refl hw
  go_enter Tryd.func9, Tryd.ntmps9
  refine wp_seq_k fun K hK => ?_
  refine wr_list ?_
  refine wl_alloc S (q4 0 0 0 0) 29 rfl (fun _ => by kernel_rfl) ?_
  intro b1 W2 a' S3 ha
  simp only [Act.put, List.setIfInBounds_toArray, List.set_cons_zero, List.set_cons_succ] at ha
  subst ha
  refine wl_pure (.int .i64 0) rfl (fun _ => by kernel_rfl) ?_
  intro a' ha
  simp only [Act.put, List.setIfInBounds_toArray, List.set_cons_zero, List.set_cons_succ] at ha
  subst ha
  refine wl_nil (hK _ _ ?_)
  clear hK K
  refine wp_seq_k fun K hK => ?_
  refine wp_seq_k fun K hK => ?_
  refine wr_list ?_
  refine wl_pure (.string s) rfl (fun _ => by kernel_rfl) ?_
  intro a' ha
  simp only [Act.put, List.setIfInBounds_toArray, List.set_cons_zero, List.set_cons_succ] at ha
  subst ha
  refine wl_pure (.int .i64 (s.size : Int)) rfl (fun _ => by kernel_rfl) ?_
  intro a' ha
  simp only [Act.put, List.setIfInBounds_toArray, List.set_cons_zero, List.set_cons_succ] at ha
  subst ha
  refine wl_pure (.bool false) rfl (fun _ => (show (execOp _ _).run Tryd.prog _ = .ok (.value (.bool (!decide ((s.size : Int) = 32)))) _ from by kernel_rfl).trans (by rw [hd]; rfl)) ?_
  intro a' ha
  simp only [Act.put, List.setIfInBounds_toArray, List.set_cons_zero, List.set_cons_succ] at ha
  subst ha
  refine wl_nil (hK _ _ ?_)
  clear hK K
  refine wp_cond_false rfl ?_
  refine wp_skip (hK _ _ ?_)
  clear hK K
  refine wp_seq_k fun K hK => ?_
  refine wr_list ?_
  refine wl_pure (.string s) rfl (fun _ => by kernel_rfl) ?_
  intro a' ha
  simp only [Act.put, List.setIfInBounds_toArray, List.set_cons_zero, List.set_cons_succ] at ha
  subst ha
  refine wl_bytes S3 s (.tmp 13) hs rfl rfl rfl ?_
  intro b4 c5 W6 a' S7 ha
  simp only [Act.put, List.setIfInBounds_toArray, List.set_cons_zero, List.set_cons_succ] at ha
  subst ha
  refine wl_pure (.slice (some ⟨b4, 0, none⟩) 32 c5) rfl (fun _ => by kernel_rfl) ?_
  intro a' ha
  simp only [Act.put, List.setIfInBounds_toArray, List.set_cons_zero, List.set_cons_succ] at ha
  subst ha
  refine wl_nil (hK _ _ ?_)
  clear hK K
  refine wp_seq_k fun K hK => ?_
  refine wr_list ?_
  refine wl_pure (.slice (some ⟨b4, 0, none⟩) 32 c5) rfl (fun _ => by kernel_rfl) ?_
  intro a' ha
  simp only [Act.put, List.setIfInBounds_toArray, List.set_cons_zero, List.set_cons_succ] at ha
  subst ha
  refine wl_pure (.pointer (some ⟨b4, 31, none⟩)) rfl (fun _ => by kernel_rfl) ?_
  intro a' ha
  simp only [Act.put, List.setIfInBounds_toArray, List.set_cons_zero, List.set_cons_succ] at ha
  subst ha
  refine wl_ldb S7 0 b4 31 (bys s) (.tmp 16) rfl rfl rfl rfl (by decide) ?_
  intro a' ha
  simp only [Act.put, List.setIfInBounds_toArray, List.set_cons_zero, List.set_cons_succ] at ha
  subst ha
  refine wl_pure (.int .u8 (bits .and .u8 ((bys s) 31) 128)) rfl (fun _ => by kernel_rfl) ?_
  intro a' ha
  simp only [Act.put, List.setIfInBounds_toArray, List.set_cons_zero, List.set_cons_succ] at ha
  subst ha
  refine wl_pure (.bool (!decide ((bits .and .u8 ((bys s) 31) 128) = 0))) rfl (fun _ => by kernel_rfl) ?_
  intro a' ha
  simp only [Act.put, List.setIfInBounds_toArray, List.set_cons_zero, List.set_cons_succ] at ha
  subst ha
  refine wl_pure (.bool (!decide ((bits .and .u8 ((bys s) 31) 128) = 0))) rfl (fun _ => by kernel_rfl) ?_
  intro a' ha
  simp only [Act.put, List.setIfInBounds_toArray, List.set_cons_zero, List.set_cons_succ] at ha
  subst ha
  refine wl_nil (hK _ _ ?_)
  clear hK K
  refine wp_seq_k fun K hK => ?_
  refine wr_list ?_
  refine wl_pure (.slice (some ⟨b4, 0, none⟩) 32 c5) rfl (fun _ => by kernel_rfl) ?_
  intro a' ha
  simp only [Act.put, List.setIfInBounds_toArray, List.set_cons_zero, List.set_cons_succ] at ha
  subst ha
  refine wl_pure (.pointer (some ⟨b4, 31, none⟩)) rfl (fun _ => by kernel_rfl) ?_
  intro a' ha
  simp only [Act.put, List.setIfInBounds_toArray, List.set_cons_zero, List.set_cons_succ] at ha
  subst ha
  refine wl_ldb S7 0 b4 31 (bys s) (.tmp 21) rfl rfl rfl rfl (by decide) ?_
  intro a' ha
  simp only [Act.put, List.setIfInBounds_toArray, List.set_cons_zero, List.set_cons_succ] at ha
  subst ha
  refine wl_pure (.int .u8 (bits .andNot .u8 ((bys s) 31) 128)) rfl (fun _ => by kernel_rfl) ?_
  intro a' ha
  simp only [Act.put, List.setIfInBounds_toArray, List.set_cons_zero, List.set_cons_succ] at ha
  subst ha
  refine wl_pure (.pointer (some ⟨b4, 31, none⟩)) rfl (fun _ => by kernel_rfl) ?_
  intro a' ha
  simp only [Act.put, List.setIfInBounds_toArray, List.set_cons_zero, List.set_cons_succ] at ha
  subst ha
  refine wl_stb S7 0 b4 31 (bys s) (bits .andNot .u8 ((bys s) 31) 128) (.tmp 24) (.tmp 23) rfl rfl rfl rfl rfl (by decide) ?_
  intro W8 a' S9 ha
  simp only [Act.put, List.setIfInBounds_toArray, List.set_cons_zero, List.set_cons_succ] at ha
  subst ha
  refine wl_nil (hK _ _ ?_)
  clear hK K
  refine wp_seq_k fun K hK => ?_
  refine wp_seq_k fun K hK => ?_
  refine wr_list ?_
  refine wl_pure (.slice (some ⟨b4, 0, none⟩) 32 c5) rfl (fun _ => by kernel_rfl) ?_
  intro a' ha
  simp only [Act.put, List.setIfInBounds_toArray, List.set_cons_zero, List.set_cons_succ] at ha
  subst ha
  refine wl_text S9 0 b4 c5 (fun j => if j = 31 then (bits .andNot .u8 ((bys s) 31) 128) else (bys s) j) (.tmp 25) rfl rfl rfl rfl ?_
  intro a' ha
  simp only [Act.put, List.setIfInBounds_toArray, List.set_cons_zero, List.set_cons_succ] at ha
  subst ha
  refine wl_call hZ S9 H1 rfl (fun _ => by kernel_rfl) ?_
  intro W10 a' S11 ha
  simp only [Act.put, List.setIfInBounds_toArray, List.set_cons_zero, List.set_cons_succ] at ha
  subst ha
  refine wl_pure (.bool true) rfl (fun _ => by kernel_rfl) ?_
  intro a' ha
  simp only [Act.put, List.setIfInBounds_toArray, List.set_cons_zero, List.set_cons_succ] at ha
  subst ha
  refine wl_nil (hK _ _ ?_)
  clear hK K
  refine wp_cond_true rfl ?_
  refine wp_seq_k fun K hK => ?_
  refine wr_list ?_
  refine wl_pure (.agg (q4 0 0 0 0)) rfl (fun _ => by kernel_rfl) ?_
  intro a' ha
  simp only [Act.put, List.setIfInBounds_toArray, List.set_cons_zero, List.set_cons_succ] at ha
  subst ha
  refine wl_store S11 1 b1 29 16 (.tmp 2) (.tmp 29) (q4 0 0 0 0) (q4 0 0 0 0) rfl rfl rfl rfl rfl row29 rfl rfl (q4_one _ _ _ _) ?_
  intro W12 a' S13 ha
  simp only [Act.put, List.setIfInBounds_toArray, List.set_cons_zero, List.set_cons_succ] at ha
  subst ha
  refine wl_pure (.int .i64 90) rfl (fun _ => by kernel_rfl) ?_
  intro a' ha
  simp only [Act.put, List.setIfInBounds_toArray, List.set_cons_zero, List.set_cons_succ] at ha
  subst ha
  refine wl_nil (hK _ _ ?_)
  clear hK K
  refine wp_ret ?_
  exact fin_cell_tmp (k := 1) S13 rfl rfl rfl rfl row29 rfl rfl
theorem decode_nr {Z : World → Prop} (hZ : Keeps Z) {v r : Nat} {s : ByteArray} (hs : s.size = 32) (hd : decide ((s.size : Int) = 32) = true) (H1 : Ret Z 30 #[.string (sbi (fun j => if j = 31 then (bits .andNot .u8 ((bys s) 31) 128) else (bys s) j))] (.bool true)) (H2 : Ret Z 31 #[.string (sbi (fun j => if j = 31 then (bits .andNot .u8 ((bys s) 31) 128) else (bys s) j))] (wd v)) (H3 : Ret Z 32 #[wd v, .bool (!decide ((bits .and .u8 ((bys s) 31) 128) = 0))] (.tuple #[wd r, .bool false])) : Ret Z 9 #[.string s] (.tuple #[pv 0 0 0 0, .int .i64 90]) := by
  intro w hw
  have S := St.refl hw
  go_enter Tryd.func9, Tryd.ntmps9
  refine wp_seq_k fun K hK => ?_
  refine wr_list ?_
  refine wl_alloc S (q4 0 0 0 0) 29 rfl (fun _ => by kernel_rfl) ?_
  intro b1 W2 a' S3 ha
  simp only [Act.put, List.setIfInBounds_toArray, List.set_cons_zero, List.set_cons_succ] at ha
  subst ha
  refine wl_pure (.int .i64 0) rfl (fun _ => by kernel_rfl) ?_
  intro a' ha
  simp only [Act.put, List.setIfInBounds_toArray, List.set_cons_zero, List.set_cons_succ] at ha
  subst ha
  refine wl_nil (hK _ _ ?_)
  clear hK K
  refine wp_seq_k fun K hK => ?_
  refine wp_seq_k fun K hK => ?_
  refine wr_list ?_
  refine wl_pure (.string s) rfl (fun _ => by kernel_rfl) ?_
  intro a' ha
  simp only [Act.put, List.setIfInBounds_toArray, List.set_cons_zero, List.set_cons_succ] at ha
  subst ha
  refine wl_pure (.int .i64 (s.size : Int)) rfl (fun _ => by kernel_rfl) ?_
  intro a' ha
  simp only [Act.put, List.setIfInBounds_toArray, List.set_cons_zero, List.set_cons_succ] at ha
  subst ha
  refine wl_pure (.bool false) rfl (fun _ => (show (execOp _ _).run Tryd.prog _ = .ok (.value (.bool (!decide ((s.size : Int) = 32)))) _ from by kernel_rfl).trans (by rw [hd]; rfl)) ?_
  intro a' ha
  simp only [Act.put, List.setIfInBounds_toArray, List.set_cons_zero, List.set_cons_succ] at ha
  subst ha
  refine wl_nil (hK _ _ ?_)
  clear hK K
  refine wp_cond_false rfl ?_
  refine wp_skip (hK _ _ ?_)
  clear hK K
  refine wp_seq_k fun K hK => ?_
  refine wr_list ?_
  refine wl_pure (.string s) rfl (fun _ => by kernel_rfl) ?_
  intro a' ha
  simp only [Act.put, List.setIfInBounds_toArray, List.set_cons_zero, List.set_cons_succ] at ha
  subst ha
  refine wl_bytes S3 s (.tmp 13) hs rfl rfl rfl ?_
  intro b4 c5 W6 a' S7 ha
  simp only [Act.put, List.setIfInBounds_toArray, List.set_cons_zero, List.set_cons_succ] at ha
  subst ha
  refine wl_pure (.slice (some ⟨b4, 0, none⟩) 32 c5) rfl (fun _ => by kernel_rfl) ?_
  intro a' ha
  simp only [Act.put, List.setIfInBounds_toArray, List.set_cons_zero, List.set_cons_succ] at ha
  subst ha
  refine wl_nil (hK _ _ ?_)
  clear hK K
  refine wp_seq_k fun K hK => ?_
  refine wr_list ?_
  refine wl_pure (.slice (some ⟨b4, 0, none⟩) 32 c5) rfl (fun _ => by kernel_rfl) ?_
  intro a' ha
  simp only [Act.put, List.setIfInBounds_toArray, List.set_cons_zero, List.set_cons_succ] at ha
  subst ha
  refine wl_pure (.pointer (some ⟨b4, 31, none⟩)) rfl (fun _ => by kernel_rfl) ?_
  intro a' ha
  simp only [Act.put, List.setIfInBounds_toArray, List.set_cons_zero, List.set_cons_succ] at ha
  subst ha
  refine wl_ldb S7 0 b4 31 (bys s) (.tmp 16) rfl rfl rfl rfl (by decide) ?_
  intro a' ha
  simp only [Act.put, List.setIfInBounds_toArray, List.set_cons_zero, List.set_cons_succ] at ha
  subst ha
  refine wl_pure (.int .u8 (bits .and .u8 ((bys s) 31) 128)) rfl (fun _ => by kernel_rfl) ?_
  intro a' ha
  simp only [Act.put, List.setIfInBounds_toArray, List.set_cons_zero, List.set_cons_succ] at ha
  subst ha
  refine wl_pure (.bool (!decide ((bits .and .u8 ((bys s) 31) 128) = 0))) rfl (fun _ => by kernel_rfl) ?_
  intro a' ha
  simp only [Act.put, List.setIfInBounds_toArray, List.set_cons_zero, List.set_cons_succ] at ha
  subst ha
  refine wl_pure (.bool (!decide ((bits .and .u8 ((bys s) 31) 128) = 0))) rfl (fun _ => by kernel_rfl) ?_
  intro a' ha
  simp only [Act.put, List.setIfInBounds_toArray, List.set_cons_zero, List.set_cons_succ] at ha
  subst ha
  refine wl_nil (hK _ _ ?_)
  clear hK K
  refine wp_seq_k fun K hK => ?_
  refine wr_list ?_
  refine wl_pure (.slice (some ⟨b4, 0, none⟩) 32 c5) rfl (fun _ => by kernel_rfl) ?_
  intro a' ha
  simp only [Act.put, List.setIfInBounds_toArray, List.set_cons_zero, List.set_cons_succ] at ha
  subst ha
  refine wl_pure (.pointer (some ⟨b4, 31, none⟩)) rfl (fun _ => by kernel_rfl) ?_
  intro a' ha
  simp only [Act.put, List.setIfInBounds_toArray, List.set_cons_zero, List.set_cons_succ] at ha
  subst ha
  refine wl_ldb S7 0 b4 31 (bys s) (.tmp 21) rfl rfl rfl rfl (by decide) ?_
  intro a' ha
  simp only [Act.put, List.setIfInBounds_toArray, List.set_cons_zero, List.set_cons_succ] at ha
  subst ha
  refine wl_pure (.int .u8 (bits .andNot .u8 ((bys s) 31) 128)) rfl (fun _ => by kernel_rfl) ?_
  intro a' ha
  simp only [Act.put, List.setIfInBounds_toArray, List.set_cons_zero, List.set_cons_succ] at ha
  subst ha
  refine wl_pure (.pointer (some ⟨b4, 31, none⟩)) rfl (fun _ => by kernel_rfl) ?_
  intro a' ha
  simp only [Act.put, List.setIfInBounds_toArray, List.set_cons_zero, List.set_cons_succ] at ha
  subst ha
  refine wl_stb S7 0 b4 31 (bys s) (bits .andNot .u8 ((bys s) 31) 128) (.tmp 24) (.tmp 23) rfl rfl rfl rfl rfl (by decide) ?_
  intro W8 a' S9 ha
  simp only [Act.put, List.setIfInBounds_toArray, List.set_cons_zero, List.set_cons_succ] at ha
  subst ha
  refine wl_nil (hK _ _ ?_)
  clear hK K
  refine wp_seq_k fun K hK => ?_
  refine wp_seq_k fun K hK => ?_
  refine wr_list ?_
  refine wl_pure (.slice (some ⟨b4, 0, none⟩) 32 c5) rfl (fun _ => by kernel_rfl) ?_
  intro a' ha
  simp only [Act.put, List.setIfInBounds_toArray, List.set_cons_zero, List.set_cons_succ] at ha
  subst ha
  refine wl_text S9 0 b4 c5 (fun j => if j = 31 then (bits .andNot .u8 ((bys s) 31) 128) else (bys s) j) (.tmp 25) rfl rfl rfl rfl ?_
  intro a' ha
  simp only [Act.put, List.setIfInBounds_toArray, List.set_cons_zero, List.set_cons_succ] at ha
  subst ha
  refine wl_call hZ S9 H1 rfl (fun _ => by kernel_rfl) ?_
  intro W10 a' S11 ha
  simp only [Act.put, List.setIfInBounds_toArray, List.set_cons_zero, List.set_cons_succ] at ha
  subst ha
  refine wl_pure (.bool false) rfl (fun _ => by kernel_rfl) ?_
  intro a' ha
  simp only [Act.put, List.setIfInBounds_toArray, List.set_cons_zero, List.set_cons_succ] at ha
  subst ha
  refine wl_nil (hK _ _ ?_)
  clear hK K
  refine wp_cond_false rfl ?_
  refine wp_skip (hK _ _ ?_)
  clear hK K
  refine wp_seq_k fun K hK => ?_
  refine wr_list ?_
  refine wl_pure (.slice (some ⟨b4, 0, none⟩) 32 c5) rfl (fun _ => by kernel_rfl) ?_
  intro a' ha
  simp only [Act.put, List.setIfInBounds_toArray, List.set_cons_zero, List.set_cons_succ] at ha
  subst ha
  refine wl_text S11 0 b4 c5 (fun j => if j = 31 then (bits .andNot .u8 ((bys s) 31) 128) else (bys s) j) (.tmp 30) rfl rfl rfl rfl ?_
  intro a' ha
  simp only [Act.put, List.setIfInBounds_toArray, List.set_cons_zero, List.set_cons_succ] at ha
  subst ha
  refine wl_call hZ S11 H2 rfl (fun _ => by kernel_rfl) ?_
  intro W12 a' S13 ha
  simp only [Act.put, List.setIfInBounds_toArray, List.set_cons_zero, List.set_cons_succ] at ha
  subst ha
  refine wl_alloc S13 (e4 0) 27 rfl (fun _ => by kernel_rfl) ?_
  intro b14 W15 a' S16 ha
  simp only [Act.put, List.setIfInBounds_toArray, List.set_cons_zero, List.set_cons_succ] at ha
  subst ha
  refine wl_store S16 0 b14 27 4 (.tmp 6) (.tmp 32) (e4 0) (e4 v) rfl rfl rfl rfl rfl row27 rfl rfl (e4_one _) ?_
  intro W17 a' S18 ha
  simp only [Act.put, List.setIfInBounds_toArray, List.set_cons_zero, List.set_cons_succ] at ha
  subst ha
  refine wl_nil (hK _ _ ?_)
  clear hK K
  refine wp_seq_k fun K hK => ?_
  refine wr_list ?_
  refine wl_load S18 0 b14 0 27 4 (.tmp 6) (e4 v) (e4 v) rfl rfl rfl rfl (Sub.self _) row27 rfl ?_
  intro a' ha
  simp only [Act.put, List.setIfInBounds_toArray, List.set_cons_zero, List.set_cons_succ] at ha
  subst ha
  refine wl_pure (.bool (!decide ((bits .and .u8 ((bys s) 31) 128) = 0))) rfl (fun _ => by kernel_rfl) ?_
  intro a' ha
  simp only [Act.put, List.setIfInBounds_toArray, List.set_cons_zero, List.set_cons_succ] at ha
  subst ha
  refine wl_call hZ S18 H3 rfl (fun _ => by kernel_rfl) ?_
  intro W19 a' S20 ha
  simp only [Act.put, List.setIfInBounds_toArray, List.set_cons_zero, List.set_cons_succ] at ha
  subst ha
  refine wl_pure (.tuple #[wd r, .bool false]) rfl (fun _ => by kernel_rfl) ?_
  intro a' ha
  simp only [Act.put, List.setIfInBounds_toArray, List.set_cons_zero, List.set_cons_succ] at ha
  subst ha
  refine wl_pure (wd r) rfl (fun _ => by kernel_rfl) ?_
  intro a' ha
  simp only [Act.put, List.setIfInBounds_toArray, List.set_cons_zero, List.set_cons_succ] at ha
  subst ha
  refine wl_pure (.bool false) rfl (fun _ => by kernel_rfl) ?_
  intro a' ha
  simp only [Act.put, List.setIfInBounds_toArray, List.set_cons_zero, List.set_cons_succ] at ha
  subst ha
  refine wl_alloc S20 (e4 0) 27 rfl (fun _ => by kernel_rfl) ?_
  intro b21 W22 a' S23 ha
  simp only [Act.put, List.setIfInBounds_toArray, List.set_cons_zero, List.set_cons_succ] at ha
  subst ha
  refine wl_store S23 0 b21 27 4 (.tmp 7) (.tmp 37) (e4 0) (e4 r) rfl rfl rfl rfl rfl row27 rfl rfl (e4_one _) ?_
  intro W24 a' S25 ha
  simp only [Act.put, List.setIfInBounds_toArray, List.set_cons_zero, List.set_cons_succ] at ha
  subst ha
  refine wl_pure (.bool false) rfl (fun _ => by kernel_rfl) ?_
  intro a' ha
  simp only [Act.put, List.setIfInBounds_toArray, List.set_cons_zero, List.set_cons_succ] at ha
  subst ha
  refine wl_nil (hK _ _ ?_)
  clear hK K
  refine wp_seq_k fun K hK => ?_
  refine wp_seq_k fun K hK => ?_
  refine wr_list ?_
  refine wl_pure (.bool false) rfl (fun _ => by kernel_rfl) ?_
  intro a' ha
  simp only [Act.put, List.setIfInBounds_toArray, List.set_cons_zero, List.set_cons_succ] at ha
  subst ha
  refine wl_pure (.bool true) rfl (fun _ => by kernel_rfl) ?_
  intro a' ha
  simp only [Act.put, List.setIfInBounds_toArray, List.set_cons_zero, List.set_cons_succ] at ha
  subst ha
  refine wl_nil (hK _ _ ?_)
  clear hK K
  refine wp_cond_true rfl ?_
  refine wp_seq_k fun K hK => ?_
  refine wr_list ?_
  refine wl_pure (.agg (q4 0 0 0 0)) rfl (fun _ => by kernel_rfl) ?_
  intro a' ha
  simp only [Act.put, List.setIfInBounds_toArray, List.set_cons_zero, List.set_cons_succ] at ha
  subst ha
  refine wl_store S25 3 b1 29 16 (.tmp 2) (.tmp 41) (q4 0 0 0 0) (q4 0 0 0 0) rfl rfl rfl rfl rfl row29 rfl rfl (q4_one _ _ _ _) ?_
  intro W26 a' S27 ha
  simp only [Act.put, List.setIfInBounds_toArray, List.set_cons_zero, List.set_cons_succ] at ha
  subst ha
  refine wl_pure (.int .i64 90) rfl (fun _ => by kernel_rfl) ?_
  intro a' ha
  simp only [Act.put, List.setIfInBounds_toArray, List.set_cons_zero, List.set_cons_succ] at ha
  subst ha
  refine wl_nil (hK _ _ ?_)
  clear hK K
  refine wp_ret ?_
  exact fin_cell_tmp (k := 3) S27 rfl rfl rfl rfl row29 rfl rfl
theorem decode_r {Z : World → Prop} (hZ : Keeps Z) {v r v1 v2 v3 v4 : Nat} {s : ByteArray} (hs : s.size = 32) (hd : decide ((s.size : Int) = 32) = true) (H1 : Ret Z 30 #[.string (sbi (fun j => if j = 31 then (bits .andNot .u8 ((bys s) 31) 128) else (bys s) j))] (.bool true)) (H2 : Ret Z 31 #[.string (sbi (fun j => if j = 31 then (bits .andNot .u8 ((bys s) 31) 128) else (bys s) j))] (wd v)) (H3 : Ret Z 32 #[wd v, .bool (!decide ((bits .and .u8 ((bys s) 31) 128) = 0))] (.tuple #[wd r, .bool true])) (H4 : Ret Z 33 #[wd r, wd v] (pv v1 v2 v3 v4)) : Ret Z 9 #[.string s] (.tuple #[pv v1 v2 v3 v4, .int .i64 0]) := by
  intro w hw
  have S := St.refl hw
  go_enter Tryd.func9, Tryd.ntmps9
  refine wp_seq_k fun K hK => ?_
  refine wr_list ?_
  refine wl_alloc S (q4 0 0 0 0) 29 rfl (fun _ => by kernel_rfl) ?_
  intro b1 W2 a' S3 ha
  simp only [Act.put, List.setIfInBounds_toArray, List.set_cons_zero, List.set_cons_succ] at ha
  subst ha
  refine wl_pure (.int .i64 0) rfl (fun _ => by kernel_rfl) ?_
  intro a' ha
  simp only [Act.put, List.setIfInBounds_toArray, List.set_cons_zero, List.set_cons_succ] at ha
  subst ha
  refine wl_nil (hK _ _ ?_)
  clear hK K
  refine wp_seq_k fun K hK => ?_
  refine wp_seq_k fun K hK => ?_
  refine wr_list ?_
  refine wl_pure (.string s) rfl (fun _ => by kernel_rfl) ?_
  intro a' ha
  simp only [Act.put, List.setIfInBounds_toArray, List.set_cons_zero, List.set_cons_succ] at ha
  subst ha
  refine wl_pure (.int .i64 (s.size : Int)) rfl (fun _ => by kernel_rfl) ?_
  intro a' ha
  simp only [Act.put, List.setIfInBounds_toArray, List.set_cons_zero, List.set_cons_succ] at ha
  subst ha
  refine wl_pure (.bool false) rfl (fun _ => (show (execOp _ _).run Tryd.prog _ = .ok (.value (.bool (!decide ((s.size : Int) = 32)))) _ from by kernel_rfl).trans (by rw [hd]; rfl)) ?_
  intro a' ha
  simp only [Act.put, List.setIfInBounds_toArray, List.set_cons_zero, List.set_cons_succ] at ha
  subst ha
  refine wl_nil (hK _ _ ?_)
  clear hK K
  refine wp_cond_false rfl ?_
  refine wp_skip (hK _ _ ?_)
  clear hK K
  refine wp_seq_k fun K hK => ?_
  refine wr_list ?_
  refine wl_pure (.string s) rfl (fun _ => by kernel_rfl) ?_
  intro a' ha
  simp only [Act.put, List.setIfInBounds_toArray, List.set_cons_zero, List.set_cons_succ] at ha
  subst ha
  refine wl_bytes S3 s (.tmp 13) hs rfl rfl rfl ?_
  intro b4 c5 W6 a' S7 ha
  simp only [Act.put, List.setIfInBounds_toArray, List.set_cons_zero, List.set_cons_succ] at ha
  subst ha
  refine wl_pure (.slice (some ⟨b4, 0, none⟩) 32 c5) rfl (fun _ => by kernel_rfl) ?_
  intro a' ha
  simp only [Act.put, List.setIfInBounds_toArray, List.set_cons_zero, List.set_cons_succ] at ha
  subst ha
  refine wl_nil (hK _ _ ?_)
  clear hK K
  refine wp_seq_k fun K hK => ?_
  refine wr_list ?_
  refine wl_pure (.slice (some ⟨b4, 0, none⟩) 32 c5) rfl (fun _ => by kernel_rfl) ?_
  intro a' ha
  simp only [Act.put, List.setIfInBounds_toArray, List.set_cons_zero, List.set_cons_succ] at ha
  subst ha
  refine wl_pure (.pointer (some ⟨b4, 31, none⟩)) rfl (fun _ => by kernel_rfl) ?_
  intro a' ha
  simp only [Act.put, List.setIfInBounds_toArray, List.set_cons_zero, List.set_cons_succ] at ha
  subst ha
  refine wl_ldb S7 0 b4 31 (bys s) (.tmp 16) rfl rfl rfl rfl (by decide) ?_
  intro a' ha
  simp only [Act.put, List.setIfInBounds_toArray, List.set_cons_zero, List.set_cons_succ] at ha
  subst ha
  refine wl_pure (.int .u8 (bits .and .u8 ((bys s) 31) 128)) rfl (fun _ => by kernel_rfl) ?_
  intro a' ha
  simp only [Act.put, List.setIfInBounds_toArray, List.set_cons_zero, List.set_cons_succ] at ha
  subst ha
  refine wl_pure (.bool (!decide ((bits .and .u8 ((bys s) 31) 128) = 0))) rfl (fun _ => by kernel_rfl) ?_
  intro a' ha
  simp only [Act.put, List.setIfInBounds_toArray, List.set_cons_zero, List.set_cons_succ] at ha
  subst ha
  refine wl_pure (.bool (!decide ((bits .and .u8 ((bys s) 31) 128) = 0))) rfl (fun _ => by kernel_rfl) ?_
  intro a' ha
  simp only [Act.put, List.setIfInBounds_toArray, List.set_cons_zero, List.set_cons_succ] at ha
  subst ha
  refine wl_nil (hK _ _ ?_)
  clear hK K
  refine wp_seq_k fun K hK => ?_
  refine wr_list ?_
  refine wl_pure (.slice (some ⟨b4, 0, none⟩) 32 c5) rfl (fun _ => by kernel_rfl) ?_
  intro a' ha
  simp only [Act.put, List.setIfInBounds_toArray, List.set_cons_zero, List.set_cons_succ] at ha
  subst ha
  refine wl_pure (.pointer (some ⟨b4, 31, none⟩)) rfl (fun _ => by kernel_rfl) ?_
  intro a' ha
  simp only [Act.put, List.setIfInBounds_toArray, List.set_cons_zero, List.set_cons_succ] at ha
  subst ha
  refine wl_ldb S7 0 b4 31 (bys s) (.tmp 21) rfl rfl rfl rfl (by decide) ?_
  intro a' ha
  simp only [Act.put, List.setIfInBounds_toArray, List.set_cons_zero, List.set_cons_succ] at ha
  subst ha
  refine wl_pure (.int .u8 (bits .andNot .u8 ((bys s) 31) 128)) rfl (fun _ => by kernel_rfl) ?_
  intro a' ha
  simp only [Act.put, List.setIfInBounds_toArray, List.set_cons_zero, List.set_cons_succ] at ha
  subst ha
  refine wl_pure (.pointer (some ⟨b4, 31, none⟩)) rfl (fun _ => by kernel_rfl) ?_
  intro a' ha
  simp only [Act.put, List.setIfInBounds_toArray, List.set_cons_zero, List.set_cons_succ] at ha
  subst ha
  refine wl_stb S7 0 b4 31 (bys s) (bits .andNot .u8 ((bys s) 31) 128) (.tmp 24) (.tmp 23) rfl rfl rfl rfl rfl (by decide) ?_
  intro W8 a' S9 ha
  simp only [Act.put, List.setIfInBounds_toArray, List.set_cons_zero, List.set_cons_succ] at ha
  subst ha
  refine wl_nil (hK _ _ ?_)
  clear hK K
  refine wp_seq_k fun K hK => ?_
  refine wp_seq_k fun K hK => ?_
  refine wr_list ?_
  refine wl_pure (.slice (some ⟨b4, 0, none⟩) 32 c5) rfl (fun _ => by kernel_rfl) ?_
  intro a' ha
  simp only [Act.put, List.setIfInBounds_toArray, List.set_cons_zero, List.set_cons_succ] at ha
  subst ha
  refine wl_text S9 0 b4 c5 (fun j => if j = 31 then (bits .andNot .u8 ((bys s) 31) 128) else (bys s) j) (.tmp 25) rfl rfl rfl rfl ?_
  intro a' ha
  simp only [Act.put, List.setIfInBounds_toArray, List.set_cons_zero, List.set_cons_succ] at ha
  subst ha
  refine wl_call hZ S9 H1 rfl (fun _ => by kernel_rfl) ?_
  intro W10 a' S11 ha
  simp only [Act.put, List.setIfInBounds_toArray, List.set_cons_zero, List.set_cons_succ] at ha
  subst ha
  refine wl_pure (.bool false) rfl (fun _ => by kernel_rfl) ?_
  intro a' ha
  simp only [Act.put, List.setIfInBounds_toArray, List.set_cons_zero, List.set_cons_succ] at ha
  subst ha
  refine wl_nil (hK _ _ ?_)
  clear hK K
  refine wp_cond_false rfl ?_
  refine wp_skip (hK _ _ ?_)
  clear hK K
  refine wp_seq_k fun K hK => ?_
  refine wr_list ?_
  refine wl_pure (.slice (some ⟨b4, 0, none⟩) 32 c5) rfl (fun _ => by kernel_rfl) ?_
  intro a' ha
  simp only [Act.put, List.setIfInBounds_toArray, List.set_cons_zero, List.set_cons_succ] at ha
  subst ha
  refine wl_text S11 0 b4 c5 (fun j => if j = 31 then (bits .andNot .u8 ((bys s) 31) 128) else (bys s) j) (.tmp 30) rfl rfl rfl rfl ?_
  intro a' ha
  simp only [Act.put, List.setIfInBounds_toArray, List.set_cons_zero, List.set_cons_succ] at ha
  subst ha
  refine wl_call hZ S11 H2 rfl (fun _ => by kernel_rfl) ?_
  intro W12 a' S13 ha
  simp only [Act.put, List.setIfInBounds_toArray, List.set_cons_zero, List.set_cons_succ] at ha
  subst ha
  refine wl_alloc S13 (e4 0) 27 rfl (fun _ => by kernel_rfl) ?_
  intro b14 W15 a' S16 ha
  simp only [Act.put, List.setIfInBounds_toArray, List.set_cons_zero, List.set_cons_succ] at ha
  subst ha
  refine wl_store S16 0 b14 27 4 (.tmp 6) (.tmp 32) (e4 0) (e4 v) rfl rfl rfl rfl rfl row27 rfl rfl (e4_one _) ?_
  intro W17 a' S18 ha
  simp only [Act.put, List.setIfInBounds_toArray, List.set_cons_zero, List.set_cons_succ] at ha
  subst ha
  refine wl_nil (hK _ _ ?_)
  clear hK K
  refine wp_seq_k fun K hK => ?_
  refine wr_list ?_
  refine wl_load S18 0 b14 0 27 4 (.tmp 6) (e4 v) (e4 v) rfl rfl rfl rfl (Sub.self _) row27 rfl ?_
  intro a' ha
  simp only [Act.put, List.setIfInBounds_toArray, List.set_cons_zero, List.set_cons_succ] at ha
  subst ha
  refine wl_pure (.bool (!decide ((bits .and .u8 ((bys s) 31) 128) = 0))) rfl (fun _ => by kernel_rfl) ?_
  intro a' ha
  simp only [Act.put, List.setIfInBounds_toArray, List.set_cons_zero, List.set_cons_succ] at ha
  subst ha
  refine wl_call hZ S18 H3 rfl (fun _ => by kernel_rfl) ?_
  intro W19 a' S20 ha
  simp only [Act.put, List.setIfInBounds_toArray, List.set_cons_zero, List.set_cons_succ] at ha
  subst ha
  refine wl_pure (.tuple #[wd r, .bool true]) rfl (fun _ => by kernel_rfl) ?_
  intro a' ha
  simp only [Act.put, List.setIfInBounds_toArray, List.set_cons_zero, List.set_cons_succ] at ha
  subst ha
  refine wl_pure (wd r) rfl (fun _ => by kernel_rfl) ?_
  intro a' ha
  simp only [Act.put, List.setIfInBounds_toArray, List.set_cons_zero, List.set_cons_succ] at ha
  subst ha
  refine wl_pure (.bool true) rfl (fun _ => by kernel_rfl) ?_
  intro a' ha
  simp only [Act.put, List.setIfInBounds_toArray, List.set_cons_zero, List.set_cons_succ] at ha
  subst ha
  refine wl_alloc S20 (e4 0) 27 rfl (fun _ => by kernel_rfl) ?_
  intro b21 W22 a' S23 ha
  simp only [Act.put, List.setIfInBounds_toArray, List.set_cons_zero, List.set_cons_succ] at ha
  subst ha
  refine wl_store S23 0 b21 27 4 (.tmp 7) (.tmp 37) (e4 0) (e4 r) rfl rfl rfl rfl rfl row27 rfl rfl (e4_one _) ?_
  intro W24 a' S25 ha
  simp only [Act.put, List.setIfInBounds_toArray, List.set_cons_zero, List.set_cons_succ] at ha
  subst ha
  refine wl_pure (.bool true) rfl (fun _ => by kernel_rfl) ?_
  intro a' ha
  simp only [Act.put, List.setIfInBounds_toArray, List.set_cons_zero, List.set_cons_succ] at ha
  subst ha
  refine wl_nil (hK _ _ ?_)
  clear hK K
  refine wp_seq_k fun K hK => ?_
  refine wp_seq_k fun K hK => ?_
  refine wr_list ?_
  refine wl_pure (.bool true) rfl (fun _ => by kernel_rfl) ?_
  intro a' ha
  simp only [Act.put, List.setIfInBounds_toArray, List.set_cons_zero, List.set_cons_succ] at ha
  subst ha
  refine wl_pure (.bool false) rfl (fun _ => by kernel_rfl) ?_
  intro a' ha
  simp only [Act.put, List.setIfInBounds_toArray, List.set_cons_zero, List.set_cons_succ] at ha
  subst ha
  refine wl_nil (hK _ _ ?_)
  clear hK K
  refine wp_cond_false rfl ?_
  refine wp_skip (hK _ _ ?_)
  clear hK K
  refine wp_seq_k fun K hK => ?_
  refine wr_list ?_
  refine wl_load S25 0 b21 0 27 4 (.tmp 7) (e4 r) (e4 r) rfl rfl rfl rfl (Sub.self _) row27 rfl ?_
  intro a' ha
  simp only [Act.put, List.setIfInBounds_toArray, List.set_cons_zero, List.set_cons_succ] at ha
  subst ha
  refine wl_load S25 1 b14 0 27 4 (.tmp 6) (e4 v) (e4 v) rfl rfl rfl rfl (Sub.self _) row27 rfl ?_
  intro a' ha
  simp only [Act.put, List.setIfInBounds_toArray, List.set_cons_zero, List.set_cons_succ] at ha
  subst ha
  refine wl_call hZ S25 H4 rfl (fun _ => by kernel_rfl) ?_
  intro W26 a' S27 ha
  simp only [Act.put, List.setIfInBounds_toArray, List.set_cons_zero, List.set_cons_succ] at ha
  subst ha
  refine wl_store S27 3 b1 29 16 (.tmp 2) (.tmp 44) (q4 0 0 0 0) (q4 v1 v2 v3 v4) rfl rfl rfl rfl rfl row29 rfl rfl (q4_one _ _ _ _) ?_
  intro W28 a' S29 ha
  simp only [Act.put, List.setIfInBounds_toArray, List.set_cons_zero, List.set_cons_succ] at ha
  subst ha
  refine wl_pure (.int .i64 0) rfl (fun _ => by kernel_rfl) ?_
  intro a' ha
  simp only [Act.put, List.setIfInBounds_toArray, List.set_cons_zero, List.set_cons_succ] at ha
  subst ha
  refine wl_nil (hK _ _ ?_)
  clear hK K
  refine wp_ret ?_
  exact fin_cell_tmp (k := 3) S29 rfl rfl rfl rfl row29 rfl rfl
theorem bytes_no {Z : World → Prop} (hZ : Keeps Z) {x1 y1 z1 t1 : Nat} (H1 : Ret Z 42 #[pv x1 y1 z1 t1] (.bool true)) : Ret Z 13 #[pv x1 y1 z1 t1] (.string ⟨#[]⟩) := by
  intro w hw
  have S := St.refl hw
  go_enter Tryd.func13, Tryd.ntmps13
  refine wp_seq_k fun K hK => ?_
  refine wr_list ?_
  refine wl_alloc S (q4 x1 y1 z1 t1) 29 rfl (fun _ => by kernel_rfl) ?_
  intro b1 W2 a' S3 ha
  simp only [Act.put, List.setIfInBounds_toArray, List.set_cons_zero, List.set_cons_succ] at ha
  subst ha
  refine wl_pure (.string ⟨#[]⟩) rfl (fun _ => by kernel_rfl) ?_
  intro a' ha
  simp only [Act.put, List.setIfInBounds_toArray, List.set_cons_zero, List.set_cons_succ] at ha
  subst ha
  refine wl_nil (hK _ _ ?_)
  clear hK K
  refine wp_seq_k fun K hK => ?_
  refine wp_seq_k fun K hK => ?_
  refine wr_list ?_
  refine wl_load S3 0 b1 0 29 16 (.tmp 1) (q4 x1 y1 z1 t1) (q4 x1 y1 z1 t1) rfl rfl rfl rfl (Sub.self _) row29 rfl ?_
  intro a' ha
  simp only [Act.put, List.setIfInBounds_toArray, List.set_cons_zero, List.set_cons_succ] at ha
  subst ha
  refine wl_call hZ S3 H1 rfl (fun _ => by kernel_rfl) ?_
  intro W4 a' S5 ha
  simp only [Act.put, List.setIfInBounds_toArray, List.set_cons_zero, List.set_cons_succ] at ha
  subst ha
  refine wl_nil (hK _ _ ?_)
  clear hK K
  refine wp_cond_true rfl ?_
  refine wp_seq_k fun K hK => ?_
  refine wr_list ?_
  refine wl_pure (.string ⟨#[]⟩) rfl (fun _ => by kernel_rfl) ?_
  intro a' ha
  simp only [Act.put, List.setIfInBounds_toArray, List.set_cons_zero, List.set_cons_succ] at ha
  subst ha
  refine wl_nil (hK _ _ ?_)
  clear hK K
  refine wp_ret ?_
  exact fin_tmp S5 rfl rfl rfl
theorem bytes_even {Z : World → Prop} (hZ : Keeps Z) {x1 y1 z1 t1 v1 v2 v3 : Nat} {s : ByteArray} (hs : s.size = 32) (H1 : Ret Z 42 #[pv x1 y1 z1 t1] (.bool false)) (H2 : Ret Z 43 #[wd z1] (wd v1)) (H3 : Ret Z 44 #[wd y1, wd v1] (wd v2)) (H4 : Ret Z 45 #[wd v2] (.string s)) (H5 : Ret Z 44 #[wd x1, wd v1] (wd v3)) (H6 : Ret Z 46 #[wd v3] (.bool false)) : Ret Z 13 #[pv x1 y1 z1 t1] (.string (sbi (bys s))) := by
  intro w hw
  have S := St.refl hw
  go_enter Tryd.func13, Tryd.ntmps13
  refine wp_seq_k fun K hK => ?_
  refine wr_list ?_
  refine wl_alloc S (q4 x1 y1 z1 t1) 29 rfl (fun _ => by kernel_rfl) ?_
  intro b1 W2 a' S3 ha
  simp only [Act.put, List.setIfInBounds_toArray, List.set_cons_zero, List.set_cons_succ] at ha
  subst ha
  refine wl_pure (.string ⟨#[]⟩) rfl (fun _ => by kernel_rfl) ?_
  intro a' ha
  simp only [Act.put, List.setIfInBounds_toArray, List.set_cons_zero, List.set_cons_succ] at ha
  subst ha
  refine wl_nil (hK _ _ ?_)
  clear hK K
  refine wp_seq_k fun K hK => ?_
  refine wp_seq_k fun K hK => ?_
  refine wr_list ?_
  refine wl_load S3 0 b1 0 29 16 (.tmp 1) (q4 x1 y1 z1 t1) (q4 x1 y1 z1 t1) rfl rfl rfl rfl (Sub.self _) row29 rfl ?_
  intro a' ha
  simp only [Act.put, List.setIfInBounds_toArray, List.set_cons_zero, List.set_cons_succ] at ha
  subst ha
  refine wl_call hZ S3 H1 rfl (fun _ => by kernel_rfl) ?_
  intro W4 a' S5 ha
  simp only [Act.put, List.setIfInBounds_toArray, List.set_cons_zero, List.set_cons_succ] at ha
  subst ha
  refine wl_nil (hK _ _ ?_)
  clear hK K
  refine wp_cond_false rfl ?_
  refine wp_skip (hK _ _ ?_)
  clear hK K
  refine wp_seq_k fun K hK => ?_
  refine wr_list ?_
  refine wl_pure (.pointer (some ⟨b1, 8, none⟩)) rfl (fun _ => by kernel_rfl) ?_
  intro a' ha
  simp only [Act.put, List.setIfInBounds_toArray, List.set_cons_zero, List.set_cons_succ] at ha
  subst ha
  refine wl_load S5 0 b1 8 27 4 (.tmp 7) (q4 x1 y1 z1 t1) (e4 z1) rfl rfl rfl rfl (sub_z _ _ _ _) row27 rfl ?_
  intro a' ha
  simp only [Act.put, List.setIfInBounds_toArray, List.set_cons_zero, List.set_cons_succ] at ha
  subst ha
  refine wl_call hZ S5 H2 rfl (fun _ => by kernel_rfl) ?_
  intro W6 a' S7 ha
  simp only [Act.put, List.setIfInBounds_toArray, List.set_cons_zero, List.set_cons_succ] at ha
  subst ha
  refine wl_alloc S7 (e4 0) 27 rfl (fun _ => by kernel_rfl) ?_
  intro b8 W9 a' S10 ha
  simp only [Act.put, List.setIfInBounds_toArray, List.set_cons_zero, List.set_cons_succ] at ha
  subst ha
  refine wl_store S10 0 b8 27 4 (.tmp 3) (.tmp 9) (e4 0) (e4 v1) rfl rfl rfl rfl rfl row27 rfl rfl (e4_one _) ?_
  intro W11 a' S12 ha
  simp only [Act.put, List.setIfInBounds_toArray, List.set_cons_zero, List.set_cons_succ] at ha
  subst ha
  refine wl_nil (hK _ _ ?_)
  clear hK K
  refine wp_seq_k fun K hK => ?_
  refine wr_list ?_
  refine wl_pure (.pointer (some ⟨b1, 4, none⟩)) rfl (fun _ => by kernel_rfl) ?_
  intro a' ha
  simp only [Act.put, List.setIfInBounds_toArray, List.set_cons_zero, List.set_cons_succ] at ha
  subst ha
  refine wl_load S12 1 b1 4 27 4 (.tmp 10) (q4 x1 y1 z1 t1) (e4 y1) rfl rfl rfl rfl (sub_y _ _ _ _) row27 rfl ?_
  intro a' ha
  simp only [Act.put, List.setIfInBounds_toArray, List.set_cons_zero, List.set_cons_succ] at ha
  subst ha
  refine wl_load S12 0 b8 0 27 4 (.tmp 3) (e4 v1) (e4 v1) rfl rfl rfl rfl (Sub.self _) row27 rfl ?_
  intro a' ha
  simp only [Act.put, List.setIfInBounds_toArray, List.set_cons_zero, List.set_cons_succ] at ha
  subst ha
  refine wl_call hZ S12 H3 rfl (fun _ => by kernel_rfl) ?_
  intro W13 a' S14 ha
  simp only [Act.put, List.setIfInBounds_toArray, List.set_cons_zero, List.set_cons_succ] at ha
  subst ha
  refine wl_call hZ S14 H4 rfl (fun _ => by kernel_rfl) ?_
  intro W15 a' S16 ha
  simp only [Act.put, List.setIfInBounds_toArray, List.set_cons_zero, List.set_cons_succ] at ha
  subst ha
  refine wl_bytes S16 s (.tmp 14) hs rfl rfl rfl ?_
  intro b17 c18 W19 a' S20 ha
  simp only [Act.put, List.setIfInBounds_toArray, List.set_cons_zero, List.set_cons_succ] at ha
  subst ha
  refine wl_pure (.slice (some ⟨b17, 0, none⟩) 32 c18) rfl (fun _ => by kernel_rfl) ?_
  intro a' ha
  simp only [Act.put, List.setIfInBounds_toArray, List.set_cons_zero, List.set_cons_succ] at ha
  subst ha
  refine wl_nil (hK _ _ ?_)
  clear hK K
  refine wp_seq_k fun K hK => ?_
  refine wp_seq_k fun K hK => ?_
  refine wr_list ?_
  refine wl_pure (.pointer (some ⟨b1, 0, none⟩)) rfl (fun _ => by kernel_rfl) ?_
  intro a' ha
  simp only [Act.put, List.setIfInBounds_toArray, List.set_cons_zero, List.set_cons_succ] at ha
  subst ha
  refine wl_load S20 2 b1 0 27 4 (.tmp 16) (q4 x1 y1 z1 t1) (e4 x1) rfl rfl rfl rfl (sub_x _ _ _ _) row27 rfl ?_
  intro a' ha
  simp only [Act.put, List.setIfInBounds_toArray, List.set_cons_zero, List.set_cons_succ] at ha
  subst ha
  refine wl_load S20 1 b8 0 27 4 (.tmp 3) (e4 v1) (e4 v1) rfl rfl rfl rfl (Sub.self _) row27 rfl ?_
  intro a' ha
  simp only [Act.put, List.setIfInBounds_toArray, List.set_cons_zero, List.set_cons_succ] at ha
  subst ha
  refine wl_call hZ S20 H5 rfl (fun _ => by kernel_rfl) ?_
  intro W21 a' S22 ha
  simp only [Act.put, List.setIfInBounds_toArray, List.set_cons_zero, List.set_cons_succ] at ha
  subst ha
  refine wl_call hZ S22 H6 rfl (fun _ => by kernel_rfl) ?_
  intro W23 a' S24 ha
  simp only [Act.put, List.setIfInBounds_toArray, List.set_cons_zero, List.set_cons_succ] at ha
  subst ha
  refine wl_nil (hK _ _ ?_)
  clear hK K
  refine wp_cond_false rfl ?_
  refine wp_skip (hK _ _ ?_)
  clear hK K
  refine wp_seq_k fun K hK => ?_
  refine wr_list ?_
  refine wl_pure (.slice (some ⟨b17, 0, none⟩) 32 c18) rfl (fun _ => by kernel_rfl) ?_
  intro a' ha
  simp only [Act.put, List.setIfInBounds_toArray, List.set_cons_zero, List.set_cons_succ] at ha
  subst ha
  refine wl_text S24 0 b17 c18 (bys s) (.tmp 26) rfl rfl rfl rfl ?_
  intro a' ha
  simp only [Act.put, List.setIfInBounds_toArray, List.set_cons_zero, List.set_cons_succ] at ha
  subst ha
  refine wl_pure (.string (sbi (bys s))) rfl (fun _ => by kernel_rfl) ?_
  intro a' ha
  simp only [Act.put, List.setIfInBounds_toArray, List.set_cons_zero, List.set_cons_succ] at ha
  subst ha
  refine wl_nil (hK _ _ ?_)
  clear hK K
  refine wp_ret ?_
  exact fin_tmp S24 rfl rfl rfl
theorem bytes_odd {Z : World → Prop} (hZ : Keeps Z) {x1 y1 z1 t1 v1 v2 v3 : Nat} {s : ByteArray} (hs : s.size = 32) (H1 : Ret Z 42 #[pv x1 y1 z1 t1] (.bool false)) (H2 : Ret Z 43 #[wd z1] (wd v1)) (H3 : Ret Z 44 #[wd y1, wd v1] (wd v2)) (H4 : Ret Z 45 #[wd v2] (.string s)) (H5 : Ret Z 44 #[wd x1, wd v1] (wd v3)) (H6 : Ret Z 46 #[wd v3] (.bool true)) : Ret Z 13 #[pv x1 y1 z1 t1] (.string (sbi (fun j => if j = 31 then (bits .or .u8 ((bys s) 31) 128) else (bys s) j))) := by
  intro w hw
  have S := St.refl hw
  go_enter Tryd.func13, Tryd.ntmps13
  refine wp_seq_k fun K hK => ?_
  refine wr_list ?_
  refine wl_alloc S (q4 x1 y1 z1 t1) 29 rfl (fun _ => by kernel_rfl) ?_
  intro b1 W2 a' S3 ha
  simp only [Act.put, List.setIfInBounds_toArray, List.set_cons_zero, List.set_cons_succ] at ha
  subst ha
  refine wl_pure (.string ⟨#[]⟩) rfl (fun _ => by kernel_rfl) ?_
  intro a' ha
  simp only [Act.put, List.setIfInBounds_toArray, List.set_cons_zero, List.set_cons_succ] at ha
  subst ha
  refine wl_nil (hK _ _ ?_)
  clear hK K
  refine wp_seq_k fun K hK => ?_
  refine wp_seq_k fun K hK => ?_
  refine wr_list ?_
  refine wl_load S3 0 b1 0 29 16 (.tmp 1) (q4 x1 y1 z1 t1) (q4 x1 y1 z1 t1) rfl rfl rfl rfl (Sub.self _) row29 rfl ?_
  intro a' ha
  simp only [Act.put, List.setIfInBounds_toArray, List.set_cons_zero, List.set_cons_succ] at ha
  subst ha
  refine wl_call hZ S3 H1 rfl (fun _ => by kernel_rfl) ?_
  intro W4 a' S5 ha
  simp only [Act.put, List.setIfInBounds_toArray, List.set_cons_zero, List.set_cons_succ] at ha
  subst ha
  refine wl_nil (hK _ _ ?_)
  clear hK K
  refine wp_cond_false rfl ?_
  refine wp_skip (hK _ _ ?_)
  clear hK K
  refine wp_seq_k fun K hK => ?_
  refine wr_list ?_
  refine wl_pure (.pointer (some ⟨b1, 8, none⟩)) rfl (fun _ => by kernel_rfl) ?_
  intro a' ha
  simp only [Act.put, List.setIfInBounds_toArray, List.set_cons_zero, List.set_cons_succ] at ha
  subst ha
  refine wl_load S5 0 b1 8 27 4 (.tmp 7) (q4 x1 y1 z1 t1) (e4 z1) rfl rfl rfl rfl (sub_z _ _ _ _) row27 rfl ?_
  intro a' ha
  simp only [Act.put, List.setIfInBounds_toArray, List.set_cons_zero, List.set_cons_succ] at ha
  subst ha
  refine wl_call hZ S5 H2 rfl (fun _ => by kernel_rfl) ?_
  intro W6 a' S7 ha
  simp only [Act.put, List.setIfInBounds_toArray, List.set_cons_zero, List.set_cons_succ] at ha
  subst ha
  refine wl_alloc S7 (e4 0) 27 rfl (fun _ => by kernel_rfl) ?_
  intro b8 W9 a' S10 ha
  simp only [Act.put, List.setIfInBounds_toArray, List.set_cons_zero, List.set_cons_succ] at ha
  subst ha
  refine wl_store S10 0 b8 27 4 (.tmp 3) (.tmp 9) (e4 0) (e4 v1) rfl rfl rfl rfl rfl row27 rfl rfl (e4_one _) ?_
  intro W11 a' S12 ha
  simp only [Act.put, List.setIfInBounds_toArray, List.set_cons_zero, List.set_cons_succ] at ha
  subst ha
  refine wl_nil (hK _ _ ?_)
  clear hK K
  refine wp_seq_k fun K hK => ?_
  refine wr_list ?_
  refine wl_pure (.pointer (some ⟨b1, 4, none⟩)) rfl (fun _ => by kernel_rfl) ?_
  intro a' ha
  simp only [Act.put, List.setIfInBounds_toArray, List.set_cons_zero, List.set_cons_succ] at ha
  subst ha
  refine wl_load S12 1 b1 4 27 4 (.tmp 10) (q4 x1 y1 z1 t1) (e4 y1) rfl rfl rfl rfl (sub_y _ _ _ _) row27 rfl ?_
  intro a' ha
  simp only [Act.put, List.setIfInBounds_toArray, List.set_cons_zero, List.set_cons_succ] at ha
  subst ha
  refine wl_load S12 0 b8 0 27 4 (.tmp 3) (e4 v1) (e4 v1) rfl rfl rfl rfl (Sub.self _) row27 rfl ?_
  intro a' ha
  simp only [Act.put, List.setIfInBounds_toArray, List.set_cons_zero, List.set_cons_succ] at ha
  subst ha
  refine wl_call hZ S12 H3 rfl (fun _ => by kernel_rfl) ?_
  intro W13 a' S14 ha
  simp only [Act.put, List.setIfInBounds_toArray, List.set_cons_zero, List.set_cons_succ] at ha
  subst ha
  refine wl_call hZ S14 H4 rfl (fun _ => by kernel_rfl) ?_
  intro W15 a' S16 ha
  simp only [Act.put, List.setIfInBounds_toArray, List.set_cons_zero, List.set_cons_succ] at ha
  subst ha
  refine wl_bytes S16 s (.tmp 14) hs rfl rfl rfl ?_
  intro b17 c18 W19 a' S20 ha
  simp only [Act.put, List.setIfInBounds_toArray, List.set_cons_zero, List.set_cons_succ] at ha
  subst ha
  refine wl_pure (.slice (some ⟨b17, 0, none⟩) 32 c18) rfl (fun _ => by kernel_rfl) ?_
  intro a' ha
  simp only [Act.put, List.setIfInBounds_toArray, List.set_cons_zero, List.set_cons_succ] at ha
  subst ha
  refine wl_nil (hK _ _ ?_)
  clear hK K
  refine wp_seq_k fun K hK => ?_
  refine wp_seq_k fun K hK => ?_
  refine wr_list ?_
  refine wl_pure (.pointer (some ⟨b1, 0, none⟩)) rfl (fun _ => by kernel_rfl) ?_
  intro a' ha
  simp only [Act.put, List.setIfInBounds_toArray, List.set_cons_zero, List.set_cons_succ] at ha
  subst ha
  refine wl_load S20 2 b1 0 27 4 (.tmp 16) (q4 x1 y1 z1 t1) (e4 x1) rfl rfl rfl rfl (sub_x _ _ _ _) row27 rfl ?_
  intro a' ha
  simp only [Act.put, List.setIfInBounds_toArray, List.set_cons_zero, List.set_cons_succ] at ha
  subst ha
  refine wl_load S20 1 b8 0 27 4 (.tmp 3) (e4 v1) (e4 v1) rfl rfl rfl rfl (Sub.self _) row27 rfl ?_
  intro a' ha
  simp only [Act.put, List.setIfInBounds_toArray, List.set_cons_zero, List.set_cons_succ] at ha
  subst ha
  refine wl_call hZ S20 H5 rfl (fun _ => by kernel_rfl) ?_
  intro W21 a' S22 ha
  simp only [Act.put, List.setIfInBounds_toArray, List.set_cons_zero, List.set_cons_succ] at ha
  subst ha
  refine wl_call hZ S22 H6 rfl (fun _ => by kernel_rfl) ?_
  intro W23 a' S24 ha
  simp only [Act.put, List.setIfInBounds_toArray, List.set_cons_zero, List.set_cons_succ] at ha
  subst ha
  refine wl_nil (hK _ _ ?_)
  clear hK K
  refine wp_cond_true rfl ?_
  refine wr_list ?_
  refine wl_pure (.slice (some ⟨b17, 0, none⟩) 32 c18) rfl (fun _ => by kernel_rfl) ?_
  intro a' ha
  simp only [Act.put, List.setIfInBounds_toArray, List.set_cons_zero, List.set_cons_succ] at ha
  subst ha
  refine wl_pure (.pointer (some ⟨b17, 31, none⟩)) rfl (fun _ => by kernel_rfl) ?_
  intro a' ha
  simp only [Act.put, List.setIfInBounds_toArray, List.set_cons_zero, List.set_cons_succ] at ha
  subst ha
  refine wl_ldb S24 0 b17 31 (bys s) (.tmp 22) rfl rfl rfl rfl (by decide) ?_
  intro a' ha
  simp only [Act.put, List.setIfInBounds_toArray, List.set_cons_zero, List.set_cons_succ] at ha
  subst ha
  refine wl_pure (.int .u8 (bits .or .u8 ((bys s) 31) 128)) rfl (fun _ => by kernel_rfl) ?_
  intro a' ha
  simp only [Act.put, List.setIfInBounds_toArray, List.set_cons_zero, List.set_cons_succ] at ha
  subst ha
  refine wl_pure (.pointer (some ⟨b17, 31, none⟩)) rfl (fun _ => by kernel_rfl) ?_
  intro a' ha
  simp only [Act.put, List.setIfInBounds_toArray, List.set_cons_zero, List.set_cons_succ] at ha
  subst ha
  refine wl_stb S24 0 b17 31 (bys s) (bits .or .u8 ((bys s) 31) 128) (.tmp 25) (.tmp 24) rfl rfl rfl rfl rfl (by decide) ?_
  intro W25 a' S26 ha
  simp only [Act.put, List.setIfInBounds_toArray, List.set_cons_zero, List.set_cons_succ] at ha
  subst ha
  refine wl_nil (hK _ _ ?_)
  clear hK K
  refine wp_seq_k fun K hK => ?_
  refine wr_list ?_
  refine wl_pure (.slice (some ⟨b17, 0, none⟩) 32 c18) rfl (fun _ => by kernel_rfl) ?_
  intro a' ha
  simp only [Act.put, List.setIfInBounds_toArray, List.set_cons_zero, List.set_cons_succ] at ha
  subst ha
  refine wl_text S26 0 b17 c18 (fun j => if j = 31 then (bits .or .u8 ((bys s) 31) 128) else (bys s) j) (.tmp 26) rfl rfl rfl rfl ?_
  intro a' ha
  simp only [Act.put, List.setIfInBounds_toArray, List.set_cons_zero, List.set_cons_succ] at ha
  subst ha
  refine wl_pure (.string (sbi (fun j => if j = 31 then (bits .or .u8 ((bys s) 31) 128) else (bys s) j))) rfl (fun _ => by kernel_rfl) ?_
  intro a' ha
  simp only [Act.put, List.setIfInBounds_toArray, List.set_cons_zero, List.set_cons_succ] at ha
  subst ha
  refine wl_nil (hK _ _ ?_)
  clear hK K
  refine wp_ret ?_
  exact fin_tmp S26 rfl rfl rfl
theorem same_no1 {Z : World → Prop} (hZ : Keeps Z) {x1 y1 z1 t1 x2 y2 z2 t2 : Nat} (H1 : Ret Z 42 #[pv x1 y1 z1 t1] (.bool true)) : Ret Z 14 #[pv x1 y1 z1 t1, pv x2 y2 z2 t2] (.bool false) := by
  intro w hw
  have S := St.refl hw
  go_enter Tryd.func14, Tryd.ntmps14
  refine wp_seq_k fun K hK => ?_
  refine wr_list ?_
  refine wl_alloc S (q4 x1 y1 z1 t1) 29 rfl (fun _ => by kernel_rfl) ?_
  intro b1 W2 a' S3 ha
  simp only [Act.put, List.setIfInBounds_toArray, List.set_cons_zero, List.set_cons_succ] at ha
  subst ha
  refine wl_alloc S3 (q4 x2 y2 z2 t2) 29 rfl (fun _ => by kernel_rfl) ?_
  intro b4 W5 a' S6 ha
  simp only [Act.put, List.setIfInBounds_toArray, List.set_cons_zero, List.set_cons_succ] at ha
  subst ha
  refine wl_pure (.bool false) rfl (fun _ => by kernel_rfl) ?_
  intro a' ha
  simp only [Act.put, List.setIfInBounds_toArray, List.set_cons_zero, List.set_cons_succ] at ha
  subst ha
  refine wl_nil (hK _ _ ?_)
  clear hK K
  refine wp_seq_k fun K hK => ?_
  refine wp_seq_k fun K hK => ?_
  refine wr_list ?_
  refine wl_load S6 1 b1 0 29 16 (.tmp 2) (q4 x1 y1 z1 t1) (q4 x1 y1 z1 t1) rfl rfl rfl rfl (Sub.self _) row29 rfl ?_
  intro a' ha
  simp only [Act.put, List.setIfInBounds_toArray, List.set_cons_zero, List.set_cons_succ] at ha
  subst ha
  refine wl_call hZ S6 H1 rfl (fun _ => by kernel_rfl) ?_
  intro W7 a' S8 ha
  simp only [Act.put, List.setIfInBounds_toArray, List.set_cons_zero, List.set_cons_succ] at ha
  subst ha
  refine wl_pure (.bool true) rfl (fun _ => by kernel_rfl) ?_
  intro a' ha
  simp only [Act.put, List.setIfInBounds_toArray, List.set_cons_zero, List.set_cons_succ] at ha
  subst ha
  refine wl_skip (by kernel_rfl) ?_
  intro a' ha
  simp only [Act.put, List.setIfInBounds_toArray, List.set_cons_zero, List.set_cons_succ] at ha
  subst ha
  refine wl_skip (by kernel_rfl) ?_
  intro a' ha
  simp only [Act.put, List.setIfInBounds_toArray, List.set_cons_zero, List.set_cons_succ] at ha
  subst ha
  refine wl_pure (.bool true) rfl (fun _ => by kernel_rfl) ?_
  intro a' ha
  simp only [Act.put, List.setIfInBounds_toArray, List.set_cons_zero, List.set_cons_succ] at ha
  subst ha
  refine wl_nil (hK _ _ ?_)
  clear hK K
  refine wp_cond_true rfl ?_
  refine wp_seq_k fun K hK => ?_
  refine wr_list ?_
  refine wl_pure (.bool false) rfl (fun _ => by kernel_rfl) ?_
  intro a' ha
  simp only [Act.put, List.setIfInBounds_toArray, List.set_cons_zero, List.set_cons_succ] at ha
  subst ha
  refine wl_nil (hK _ _ ?_)
  clear hK K
  refine wp_ret ?_
  exact fin_tmp S8 rfl rfl rfl
theorem same_no2 {Z : World → Prop} (hZ : Keeps Z) {x1 y1 z1 t1 x2 y2 z2 t2 : Nat} (H1 : Ret Z 42 #[pv x1 y1 z1 t1] (.bool false)) (H2 : Ret Z 42 #[pv x2 y2 z2 t2] (.bool true)) : Ret Z 14 #[pv x1 y1 z1 t1, pv x2 y2 z2 t2] (.bool false) := by
  intro w hw
  have S := St.refl hw
  go_enter Tryd.func14, Tryd.ntmps14
  refine wp_seq_k fun K hK => ?_
  refine wr_list ?_
  refine wl_alloc S (q4 x1 y1 z1 t1) 29 rfl (fun _ => by kernel_rfl) ?_
  intro b1 W2 a' S3 ha
  simp only [Act.put, List.setIfInBounds_toArray, List.set_cons_zero, List.set_cons_succ] at ha
  subst ha
  refine wl_alloc S3 (q4 x2 y2 z2 t2) 29 rfl (fun _ => by kernel_rfl) ?_
  intro b4 W5 a' S6 ha
  simp only [Act.put, List.setIfInBounds_toArray, List.set_cons_zero, List.set_cons_succ] at ha
  subst ha
  refine wl_pure (.bool false) rfl (fun _ => by kernel_rfl) ?_
  intro a' ha
  simp only [Act.put, List.setIfInBounds_toArray, List.set_cons_zero, List.set_cons_succ] at ha
  subst ha
  refine wl_nil (hK _ _ ?_)
  clear hK K
  refine wp_seq_k fun K hK => ?_
  refine wp_seq_k fun K hK => ?_
  refine wr_list ?_
  refine wl_load S6 1 b1 0 29 16 (.tmp 2) (q4 x1 y1 z1 t1) (q4 x1 y1 z1 t1) rfl rfl rfl rfl (Sub.self _) row29 rfl ?_
  intro a' ha
  simp only [Act.put, List.setIfInBounds_toArray, List.set_cons_zero, List.set_cons_succ] at ha
  subst ha
  refine wl_call hZ S6 H1 rfl (fun _ => by kernel_rfl) ?_
  intro W7 a' S8 ha
  simp only [Act.put, List.setIfInBounds_toArray, List.set_cons_zero, List.set_cons_succ] at ha
  subst ha
  refine wl_pure (.bool false) rfl (fun _ => by kernel_rfl) ?_
  intro a' ha
  simp only [Act.put, List.setIfInBounds_toArray, List.set_cons_zero, List.set_cons_succ] at ha
  subst ha
  refine wl_load S8 0 b4 0 29 16 (.tmp 3) (q4 x2 y2 z2 t2) (q4 x2 y2 z2 t2) (by kernel_rfl) rfl rfl rfl (Sub.self _) row29 rfl ?_
  intro a' ha
  simp only [Act.put, List.setIfInBounds_toArray, List.set_cons_zero, List.set_cons_succ] at ha
  subst ha
  refine wl_call hZ S8 H2 (by kernel_rfl) (fun _ => by kernel_rfl) ?_
  intro W9 a' S10 ha
  simp only [Act.put, List.setIfInBounds_toArray, List.set_cons_zero, List.set_cons_succ] at ha
  subst ha
  refine wl_pure (.bool true) rfl (fun _ => by kernel_rfl) ?_
  intro a' ha
  simp only [Act.put, List.setIfInBounds_toArray, List.set_cons_zero, List.set_cons_succ] at ha
  subst ha
  refine wl_nil (hK _ _ ?_)
  clear hK K
  refine wp_cond_true rfl ?_
  refine wp_seq_k fun K hK => ?_
  refine wr_list ?_
  refine wl_pure (.bool false) rfl (fun _ => by kernel_rfl) ?_
  intro a' ha
  simp only [Act.put, List.setIfInBounds_toArray, List.set_cons_zero, List.set_cons_succ] at ha
  subst ha
  refine wl_nil (hK _ _ ?_)
  clear hK K
  refine wp_ret ?_
  exact fin_tmp S10 rfl rfl rfl
theorem same_f {Z : World → Prop} (hZ : Keeps Z) {x1 y1 z1 t1 x2 y2 z2 t2 v1 v2 : Nat} (H1 : Ret Z 42 #[pv x1 y1 z1 t1] (.bool false)) (H2 : Ret Z 42 #[pv x2 y2 z2 t2] (.bool false)) (H3 : Ret Z 44 #[wd x1, wd z2] (wd v1)) (H4 : Ret Z 44 #[wd x2, wd z1] (wd v2)) (H5 : Ret Z 47 #[wd v1, wd v2] (.bool false)) : Ret Z 14 #[pv x1 y1 z1 t1, pv x2 y2 z2 t2] (.bool false) := by
  intro w hw
  have S := St.refl hw
  go_enter Tryd.func14, Tryd.ntmps14
  refine wp_seq_k fun K hK => ?_
  refine wr_list ?_
  refine wl_alloc S (q4 x1 y1 z1 t1) 29 rfl (fun _ => by kernel_rfl) ?_
  intro b1 W2 a' S3 ha
  simp only [Act.put, List.setIfInBounds_toArray, List.set_cons_zero, List.set_cons_succ] at ha
  subst ha
  refine wl_alloc S3 (q4 x2 y2 z2 t2) 29 rfl (fun _ => by kernel_rfl) ?_
  intro b4 W5 a' S6 ha
  simp only [Act.put, List.setIfInBounds_toArray, List.set_cons_zero, List.set_cons_succ] at ha
  subst ha
  refine wl_pure (.bool false) rfl (fun _ => by kernel_rfl) ?_
  intro a' ha
  simp only [Act.put, List.setIfInBounds_toArray, List.set_cons_zero, List.set_cons_succ] at ha
  subst ha
  refine wl_nil (hK _ _ ?_)
  clear hK K
  refine wp_seq_k fun K hK => ?_
  refine wp_seq_k fun K hK => ?_
  refine wr_list ?_
  refine wl_load S6 1 b1 0 29 16 (.tmp 2) (q4 x1 y1 z1 t1) (q4 x1 y1 z1 t1) rfl rfl rfl rfl (Sub.self _) row29 rfl ?_
  intro a' ha
  simp only [Act.put, List.setIfInBounds_toArray, List.set_cons_zero, List.set_cons_succ] at ha
  subst ha
  refine wl_call hZ S6 H1 rfl (fun _ => by kernel_rfl) ?_
  intro W7 a' S8 ha
  simp only [Act.put, List.setIfInBounds_toArray, List.set_cons_zero, List.set_cons_succ] at ha
  subst ha
  refine wl_pure (.bool false) rfl (fun _ => by kernel_rfl) ?_
  intro a' ha
  simp only [Act.put, List.setIfInBounds_toArray, List.set_cons_zero, List.set_cons_succ] at ha
  subst ha
  refine wl_load S8 0 b4 0 29 16 (.tmp 3) (q4 x2 y2 z2 t2) (q4 x2 y2 z2 t2) (by kernel_rfl) rfl rfl rfl (Sub.self _) row29 rfl ?_
  intro a' ha
  simp only [Act.put, List.setIfInBounds_toArray, List.set_cons_zero, List.set_cons_succ] at ha
  subst ha
  refine wl_call hZ S8 H2 (by kernel_rfl) (fun _ => by kernel_rfl) ?_
  intro W9 a' S10 ha
  simp only [Act.put, List.setIfInBounds_toArray, List.set_cons_zero, List.set_cons_succ] at ha
  subst ha
  refine wl_pure (.bool false) rfl (fun _ => by kernel_rfl) ?_
  intro a' ha
  simp only [Act.put, List.setIfInBounds_toArray, List.set_cons_zero, List.set_cons_succ] at ha
  subst ha
  refine wl_nil (hK _ _ ?_)
  clear hK K
  refine wp_cond_false rfl ?_
  refine wp_skip (hK _ _ ?_)
  clear hK K
  refine wp_seq_k fun K hK => ?_
  refine wr_ext S10 (by kernel_rfl) (by kernel_rfl) ?_
  refine wq_pure (.pointer (some ⟨b1, 0, none⟩)) rfl (fun _ => by kernel_rfl) ?_
  intro a' ha
  simp only [Act.put, List.setIfInBounds_toArray, List.set_cons_zero, List.set_cons_succ] at ha
  subst ha
  refine wq_load S10 1 b1 0 27 4 (.tmp 11) (q4 x1 y1 z1 t1) (e4 x1) rfl rfl rfl rfl (sub_x _ _ _ _) row27 rfl ?_
  intro a' ha
  simp only [Act.put, List.setIfInBounds_toArray, List.set_cons_zero, List.set_cons_succ] at ha
  subst ha
  refine wq_pure (.pointer (some ⟨b4, 8, none⟩)) rfl (fun _ => by kernel_rfl) ?_
  intro a' ha
  simp only [Act.put, List.setIfInBounds_toArray, List.set_cons_zero, List.set_cons_succ] at ha
  subst ha
  refine wq_load S10 0 b4 8 27 4 (.tmp 13) (q4 x2 y2 z2 t2) (e4 z2) rfl rfl rfl rfl (sub_z _ _ _ _) row27 rfl ?_
  intro a' ha
  simp only [Act.put, List.setIfInBounds_toArray, List.set_cons_zero, List.set_cons_succ] at ha
  subst ha
  refine wq_call hZ S10 H3 rfl (fun _ => by kernel_rfl) ?_
  intro a' ha
  simp only [Act.put, List.setIfInBounds_toArray, List.set_cons_zero, List.set_cons_succ] at ha
  subst ha
  refine wq_pure (.pointer (some ⟨b4, 0, none⟩)) rfl (fun _ => by kernel_rfl) ?_
  intro a' ha
  simp only [Act.put, List.setIfInBounds_toArray, List.set_cons_zero, List.set_cons_succ] at ha
  subst ha
  refine wq_load S10 0 b4 0 27 4 (.tmp 16) (q4 x2 y2 z2 t2) (e4 x2) rfl rfl rfl rfl (sub_x _ _ _ _) row27 rfl ?_
  intro a' ha
  simp only [Act.put, List.setIfInBounds_toArray, List.set_cons_zero, List.set_cons_succ] at ha
  subst ha
  refine wq_pure (.pointer (some ⟨b1, 8, none⟩)) rfl (fun _ => by kernel_rfl) ?_
  intro a' ha
  simp only [Act.put, List.setIfInBounds_toArray, List.set_cons_zero, List.set_cons_succ] at ha
  subst ha
  refine wq_load S10 1 b1 8 27 4 (.tmp 18) (q4 x1 y1 z1 t1) (e4 z1) rfl rfl rfl rfl (sub_z _ _ _ _) row27 rfl ?_
  intro a' ha
  simp only [Act.put, List.setIfInBounds_toArray, List.set_cons_zero, List.set_cons_succ] at ha
  subst ha
  refine wq_call hZ S10 H4 rfl (fun _ => by kernel_rfl) ?_
  intro a' ha
  simp only [Act.put, List.setIfInBounds_toArray, List.set_cons_zero, List.set_cons_succ] at ha
  subst ha
  refine wq_call hZ S10 H5 rfl (fun _ => by kernel_rfl) ?_
  intro a' ha
  simp only [Act.put, List.setIfInBounds_toArray, List.set_cons_zero, List.set_cons_succ] at ha
  subst ha
  refine wq_pure (.bool false) rfl (fun _ => by kernel_rfl) ?_
  intro a' ha
  simp only [Act.put, List.setIfInBounds_toArray, List.set_cons_zero, List.set_cons_succ] at ha
  subst ha
  refine wq_skip (by kernel_rfl) ?_
  intro a' ha
  simp only [Act.put, List.setIfInBounds_toArray, List.set_cons_zero, List.set_cons_succ] at ha
  subst ha
  refine wq_skip (by kernel_rfl) ?_
  intro a' ha
  simp only [Act.put, List.setIfInBounds_toArray, List.set_cons_zero, List.set_cons_succ] at ha
  subst ha
  refine wq_skip (by kernel_rfl) ?_
  intro a' ha
  simp only [Act.put, List.setIfInBounds_toArray, List.set_cons_zero, List.set_cons_succ] at ha
  subst ha
  refine wq_skip (by kernel_rfl) ?_
  intro a' ha
  simp only [Act.put, List.setIfInBounds_toArray, List.set_cons_zero, List.set_cons_succ] at ha
  subst ha
  refine wq_skip (by kernel_rfl) ?_
  intro a' ha
  simp only [Act.put, List.setIfInBounds_toArray, List.set_cons_zero, List.set_cons_succ] at ha
  subst ha
  refine wq_skip (by kernel_rfl) ?_
  intro a' ha
  simp only [Act.put, List.setIfInBounds_toArray, List.set_cons_zero, List.set_cons_succ] at ha
  subst ha
  refine wq_skip (by kernel_rfl) ?_
  intro a' ha
  simp only [Act.put, List.setIfInBounds_toArray, List.set_cons_zero, List.set_cons_succ] at ha
  subst ha
  refine wq_skip (by kernel_rfl) ?_
  intro a' ha
  simp only [Act.put, List.setIfInBounds_toArray, List.set_cons_zero, List.set_cons_succ] at ha
  subst ha
  refine wq_skip (by kernel_rfl) ?_
  intro a' ha
  simp only [Act.put, List.setIfInBounds_toArray, List.set_cons_zero, List.set_cons_succ] at ha
  subst ha
  refine wq_skip (by kernel_rfl) ?_
  intro a' ha
  simp only [Act.put, List.setIfInBounds_toArray, List.set_cons_zero, List.set_cons_succ] at ha
  subst ha
  refine wq_skip (by kernel_rfl) ?_
  intro a' ha
  simp only [Act.put, List.setIfInBounds_toArray, List.set_cons_zero, List.set_cons_succ] at ha
  subst ha
  refine wq_pure (.bool false) rfl (fun _ => by kernel_rfl) ?_
  intro a' ha
  simp only [Act.put, List.setIfInBounds_toArray, List.set_cons_zero, List.set_cons_succ] at ha
  subst ha
  refine wq_pure (.bool false) rfl (fun _ => by kernel_rfl) ?_
  intro a' ha
  simp only [Act.put, List.setIfInBounds_toArray, List.set_cons_zero, List.set_cons_succ] at ha
  subst ha
  refine wq_nil ?_
  intro W11 S12
  refine hK _ _ ?_
  clear hK K
  refine wp_ret ?_
  exact fin_tmp S12 rfl rfl rfl
theorem same_t {Z : World → Prop} (hZ : Keeps Z) {x1 y1 z1 t1 x2 y2 z2 t2 v1 v2 v3 v4 : Nat} {q : Bool} (H1 : Ret Z 42 #[pv x1 y1 z1 t1] (.bool false)) (H2 : Ret Z 42 #[pv x2 y2 z2 t2] (.bool false)) (H3 : Ret Z 44 #[wd x1, wd z2] (wd v1)) (H4 : Ret Z 44 #[wd x2, wd z1] (wd v2)) (H5 : Ret Z 47 #[wd v1, wd v2] (.bool true)) (H6 : Ret Z 44 #[wd y1, wd z2] (wd v3)) (H7 : Ret Z 44 #[wd y2, wd z1] (wd v4)) (H8 : Ret Z 47 #[wd v3, wd v4] (.bool q)) : Ret Z 14 #[pv x1 y1 z1 t1, pv x2 y2 z2 t2] (.bool q) := by
  intro w hw
  have S := St.refl hw
  go_enter Tryd.func14, Tryd.ntmps14
  refine wp_seq_k fun K hK => ?_
  refine wr_list ?_
  refine wl_alloc S (q4 x1 y1 z1 t1) 29 rfl (fun _ => by kernel_rfl) ?_
  intro b1 W2 a' S3 ha
  simp only [Act.put, List.setIfInBounds_toArray, List.set_cons_zero, List.set_cons_succ] at ha
  subst ha
  refine wl_alloc S3 (q4 x2 y2 z2 t2) 29 rfl (fun _ => by kernel_rfl) ?_
  intro b4 W5 a' S6 ha
  simp only [Act.put, List.setIfInBounds_toArray, List.set_cons_zero, List.set_cons_succ] at ha
  subst ha
  refine wl_pure (.bool false) rfl (fun _ => by kernel_rfl) ?_
  intro a' ha
  simp only [Act.put, List.setIfInBounds_toArray, List.set_cons_zero, List.set_cons_succ] at ha
  subst ha
  refine wl_nil (hK _ _ ?_)
  clear hK K
  refine wp_seq_k fun K hK => ?_
  refine wp_seq_k fun K hK => ?_
  refine wr_list ?_
  refine wl_load S6 1 b1 0 29 16 (.tmp 2) (q4 x1 y1 z1 t1) (q4 x1 y1 z1 t1) rfl rfl rfl rfl (Sub.self _) row29 rfl ?_
  intro a' ha
  simp only [Act.put, List.setIfInBounds_toArray, List.set_cons_zero, List.set_cons_succ] at ha
  subst ha
  refine wl_call hZ S6 H1 rfl (fun _ => by kernel_rfl) ?_
  intro W7 a' S8 ha
  simp only [Act.put, List.setIfInBounds_toArray, List.set_cons_zero, List.set_cons_succ] at ha
  subst ha
  refine wl_pure (.bool false) rfl (fun _ => by kernel_rfl) ?_
  intro a' ha
  simp only [Act.put, List.setIfInBounds_toArray, List.set_cons_zero, List.set_cons_succ] at ha
  subst ha
  refine wl_load S8 0 b4 0 29 16 (.tmp 3) (q4 x2 y2 z2 t2) (q4 x2 y2 z2 t2) (by kernel_rfl) rfl rfl rfl (Sub.self _) row29 rfl ?_
  intro a' ha
  simp only [Act.put, List.setIfInBounds_toArray, List.set_cons_zero, List.set_cons_succ] at ha
  subst ha
  refine wl_call hZ S8 H2 (by kernel_rfl) (fun _ => by kernel_rfl) ?_
  intro W9 a' S10 ha
  simp only [Act.put, List.setIfInBounds_toArray, List.set_cons_zero, List.set_cons_succ] at ha
  subst ha
  refine wl_pure (.bool false) rfl (fun _ => by kernel_rfl) ?_
  intro a' ha
  simp only [Act.put, List.setIfInBounds_toArray, List.set_cons_zero, List.set_cons_succ] at ha
  subst ha
  refine wl_nil (hK _ _ ?_)
  clear hK K
  refine wp_cond_false rfl ?_
  refine wp_skip (hK _ _ ?_)
  clear hK K
  refine wp_seq_k fun K hK => ?_
  refine wr_ext S10 (by kernel_rfl) (by kernel_rfl) ?_
  refine wq_pure (.pointer (some ⟨b1, 0, none⟩)) rfl (fun _ => by kernel_rfl) ?_
  intro a' ha
  simp only [Act.put, List.setIfInBounds_toArray, List.set_cons_zero, List.set_cons_succ] at ha
  subst ha
  refine wq_load S10 1 b1 0 27 4 (.tmp 11) (q4 x1 y1 z1 t1) (e4 x1) rfl rfl rfl rfl (sub_x _ _ _ _) row27 rfl ?_
  intro a' ha
  simp only [Act.put, List.setIfInBounds_toArray, List.set_cons_zero, List.set_cons_succ] at ha
  subst ha
  refine wq_pure (.pointer (some ⟨b4, 8, none⟩)) rfl (fun _ => by kernel_rfl) ?_
  intro a' ha
  simp only [Act.put, List.setIfInBounds_toArray, List.set_cons_zero, List.set_cons_succ] at ha
  subst ha
  refine wq_load S10 0 b4 8 27 4 (.tmp 13) (q4 x2 y2 z2 t2) (e4 z2) rfl rfl rfl rfl (sub_z _ _ _ _) row27 rfl ?_
  intro a' ha
  simp only [Act.put, List.setIfInBounds_toArray, List.set_cons_zero, List.set_cons_succ] at ha
  subst ha
  refine wq_call hZ S10 H3 rfl (fun _ => by kernel_rfl) ?_
  intro a' ha
  simp only [Act.put, List.setIfInBounds_toArray, List.set_cons_zero, List.set_cons_succ] at ha
  subst ha
  refine wq_pure (.pointer (some ⟨b4, 0, none⟩)) rfl (fun _ => by kernel_rfl) ?_
  intro a' ha
  simp only [Act.put, List.setIfInBounds_toArray, List.set_cons_zero, List.set_cons_succ] at ha
  subst ha
  refine wq_load S10 0 b4 0 27 4 (.tmp 16) (q4 x2 y2 z2 t2) (e4 x2) rfl rfl rfl rfl (sub_x _ _ _ _) row27 rfl ?_
  intro a' ha
  simp only [Act.put, List.setIfInBounds_toArray, List.set_cons_zero, List.set_cons_succ] at ha
  subst ha
  refine wq_pure (.pointer (some ⟨b1, 8, none⟩)) rfl (fun _ => by kernel_rfl) ?_
  intro a' ha
  simp only [Act.put, List.setIfInBounds_toArray, List.set_cons_zero, List.set_cons_succ] at ha
  subst ha
  refine wq_load S10 1 b1 8 27 4 (.tmp 18) (q4 x1 y1 z1 t1) (e4 z1) rfl rfl rfl rfl (sub_z _ _ _ _) row27 rfl ?_
  intro a' ha
  simp only [Act.put, List.setIfInBounds_toArray, List.set_cons_zero, List.set_cons_succ] at ha
  subst ha
  refine wq_call hZ S10 H4 rfl (fun _ => by kernel_rfl) ?_
  intro a' ha
  simp only [Act.put, List.setIfInBounds_toArray, List.set_cons_zero, List.set_cons_succ] at ha
  subst ha
  refine wq_call hZ S10 H5 rfl (fun _ => by kernel_rfl) ?_
  intro a' ha
  simp only [Act.put, List.setIfInBounds_toArray, List.set_cons_zero, List.set_cons_succ] at ha
  subst ha
  refine wq_pure (.bool true) rfl (fun _ => by kernel_rfl) ?_
  intro a' ha
  simp only [Act.put, List.setIfInBounds_toArray, List.set_cons_zero, List.set_cons_succ] at ha
  subst ha
  refine wq_pure (.pointer (some ⟨b1, 4, none⟩)) (by kernel_rfl) (fun _ => by kernel_rfl) ?_
  intro a' ha
  simp only [Act.put, List.setIfInBounds_toArray, List.set_cons_zero, List.set_cons_succ] at ha
  subst ha
  refine wq_load S10 1 b1 4 27 4 (.tmp 23) (q4 x1 y1 z1 t1) (e4 y1) (by kernel_rfl) rfl rfl rfl (sub_y _ _ _ _) row27 rfl ?_
  intro a' ha
  simp only [Act.put, List.setIfInBounds_toArray, List.set_cons_zero, List.set_cons_succ] at ha
  subst ha
  refine wq_pure (.pointer (some ⟨b4, 8, none⟩)) (by kernel_rfl) (fun _ => by kernel_rfl) ?_
  intro a' ha
  simp only [Act.put, List.setIfInBounds_toArray, List.set_cons_zero, List.set_cons_succ] at ha
  subst ha
  refine wq_load S10 0 b4 8 27 4 (.tmp 25) (q4 x2 y2 z2 t2) (e4 z2) (by kernel_rfl) rfl rfl rfl (sub_z _ _ _ _) row27 rfl ?_
  intro a' ha
  simp only [Act.put, List.setIfInBounds_toArray, List.set_cons_zero, List.set_cons_succ] at ha
  subst ha
  refine wq_call hZ S10 H6 (by kernel_rfl) (fun _ => by kernel_rfl) ?_
  intro a' ha
  simp only [Act.put, List.setIfInBounds_toArray, List.set_cons_zero, List.set_cons_succ] at ha
  subst ha
  refine wq_pure (.pointer (some ⟨b4, 4, none⟩)) (by kernel_rfl) (fun _ => by kernel_rfl) ?_
  intro a' ha
  simp only [Act.put, List.setIfInBounds_toArray, List.set_cons_zero, List.set_cons_succ] at ha
  subst ha
  refine wq_load S10 0 b4 4 27 4 (.tmp 28) (q4 x2 y2 z2 t2) (e4 y2) (by kernel_rfl) rfl rfl rfl (sub_y _ _ _ _) row27 rfl ?_
  intro a' ha
  simp only [Act.put, List.setIfInBounds_toArray, List.set_cons_zero, List.set_cons_succ] at ha
  subst ha
  refine wq_pure (.pointer (some ⟨b1, 8, none⟩)) (by kernel_rfl) (fun _ => by kernel_rfl) ?_
  intro a' ha
  simp only [Act.put, List.setIfInBounds_toArray, List.set_cons_zero, List.set_cons_succ] at ha
  subst ha
  refine wq_load S10 1 b1 8 27 4 (.tmp 30) (q4 x1 y1 z1 t1) (e4 z1) (by kernel_rfl) rfl rfl rfl (sub_z _ _ _ _) row27 rfl ?_
  intro a' ha
  simp only [Act.put, List.setIfInBounds_toArray, List.set_cons_zero, List.set_cons_succ] at ha
  subst ha
  refine wq_call hZ S10 H7 (by kernel_rfl) (fun _ => by kernel_rfl) ?_
  intro a' ha
  simp only [Act.put, List.setIfInBounds_toArray, List.set_cons_zero, List.set_cons_succ] at ha
  subst ha
  refine wq_call hZ S10 H8 (by kernel_rfl) (fun _ => by kernel_rfl) ?_
  intro a' ha
  simp only [Act.put, List.setIfInBounds_toArray, List.set_cons_zero, List.set_cons_succ] at ha
  subst ha
  refine wq_pure (.bool q) rfl (fun _ => by kernel_rfl) ?_
  intro a' ha
  simp only [Act.put, List.setIfInBounds_toArray, List.set_cons_zero, List.set_cons_succ] at ha
  subst ha
  refine wq_pure (.bool q) rfl (fun _ => by kernel_rfl) ?_
  intro a' ha
  simp only [Act.put, List.setIfInBounds_toArray, List.set_cons_zero, List.set_cons_succ] at ha
  subst ha
  refine wq_nil ?_
  intro W11 S12
  refine hK _ _ ?_
  clear hK K
  refine wp_ret ?_
  exact fin_tmp S12 rfl rfl rfl
end Go.Proofs.YtpdagpjjlnncbaaDoor
