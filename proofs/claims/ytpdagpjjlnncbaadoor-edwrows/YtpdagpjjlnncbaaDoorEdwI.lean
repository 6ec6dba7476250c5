/-
  The document's points (pharosref09): the walks of Times and Both. No statement is proved here.
-/
import Derived.Test.YtpdagpjjlnncbaaDoorOrdU
namespace Go.Proofs.YtpdagpjjlnncbaaDoor
open Go.RowKit Go.Lib Go.BigFrame
set_option linter.unusedVariables false
set_option linter.unusedSimpArgs false
set_option maxRecDepth 1000000
set_option maxHeartbeats 4000000

/-- A document's point's three numbers. -/
structure Pr where
  x : Nat
  y : Nat
  z : Nat
theorem times_r {Z : World → Prop} (hZ : Keeps Z) {x1 y1 z1 v : Nat} {st dbl : Nat → Pr} (H0 : Ret Z 83 #[] (rp (st 0).x (st 0).y (st 0).z)) (HD : ∀ k, k < 256 → Ret Z 19 #[rp (st k).x (st k).y (st k).z, rp (st k).x (st k).y (st k).z] (rp (dbl k).x (dbl k).y (dbl k).z)) (HA : ∀ k, k < 256 → bn v (255 - k) = 1 → Ret Z 19 #[rp (dbl k).x (dbl k).y (dbl k).z, rp x1 y1 z1] (rp (st (k + 1)).x (st (k + 1)).y (st (k + 1)).z)) (HN : ∀ k, k < 256 → bn v (255 - k) = 0 → st (k + 1) = dbl k) : Ret Z 55 #[rp x1 y1 z1, nbv v] (rp (st 256).x (st 256).y (st 256).z) := by
  intro w hw
  have S := St.refl hw
  go_enter Tryd.func55, Tryd.ntmps55
  refine wp_seq_k fun K hK => ?_
  refine wr_list ?_
  refine wl_alloc S (n27 x1 y1 z1) 36 rfl (fun _ => by kernel_rfl) ?_
  intro b1 W2 a' S3 ha
  simp only [Act.put, List.setIfInBounds_toArray, List.set_cons_zero, List.set_cons_succ] at ha
  subst ha
  refine wl_alloc S3 (b32 v) 55 rfl (fun _ => by kernel_rfl) ?_
  intro b4 W5 a' S6 ha
  simp only [Act.put, List.setIfInBounds_toArray, List.set_cons_zero, List.set_cons_succ] at ha
  subst ha
  refine wl_alloc S6 (n27 0 0 0) 36 rfl (fun _ => by kernel_rfl) ?_
  intro b7 W8 a' S9 ha
  simp only [Act.put, List.setIfInBounds_toArray, List.set_cons_zero, List.set_cons_succ] at ha
  subst ha
  refine wl_nil (hK _ _ ?_)
  clear hK K
  refine wp_seq_k fun K hK => ?_
  refine wr_list ?_
  refine wl_call hZ S9 H0 rfl (fun _ => by kernel_rfl) ?_
  intro W10 a' S11 ha
  simp only [Act.put, List.setIfInBounds_toArray, List.set_cons_zero, List.set_cons_succ] at ha
  subst ha
  refine wl_alloc S11 (n27 0 0 0) 36 rfl (fun _ => by kernel_rfl) ?_
  intro b12 W13 a' S14 ha
  simp only [Act.put, List.setIfInBounds_toArray, List.set_cons_zero, List.set_cons_succ] at ha
  subst ha
  refine wl_store S14 0 b12 36 27 (.tmp 5) (.tmp 7) (n27 0 0 0) (n27 (st 0).x (st 0).y (st 0).z) rfl rfl rfl rfl rfl row36 (n27_size _ _ _) (n27_size _ _ _) (n27_one _ _ _) ?_
  intro W15 a' S16 ha
  simp only [Act.put, List.setIfInBounds_toArray, List.set_cons_zero, List.set_cons_succ] at ha
  subst ha
  refine wl_nil (hK _ _ ?_)
  clear hK K
  refine wp_seq_k fun K hK => ?_
  refine wp_seq_k fun K hK => ?_
  refine wr_list ?_
  refine wl_pure (.int .i64 255) rfl (fun _ => by kernel_rfl) ?_
  intro a' ha
  simp only [Act.put, List.setIfInBounds_toArray, List.set_cons_zero, List.set_cons_succ] at ha
  subst ha
  refine wl_nil (hK _ _ ?_)
  clear hK K
  refine wp_block ?_
  refine wp_loop_ghost (fun n ac W => ∃ k : Nat, n + k = 256 ∧ ∃ c8 c9 c10 c11 c12 c13 c14 c15 c16 c17 c18 c19 c20 c21 c22 c23 c24 c25 c26 c27 : Value, ac = ⟨#[(rp x1 y1 z1), (nbv v), (.pointer (some ⟨b1, 0, none⟩)), (.pointer (some ⟨b4, 0, none⟩)), (.pointer (some ⟨b7, 0, none⟩)), (.pointer (some ⟨b12, 0, none⟩)), .int .i64 ((n : Int) - 1), (rp (st 0).x (st 0).y (st 0).z), c8, c9, c10, c11, c12, c13, c14, c15, c16, c17, c18, c19, c20, c21, c22, c23, c24, c25, c26, c27, undef], []⟩ ∧ St Z w W [(b12, .row (n27 (st k).x (st k).y (st k).z) 36), (b7, .row (n27 0 0 0) 36), (b4, .row (b32 v) 55), (b1, .row (n27 x1 y1 z1) 36)]) 256 ?_ ?_
  · exact ⟨0, rfl, undef, undef, undef, undef, undef, undef, undef, undef, undef, undef, undef, undef, undef, undef, undef, undef, undef, undef, undef, undef, rfl, S16⟩
  · rintro n _ W ⟨k, hk, c8, c9, c10, c11, c12, c13, c14, c15, c16, c17, c18, c19, c20, c21, c22, c23, c24, c25, c26, c27, rfl, S⟩
    rcases n with _ | m
    · obtain rfl : k = 256 := by omega
      refine wp_seq_k fun K2 hK2 => ?_
      clear hK2
      refine wp_seq_k fun K3 hK3 => ?_
      refine wr_list ?_
      refine wl_pure (.int .i64 (((0 : Nat) : Int) - 1)) rfl (fun _ => by kernel_rfl) ?_
      intro a' ha
      simp only [Act.put, List.setIfInBounds_toArray, List.set_cons_zero, List.set_cons_succ] at ha
      subst ha
      refine wl_pure (.bool false) rfl (fun _ => by kernel_rfl) ?_
      intro a' ha
      simp only [Act.put, List.setIfInBounds_toArray, List.set_cons_zero, List.set_cons_succ] at ha
      subst ha
      refine wl_nil (hK3 _ _ ?_)
      clear hK3 K3
      refine wp_cond_false rfl ?_
      refine wp_exit ?_
      refine hK _ _ ?_
      clear hK K
      refine wp_seq_k fun K hK => ?_
      refine wr_list ?_
      refine wl_load S 0 b12 0 36 27 (.tmp 5) (n27 (st 256).x (st 256).y (st 256).z) (n27 (st 256).x (st 256).y (st 256).z) rfl rfl rfl rfl (Sub.self _) row36 (n27_size _ _ _) ?_
      intro a' ha
      simp only [Act.put, List.setIfInBounds_toArray, List.set_cons_zero, List.set_cons_succ] at ha
      subst ha
      refine wl_store S 1 b7 36 27 (.tmp 4) (.tmp 28) (n27 0 0 0) (n27 (st 256).x (st 256).y (st 256).z) rfl rfl rfl rfl rfl row36 (n27_size _ _ _) (n27_size _ _ _) (n27_one _ _ _) ?_
      intro W17 a' S18 ha
      simp only [Act.put, List.setIfInBounds_toArray, List.set_cons_zero, List.set_cons_succ] at ha
      subst ha
      refine wl_nil (hK _ _ ?_)
      clear hK K
      refine wp_ret ?_
      exact fin_cell (k := 1) S18 rfl rfl rfl row36 (n27_size _ _ _) rfl
    · have hk2 : k < 256 := by omega
      have hm : m < 256 := by omega
      have hmk : 255 - k = m := by omega
      have HDk := HD k hk2
      have hv := ovb_lt v (m / 8)
      have hd : Ord.vb v (m / 8) / 2 ^ (m % 8) < 256 := Nat.lt_of_le_of_lt (Nat.div_le_self _ _) hv
      rw [show (((m + 1 : Nat) : Int) - 1) = (m : Int) by omega]
      rcases (show bn v m = 0 ∨ bn v m = 1 by unfold bn; omega) with hb | hb
      · have HNk := HN k hk2 (by rw [hmk]; exact hb)
        refine wp_seq_k fun K2 hK2 => ?_
        refine wp_seq_k fun K3 hK3 => ?_
        refine wr_list ?_
        refine wl_pure (.int .i64 (m : Int)) rfl (fun _ => by kernel_rfl) ?_
        intro a' ha
        simp only [Act.put, List.setIfInBounds_toArray, List.set_cons_zero, List.set_cons_succ] at ha
        subst ha
        refine wl_pure (.bool true) rfl (fun _ => (show (execOp _ _).run Tryd.prog _ = .ok (.value (.bool (decide (0 ≤ (m : Int))))) _ from by kernel_rfl).trans (by rw [decide_eq_true (by omega)])) ?_
        intro a' ha
        simp only [Act.put, List.setIfInBounds_toArray, List.set_cons_zero, List.set_cons_succ] at ha
        subst ha
        refine wl_nil (hK3 _ _ ?_)
        clear hK3 K3
        refine wp_cond_true rfl ?_
        refine wp_skip (hK2 _ _ ?_)
        clear hK2 K2
        refine wp_seq_k fun K2 hK2 => ?_
        refine wp_block ?_
        refine wp_seq_k fun K3 hK3 => ?_
        refine wr_list ?_
        refine wl_load S 0 b12 0 36 27 (.tmp 5) (n27 (st k).x (st k).y (st k).z) (n27 (st k).x (st k).y (st k).z) rfl rfl rfl rfl (Sub.self _) row36 (n27_size _ _ _) ?_
        intro a' ha
        simp only [Act.put, List.setIfInBounds_toArray, List.set_cons_zero, List.set_cons_succ] at ha
        subst ha
        refine wl_load S 0 b12 0 36 27 (.tmp 5) (n27 (st k).x (st k).y (st k).z) (n27 (st k).x (st k).y (st k).z) rfl rfl rfl rfl (Sub.self _) row36 (n27_size _ _ _) ?_
        intro a' ha
        simp only [Act.put, List.setIfInBounds_toArray, List.set_cons_zero, List.set_cons_succ] at ha
        subst ha
        refine wl_call hZ S HDk rfl (fun _ => by kernel_rfl) ?_
        intro W19 a' S20 ha
        simp only [Act.put, List.setIfInBounds_toArray, List.set_cons_zero, List.set_cons_succ] at ha
        subst ha
        refine wl_store S20 0 b12 36 27 (.tmp 5) (.tmp 14) (n27 (st k).x (st k).y (st k).z) (n27 (dbl k).x (dbl k).y (dbl k).z) rfl rfl rfl rfl rfl row36 (n27_size _ _ _) (n27_size _ _ _) (n27_one _ _ _) ?_
        intro W21 a' S22 ha
        simp only [Act.put, List.setIfInBounds_toArray, List.set_cons_zero, List.set_cons_succ] at ha
        subst ha
        refine wl_nil (hK3 _ _ ?_)
        clear hK3 K3
        refine wp_seq_k fun K3 hK3 => ?_
        refine wr_list ?_
        refine wl_pure (.int .i64 (m : Int)) rfl (fun _ => by kernel_rfl) ?_
        intro a' ha
        simp only [Act.put, List.setIfInBounds_toArray, List.set_cons_zero, List.set_cons_succ] at ha
        subst ha
        refine wl_pure (.int .i64 ((m / 8 : Nat) : Int)) rfl (run_quo8 (.tmp 15) m hm rfl rfl) ?_
        intro a' ha
        simp only [Act.put, List.setIfInBounds_toArray, List.set_cons_zero, List.set_cons_succ] at ha
        subst ha
        refine wl_pure (.pointer (some ⟨b4, m / 8, none⟩)) rfl (run_ixa (.tmp 3) (.tmp 16) b4 (m / 8) rfl rfl rfl (by omega)) ?_
        intro a' ha
        simp only [Act.put, List.setIfInBounds_toArray, List.set_cons_zero, List.set_cons_succ] at ha
        subst ha
        refine wl_ld55 S22 2 b4 (m / 8) v (.tmp 17) rfl rfl rfl rfl (by omega) ?_
        intro a' ha
        simp only [Act.put, List.setIfInBounds_toArray, List.set_cons_zero, List.set_cons_succ] at ha
        subst ha
        refine wl_pure (.int .i64 (m : Int)) rfl (fun _ => by kernel_rfl) ?_
        intro a' ha
        simp only [Act.put, List.setIfInBounds_toArray, List.set_cons_zero, List.set_cons_succ] at ha
        subst ha
        refine wl_pure (.int .i64 ((m % 8 : Nat) : Int)) rfl (run_rem8 (.tmp 19) m hm rfl rfl) ?_
        intro a' ha
        simp only [Act.put, List.setIfInBounds_toArray, List.set_cons_zero, List.set_cons_succ] at ha
        subst ha
        refine wl_pure (.int .u64 ((m % 8 : Nat) : Int)) rfl (run_cv (.tmp 20) (m % 8) (by omega) rfl rfl) ?_
        intro a' ha
        simp only [Act.put, List.setIfInBounds_toArray, List.set_cons_zero, List.set_cons_succ] at ha
        subst ha
        refine wl_pure (.int .u8 ((Ord.vb v (m / 8) / 2 ^ (m % 8) : Nat) : Int)) rfl (run_shr (.tmp 18) (.tmp 21) 87 .u64 (Ord.vb v (m / 8)) (m % 8) (by omega) hv rfl rfl rfl) ?_
        intro a' ha
        simp only [Act.put, List.setIfInBounds_toArray, List.set_cons_zero, List.set_cons_succ] at ha
        subst ha
        refine wl_pure (.int .u8 ((Ord.vb v (m / 8) / 2 ^ (m % 8) % 2 : Nat) : Int)) rfl (run_and1 (.tmp 22) _ hd rfl rfl) ?_
        intro a' ha
        simp only [Act.put, List.setIfInBounds_toArray, List.set_cons_zero, List.set_cons_succ] at ha
        subst ha
        refine wl_pure (.bool false) rfl (fun _ => (show (execOp _ _).run Tryd.prog _ = .ok (.value (.bool (decide (((Ord.vb v (m / 8) / 2 ^ (m % 8) % 2 : Nat) : Int) = 1)))) _ from by kernel_rfl).trans (by rw [show Ord.vb v (m / 8) / 2 ^ (m % 8) % 2 = 0 from hb]; rfl)) ?_
        intro a' ha
        simp only [Act.put, List.setIfInBounds_toArray, List.set_cons_zero, List.set_cons_succ] at ha
        subst ha
        refine wl_nil (hK3 _ _ ?_)
        clear hK3 K3
        refine wp_cond_false rfl ?_
        refine wp_skip (hK2 _ _ ?_)
        clear hK2 K2
        refine wr_list ?_
        refine wl_pure (.int .i64 (m : Int)) rfl (fun _ => by kernel_rfl) ?_
        intro a' ha
        simp only [Act.put, List.setIfInBounds_toArray, List.set_cons_zero, List.set_cons_succ] at ha
        subst ha
        refine wl_pure (.int .i64 ((m : Int) - 1)) rfl (fun _ => (show (execOp _ _).run Tryd.prog _ = .ok (.value (.int .i64 (IntKind.i64.wrap ((m : Int) - 1)))) _ from by kernel_rfl).trans (by rw [IntKind.wrap_i64, show ((m : Int) - 1 + 9223372036854775808) % 18446744073709551616 - 9223372036854775808 = (m : Int) - 1 by omega])) ?_
        intro a' ha
        simp only [Act.put, List.setIfInBounds_toArray, List.set_cons_zero, List.set_cons_succ] at ha
        subst ha
        refine wl_pure (.int .i64 ((m : Int) - 1)) rfl (fun _ => by kernel_rfl) ?_
        intro a' ha
        simp only [Act.put, List.setIfInBounds_toArray, List.set_cons_zero, List.set_cons_succ] at ha
        subst ha
        rw [← HNk] at S22
        exact wl_end ⟨m, Nat.lt_succ_self _, k + 1, by omega, _, _, _, _, _, _, _, _, _, _, _, _, _, _, _, _, _, _, _, _, rfl, S22⟩
      · have HAk := HA k hk2 (by rw [hmk]; exact hb)
        refine wp_seq_k fun K2 hK2 => ?_
        refine wp_seq_k fun K3 hK3 => ?_
        refine wr_list ?_
        refine wl_pure (.int .i64 (m : Int)) rfl (fun _ => by kernel_rfl) ?_
        intro a' ha
        simp only [Act.put, List.setIfInBounds_toArray, List.set_cons_zero, List.set_cons_succ] at ha
        subst ha
        refine wl_pure (.bool true) rfl (fun _ => (show (execOp _ _).run Tryd.prog _ = .ok (.value (.bool (decide (0 ≤ (m : Int))))) _ from by kernel_rfl).trans (by rw [decide_eq_true (by omega)])) ?_
        intro a' ha
        simp only [Act.put, List.setIfInBounds_toArray, List.set_cons_zero, List.set_cons_succ] at ha
        subst ha
        refine wl_nil (hK3 _ _ ?_)
        clear hK3 K3
        refine wp_cond_true rfl ?_
        refine wp_skip (hK2 _ _ ?_)
        clear hK2 K2
        refine wp_seq_k fun K2 hK2 => ?_
        refine wp_block ?_
        refine wp_seq_k fun K3 hK3 => ?_
        refine wr_list ?_
        refine wl_load S 0 b12 0 36 27 (.tmp 5) (n27 (st k).x (st k).y (st k).z) (n27 (st k).x (st k).y (st k).z) rfl rfl rfl rfl (Sub.self _) row36 (n27_size _ _ _) ?_
        intro a' ha
        simp only [Act.put, List.setIfInBounds_toArray, List.set_cons_zero, List.set_cons_succ] at ha
        subst ha
        refine wl_load S 0 b12 0 36 27 (.tmp 5) (n27 (st k).x (st k).y (st k).z) (n27 (st k).x (st k).y (st k).z) rfl rfl rfl rfl (Sub.self _) row36 (n27_size _ _ _) ?_
        intro a' ha
        simp only [Act.put, List.setIfInBounds_toArray, List.set_cons_zero, List.set_cons_succ] at ha
        subst ha
        refine wl_call hZ S HDk rfl (fun _ => by kernel_rfl) ?_
        intro W23 a' S24 ha
        simp only [Act.put, List.setIfInBounds_toArray, List.set_cons_zero, List.set_cons_succ] at ha
        subst ha
        refine wl_store S24 0 b12 36 27 (.tmp 5) (.tmp 14) (n27 (st k).x (st k).y (st k).z) (n27 (dbl k).x (dbl k).y (dbl k).z) rfl rfl rfl rfl rfl row36 (n27_size _ _ _) (n27_size _ _ _) (n27_one _ _ _) ?_
        intro W25 a' S26 ha
        simp only [Act.put, List.setIfInBounds_toArray, List.set_cons_zero, List.set_cons_succ] at ha
        subst ha
        refine wl_nil (hK3 _ _ ?_)
        clear hK3 K3
        refine wp_seq_k fun K3 hK3 => ?_
        refine wr_list ?_
        refine wl_pure (.int .i64 (m : Int)) rfl (fun _ => by kernel_rfl) ?_
        intro a' ha
        simp only [Act.put, List.setIfInBounds_toArray, List.set_cons_zero, List.set_cons_succ] at ha
        subst ha
        refine wl_pure (.int .i64 ((m / 8 : Nat) : Int)) rfl (run_quo8 (.tmp 15) m hm rfl rfl) ?_
        intro a' ha
        simp only [Act.put, List.setIfInBounds_toArray, List.set_cons_zero, List.set_cons_succ] at ha
        subst ha
        refine wl_pure (.pointer (some ⟨b4, m / 8, none⟩)) rfl (run_ixa (.tmp 3) (.tmp 16) b4 (m / 8) rfl rfl rfl (by omega)) ?_
        intro a' ha
        simp only [Act.put, List.setIfInBounds_toArray, List.set_cons_zero, List.set_cons_succ] at ha
        subst ha
        refine wl_ld55 S26 2 b4 (m / 8) v (.tmp 17) rfl rfl rfl rfl (by omega) ?_
        intro a' ha
        simp only [Act.put, List.setIfInBounds_toArray, List.set_cons_zero, List.set_cons_succ] at ha
        subst ha
        refine wl_pure (.int .i64 (m : Int)) rfl (fun _ => by kernel_rfl) ?_
        intro a' ha
        simp only [Act.put, List.setIfInBounds_toArray, List.set_cons_zero, List.set_cons_succ] at ha
        subst ha
        refine wl_pure (.int .i64 ((m % 8 : Nat) : Int)) rfl (run_rem8 (.tmp 19) m hm rfl rfl) ?_
        intro a' ha
        simp only [Act.put, List.setIfInBounds_toArray, List.set_cons_zero, List.set_cons_succ] at ha
        subst ha
        refine wl_pure (.int .u64 ((m % 8 : Nat) : Int)) rfl (run_cv (.tmp 20) (m % 8) (by omega) rfl rfl) ?_
        intro a' ha
        simp only [Act.put, List.setIfInBounds_toArray, List.set_cons_zero, List.set_cons_succ] at ha
        subst ha
        refine wl_pure (.int .u8 ((Ord.vb v (m / 8) / 2 ^ (m % 8) : Nat) : Int)) rfl (run_shr (.tmp 18) (.tmp 21) 87 .u64 (Ord.vb v (m / 8)) (m % 8) (by omega) hv rfl rfl rfl) ?_
        intro a' ha
        simp only [Act.put, List.setIfInBounds_toArray, List.set_cons_zero, List.set_cons_succ] at ha
        subst ha
        refine wl_pure (.int .u8 ((Ord.vb v (m / 8) / 2 ^ (m % 8) % 2 : Nat) : Int)) rfl (run_and1 (.tmp 22) _ hd rfl rfl) ?_
        intro a' ha
        simp only [Act.put, List.setIfInBounds_toArray, List.set_cons_zero, List.set_cons_succ] at ha
        subst ha
        refine wl_pure (.bool true) rfl (fun _ => (show (execOp _ _).run Tryd.prog _ = .ok (.value (.bool (decide (((Ord.vb v (m / 8) / 2 ^ (m % 8) % 2 : Nat) : Int) = 1)))) _ from by kernel_rfl).trans (by rw [show Ord.vb v (m / 8) / 2 ^ (m % 8) % 2 = 1 from hb]; rfl)) ?_
        intro a' ha
        simp only [Act.put, List.setIfInBounds_toArray, List.set_cons_zero, List.set_cons_succ] at ha
        subst ha
        refine wl_nil (hK3 _ _ ?_)
        clear hK3 K3
        refine wp_cond_true rfl ?_
        refine wr_list ?_
        refine wl_load S26 0 b12 0 36 27 (.tmp 5) (n27 (dbl k).x (dbl k).y (dbl k).z) (n27 (dbl k).x (dbl k).y (dbl k).z) rfl rfl rfl rfl (Sub.self _) row36 (n27_size _ _ _) ?_
        intro a' ha
        simp only [Act.put, List.setIfInBounds_toArray, List.set_cons_zero, List.set_cons_succ] at ha
        subst ha
        refine wl_load S26 3 b1 0 36 27 (.tmp 2) (n27 x1 y1 z1) (n27 x1 y1 z1) rfl rfl rfl rfl (Sub.self _) row36 (n27_size _ _ _) ?_
        intro a' ha
        simp only [Act.put, List.setIfInBounds_toArray, List.set_cons_zero, List.set_cons_succ] at ha
        subst ha
        refine wl_call hZ S26 HAk rfl (fun _ => by kernel_rfl) ?_
        intro W27 a' S28 ha
        simp only [Act.put, List.setIfInBounds_toArray, List.set_cons_zero, List.set_cons_succ] at ha
        subst ha
        refine wl_store S28 0 b12 36 27 (.tmp 5) (.tmp 27) (n27 (dbl k).x (dbl k).y (dbl k).z) (n27 (st (k + 1)).x (st (k + 1)).y (st (k + 1)).z) rfl rfl rfl rfl rfl row36 (n27_size _ _ _) (n27_size _ _ _) (n27_one _ _ _) ?_
        intro W29 a' S30 ha
        simp only [Act.put, List.setIfInBounds_toArray, List.set_cons_zero, List.set_cons_succ] at ha
        subst ha
        refine wl_end (hK2 _ _ ?_)
        clear hK2 K2
        refine wr_list ?_
        refine wl_pure (.int .i64 (m : Int)) rfl (fun _ => by kernel_rfl) ?_
        intro a' ha
        simp only [Act.put, List.setIfInBounds_toArray, List.set_cons_zero, List.set_cons_succ] at ha
        subst ha
        refine wl_pure (.int .i64 ((m : Int) - 1)) rfl (fun _ => (show (execOp _ _).run Tryd.prog _ = .ok (.value (.int .i64 (IntKind.i64.wrap ((m : Int) - 1)))) _ from by kernel_rfl).trans (by rw [IntKind.wrap_i64, show ((m : Int) - 1 + 9223372036854775808) % 18446744073709551616 - 9223372036854775808 = (m : Int) - 1 by omega])) ?_
        intro a' ha
        simp only [Act.put, List.setIfInBounds_toArray, List.set_cons_zero, List.set_cons_succ] at ha
        subst ha
        refine wl_pure (.int .i64 ((m : Int) - 1)) rfl (fun _ => by kernel_rfl) ?_
        intro a' ha
        simp only [Act.put, List.setIfInBounds_toArray, List.set_cons_zero, List.set_cons_succ] at ha
        subst ha
        exact wl_end ⟨m, Nat.lt_succ_self _, k + 1, by omega, _, _, _, _, _, _, _, _, _, _, _, _, _, _, _, _, _, _, _, _, rfl, S30⟩
theorem RBoth_r {Z : World → Prop} (hZ : Keeps Z) {x1 y1 z1 a b v1 v2 v3 v4 v5 v6 v7 v8 v9 v10 v11 v12 : Nat} (H1 : Ret Z 55 #[rp x1 y1 z1, nbv a] (rp v1 v2 v3)) (H2 : Ret Z 28 #[] (rp v4 v5 v6)) (H3 : Ret Z 55 #[rp v4 v5 v6, nbv b] (rp v7 v8 v9)) (H4 : Ret Z 19 #[rp v1 v2 v3, rp v7 v8 v9] (rp v10 v11 v12)) : Ret Z 22 #[rp x1 y1 z1, nbv a, nbv b] (rp v10 v11 v12) := by
  intro w hw
  have S := St.refl hw
  go_enter Tryd.func22, Tryd.ntmps22
  refine wp_seq_k fun K hK => ?_
  refine wr_list ?_
  refine wl_alloc S (n27 x1 y1 z1) 36 rfl (fun _ => by kernel_rfl) ?_
  intro b1 W2 a' S3 ha
  simp only [Act.put, List.setIfInBounds_toArray, List.set_cons_zero, List.set_cons_succ] at ha
  subst ha
  refine wl_alloc S3 (b32 a) 55 rfl (fun _ => by kernel_rfl) ?_
  intro b4 W5 a' S6 ha
  simp only [Act.put, List.setIfInBounds_toArray, List.set_cons_zero, List.set_cons_succ] at ha
  subst ha
  refine wl_alloc S6 (b32 b) 55 rfl (fun _ => by kernel_rfl) ?_
  intro b7 W8 a' S9 ha
  simp only [Act.put, List.setIfInBounds_toArray, List.set_cons_zero, List.set_cons_succ] at ha
  subst ha
  refine wl_alloc S9 (n27 0 0 0) 36 rfl (fun _ => by kernel_rfl) ?_
  intro b10 W11 a' S12 ha
  simp only [Act.put, List.setIfInBounds_toArray, List.set_cons_zero, List.set_cons_succ] at ha
  subst ha
  refine wl_nil (hK _ _ ?_)
  clear hK K
  refine wp_seq_k fun K hK => ?_
  refine wr_tail [_, _, _, _, _, _, _] [_] S12 (by simp) (by kernel_rfl) (by kernel_rfl) (by kernel_rfl) (by kernel_rfl) (by kernel_rfl) ?_
  refine wq_load S12 3 b1 0 36 27 (.tmp 3) (n27 x1 y1 z1) (n27 x1 y1 z1) rfl rfl rfl rfl (Sub.self _) row36 (n27_size _ _ _) ?_
  intro a' ha
  simp only [Act.put, List.setIfInBounds_toArray, List.set_cons_zero, List.set_cons_succ] at ha
  subst ha
  refine wq_load S12 2 b4 0 55 32 (.tmp 4) (b32 a) (b32 a) rfl rfl rfl rfl (Sub.self _) row55 (b32_size _) ?_
  intro a' ha
  simp only [Act.put, List.setIfInBounds_toArray, List.set_cons_zero, List.set_cons_succ] at ha
  subst ha
  refine wq_call hZ S12 H1 rfl (fun _ => by kernel_rfl) ?_
  intro a' ha
  simp only [Act.put, List.setIfInBounds_toArray, List.set_cons_zero, List.set_cons_succ] at ha
  subst ha
  refine wq_call hZ S12 H2 rfl (fun _ => by kernel_rfl) ?_
  intro a' ha
  simp only [Act.put, List.setIfInBounds_toArray, List.set_cons_zero, List.set_cons_succ] at ha
  subst ha
  refine wq_load S12 1 b7 0 55 32 (.tmp 5) (b32 b) (b32 b) rfl rfl rfl rfl (Sub.self _) row55 (b32_size _) ?_
  intro a' ha
  simp only [Act.put, List.setIfInBounds_toArray, List.set_cons_zero, List.set_cons_succ] at ha
  subst ha
  refine wq_call hZ S12 H3 rfl (fun _ => by kernel_rfl) ?_
  intro a' ha
  simp only [Act.put, List.setIfInBounds_toArray, List.set_cons_zero, List.set_cons_succ] at ha
  subst ha
  refine wq_call hZ S12 H4 rfl (fun _ => by kernel_rfl) ?_
  intro a' ha
  simp only [Act.put, List.setIfInBounds_toArray, List.set_cons_zero, List.set_cons_succ] at ha
  subst ha
  refine wq_nil ?_
  intro W13 S14
  refine wt_store S14 0 b10 36 27 (.tmp 6) (.tmp 13) (n27 0 0 0) (n27 v10 v11 v12) rfl rfl rfl rfl row36 (n27_size _ _ _) (n27_size _ _ _) (n27_one _ _ _) ?_
  intro W15 a' S16 ha
  simp only [Act.put, List.setIfInBounds_toArray, List.set_cons_zero, List.set_cons_succ] at ha
  subst ha
  refine wt_nil (hK _ _ ?_)
  clear hK K
  refine wp_ret ?_
  exact fin_cell (k := 0) S16 rfl rfl rfl row36 (n27_size _ _ _) rfl
end Go.Proofs.YtpdagpjjlnncbaaDoor
