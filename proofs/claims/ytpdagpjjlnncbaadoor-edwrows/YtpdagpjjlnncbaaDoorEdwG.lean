/-
  Package edw: the walk of both, and of Both. No statement is proved here.
-/
import Derived.Test.YtpdagpjjlnncbaaDoorEdwF
namespace Go.Proofs.YtpdagpjjlnncbaaDoor
open Go.RowKit Go.Lib Go.BigFrame
set_option linter.unusedVariables false
set_option linter.unusedSimpArgs false
set_option maxRecDepth 1000000
set_option maxHeartbeats 4000000

theorem both_r {Z : World → Prop} (hZ : Keeps Z) {x1 y1 z1 t1 x2 y2 z2 t2 : Nat} {a b : ByteArray} {st db d : Nat → Pq} {s : Pq} {α β : Nat → Nat} (H0 : Ret Z 25 #[] (pv (st 0).x (st 0).y (st 0).z (st 0).t)) (R0 : Ret Z 51 #[pv (st 0).x (st 0).y (st 0).z (st 0).t] (pv (d 0).x (d 0).y (d 0).z (d 0).t)) (R1 : Ret Z 51 #[pv x1 y1 z1 t1] (pv (d 1).x (d 1).y (d 1).z (d 1).t)) (R2 : Ret Z 51 #[pv x2 y2 z2 t2] (pv (d 2).x (d 2).y (d 2).z (d 2).t)) (RA : Ret Z 18 #[pv x1 y1 z1 t1, pv x2 y2 z2 t2] (pv s.x s.y s.z s.t)) (R3 : Ret Z 51 #[pv s.x s.y s.z s.t] (pv (d 3).x (d 3).y (d 3).z (d 3).t)) (HB : ∀ k : Nat, k < 253 → Ret Z 81 #[.string b, .int .i64 (252 - (k : Int))] (.int .u8 ((β k : Nat) : Int))) (HA : ∀ k : Nat, k < 253 → Ret Z 81 #[.string a, .int .i64 (252 - (k : Int))] (.int .u8 ((α k : Nat) : Int))) (hβ : ∀ k, β k = 0 ∨ β k = 1) (hα : ∀ k, α k = 0 ∨ α k = 1) (HD : ∀ k, k < 253 → Ret Z 52 #[pv (st k).x (st k).y (st k).z (st k).t] (pv (db k).x (db k).y (db k).z (db k).t)) (HP : ∀ k, k < 253 → Ret Z 50 #[pv (db k).x (db k).y (db k).z (db k).t, pv (d (2 * β k + α k)).x (d (2 * β k + α k)).y (d (2 * β k + α k)).z (d (2 * β k + α k)).t] (pv (st (k + 1)).x (st (k + 1)).y (st (k + 1)).z (st (k + 1)).t)) : Ret Z 53 #[pv x1 y1 z1 t1, pv x2 y2 z2 t2, .string a, .string b] (pv (st 253).x (st 253).y (st 253).z (st 253).t) := by
  intro w hw
  have S := St.refl hw
  go_enter Tryd.func53, Tryd.ntmps53
  refine wp_seq_k fun K hK => ?_
  refine wr_list ?_
  refine wl_alloc S (q4 x1 y1 z1 t1) 29 rfl (fun _ => by kernel_rfl) ?_
  intro b1 W2 a' S3 ha
  simp only [Act.put, List.setIfInBounds_toArray, List.set_cons_zero, List.set_cons_succ] at ha
  subst ha
  refine wl_alloc S3 (q4 x2 y2 z2 t2) 29 rfl (fun _ => by kernel_rfl) ?_
  intro b4 W5 a' S6 ha
  simp only [Act.put, List.setIfInBounds_toArray, List.set_cons_zero, List.set_cons_succ] at ha
  subst ha
  refine wl_alloc S6 (q4 0 0 0 0) 29 rfl (fun _ => by kernel_rfl) ?_
  intro b7 W8 a' S9 ha
  simp only [Act.put, List.setIfInBounds_toArray, List.set_cons_zero, List.set_cons_succ] at ha
  subst ha
  refine wl_nil (hK _ _ ?_)
  clear hK K
  refine wp_seq_k fun K hK => ?_
  refine wr_list ?_
  refine wl_call hZ S9 H0 rfl (fun _ => by kernel_rfl) ?_
  intro W10 a' S11 ha
  simp only [Act.put, List.setIfInBounds_toArray, List.set_cons_zero, List.set_cons_succ] at ha
  subst ha
  refine wl_alloc S11 (q4 0 0 0 0) 29 rfl (fun _ => by kernel_rfl) ?_
  intro b12 W13 a' S14 ha
  simp only [Act.put, List.setIfInBounds_toArray, List.set_cons_zero, List.set_cons_succ] at ha
  subst ha
  refine wl_store S14 0 b12 29 16 (.tmp 9) (.tmp 12) (q4 0 0 0 0) (q4 (st 0).x (st 0).y (st 0).z (st 0).t) rfl rfl rfl rfl rfl row29 rfl rfl (q4_one _ _ _ _) ?_
  intro W15 a' S16 ha
  simp only [Act.put, List.setIfInBounds_toArray, List.set_cons_zero, List.set_cons_succ] at ha
  subst ha
  refine wl_nil (hK _ _ ?_)
  clear hK K
  refine wp_seq_k fun K hK => ?_
  apply wr_news [(10, 111, (a64 (fun _ => ⟨0, 0, 0, 0⟩)))] [_, _, _, _, _, _, _, _, _, _, _, _] [_] S16 (by simp) (by kernel_rfl) (by kernel_rfl) (by kernel_rfl) (by kernel_rfl) (by kernel_rfl) (by kernel_rfl) (by decide) (by intro x hx; simp only [List.mem_cons, List.not_mem_nil, or_false] at hx; subst hx; intro W; kernel_rfl)
  · intro V17 S18
    simp only [List.cons_append, List.nil_append, List.map_cons, List.map_nil, still, isNew, idle, if_true, Bool.false_eq_true, if_false]
    refine wq_load S18 0 b12 0 29 16 (.tmp 9) (q4 (st 0).x (st 0).y (st 0).z (st 0).t) (q4 (st 0).x (st 0).y (st 0).z (st 0).t) rfl rfl rfl rfl (Sub.self _) row29 rfl ?_
    intro a' ha
    simp only [Act.put, List.setIfInBounds_toArray, List.set_cons_zero, List.set_cons_succ] at ha
    subst ha
    refine wq_call hZ S18 R0 rfl (fun _ => by kernel_rfl) ?_
    intro a' ha
    simp only [Act.put, List.setIfInBounds_toArray, List.set_cons_zero, List.set_cons_succ] at ha
    subst ha
    refine wq_load S18 3 b1 0 29 16 (.tmp 4) (q4 x1 y1 z1 t1) (q4 x1 y1 z1 t1) rfl rfl rfl rfl (Sub.self _) row29 rfl ?_
    intro a' ha
    simp only [Act.put, List.setIfInBounds_toArray, List.set_cons_zero, List.set_cons_succ] at ha
    subst ha
    refine wq_call hZ S18 R1 rfl (fun _ => by kernel_rfl) ?_
    intro a' ha
    simp only [Act.put, List.setIfInBounds_toArray, List.set_cons_zero, List.set_cons_succ] at ha
    subst ha
    refine wq_load S18 2 b4 0 29 16 (.tmp 5) (q4 x2 y2 z2 t2) (q4 x2 y2 z2 t2) rfl rfl rfl rfl (Sub.self _) row29 rfl ?_
    intro a' ha
    simp only [Act.put, List.setIfInBounds_toArray, List.set_cons_zero, List.set_cons_succ] at ha
    subst ha
    refine wq_call hZ S18 R2 rfl (fun _ => by kernel_rfl) ?_
    intro a' ha
    simp only [Act.put, List.setIfInBounds_toArray, List.set_cons_zero, List.set_cons_succ] at ha
    subst ha
    refine wq_load S18 3 b1 0 29 16 (.tmp 4) (q4 x1 y1 z1 t1) (q4 x1 y1 z1 t1) rfl rfl rfl rfl (Sub.self _) row29 rfl ?_
    intro a' ha
    simp only [Act.put, List.setIfInBounds_toArray, List.set_cons_zero, List.set_cons_succ] at ha
    subst ha
    refine wq_load S18 2 b4 0 29 16 (.tmp 5) (q4 x2 y2 z2 t2) (q4 x2 y2 z2 t2) rfl rfl rfl rfl (Sub.self _) row29 rfl ?_
    intro a' ha
    simp only [Act.put, List.setIfInBounds_toArray, List.set_cons_zero, List.set_cons_succ] at ha
    subst ha
    refine wq_call hZ S18 RA rfl (fun _ => by kernel_rfl) ?_
    intro a' ha
    simp only [Act.put, List.setIfInBounds_toArray, List.set_cons_zero, List.set_cons_succ] at ha
    subst ha
    refine wq_call hZ S18 R3 rfl (fun _ => by kernel_rfl) ?_
    intro a' ha
    simp only [Act.put, List.setIfInBounds_toArray, List.set_cons_zero, List.set_cons_succ] at ha
    subst ha
    refine wq_pure (.agg (a64 d)) rfl (fun _ => by kernel_rfl) ?_
    intro a' ha
    simp only [Act.put, List.setIfInBounds_toArray, List.set_cons_zero, List.set_cons_succ] at ha
    subst ha
    refine wq_pure undef rfl (fun _ => by kernel_rfl) ?_
    intro a' ha
    simp only [Act.put, List.setIfInBounds_toArray, List.set_cons_zero, List.set_cons_succ] at ha
    subst ha
    refine wq_nil ?_
    rfl
  intro W19 p S20
  simp only [putAll, Act.put, List.setIfInBounds_toArray, List.set_cons_zero, List.set_cons_succ]
  have S22 : St Z w W19 [(p 10, .row (a64 (fun _ => ⟨0, 0, 0, 0⟩)) 111), (b12, .row (q4 (st 0).x (st 0).y (st 0).z (st 0).t) 29), (b7, .row (q4 0 0 0 0) 29), (b4, .row (q4 x2 y2 z2 t2) 29), (b1, .row (q4 x1 y1 z1 t1) 29)] := S20
  clear S20
  generalize p 10 = b21 at S22 ⊢
  refine wt_store S22 0 b21 111 64 (.tmp 10) (.tmp 23) (a64 (fun _ => ⟨0, 0, 0, 0⟩)) (a64 d) rfl rfl rfl rfl row111 rfl rfl (a64_one _) ?_
  intro W23 a' S24 ha
  simp only [Act.put, List.setIfInBounds_toArray, List.set_cons_zero, List.set_cons_succ] at ha
  subst ha
  refine wt_nil (hK _ _ ?_)
  clear hK K
  refine wp_seq_k fun K hK => ?_
  refine wp_seq_k fun K hK => ?_
  refine wr_list ?_
  refine wl_pure (.int .i64 252) rfl (fun _ => by kernel_rfl) ?_
  intro a' ha
  simp only [Act.put, List.setIfInBounds_toArray, List.set_cons_zero, List.set_cons_succ] at ha
  subst ha
  refine wl_nil (hK _ _ ?_)
  clear hK K
  refine wp_block ?_
  refine wp_loop_ghost (fun n ac W => ∃ k : Nat, n + k = 253 ∧ ∃ c24 c25 c26 c27 c28 c29 c30 c31 c32 c33 c34 c35 c36 c37 c38 c39 c40 : Value, ac = ⟨#[(pv x1 y1 z1 t1), (pv x2 y2 z2 t2), (.string a), (.string b), (.pointer (some ⟨b1, 0, none⟩)), (.pointer (some ⟨b4, 0, none⟩)), undef, undef, (.pointer (some ⟨b7, 0, none⟩)), (.pointer (some ⟨b12, 0, none⟩)), (.pointer (some ⟨b21, 0, none⟩)), .int .i64 (252 - (k : Int)), (pv (st 0).x (st 0).y (st 0).z (st 0).t), (.agg (q4 (st 0).x (st 0).y (st 0).z (st 0).t)), (pv (d 0).x (d 0).y (d 0).z (d 0).t), (.agg (q4 x1 y1 z1 t1)), (pv (d 1).x (d 1).y (d 1).z (d 1).t), (.agg (q4 x2 y2 z2 t2)), (pv (d 2).x (d 2).y (d 2).z (d 2).t), (.agg (q4 x1 y1 z1 t1)), (.agg (q4 x2 y2 z2 t2)), (pv (s).x (s).y (s).z (s).t), (pv (d 3).x (d 3).y (d 3).z (d 3).t), (.agg (a64 d)), c24, c25, c26, c27, c28, c29, c30, c31, c32, c33, c34, c35, c36, c37, c38, c39, c40, undef], []⟩ ∧ St Z w W [(b21, .row (a64 d) 111), (b12, .row (q4 (st k).x (st k).y (st k).z (st k).t) 29), (b7, .row (q4 0 0 0 0) 29), (b4, .row (q4 x2 y2 z2 t2) 29), (b1, .row (q4 x1 y1 z1 t1) 29)]) 253 ?_ ?_
  · exact ⟨0, rfl, undef, undef, undef, undef, undef, undef, undef, undef, undef, undef, undef, undef, undef, undef, undef, undef, undef, rfl, S24⟩
  · rintro n _ W ⟨k, hk, c24, c25, c26, c27, c28, c29, c30, c31, c32, c33, c34, c35, c36, c37, c38, c39, c40, rfl, S⟩
    rcases n with _ | n
    · obtain rfl : k = 253 := by omega
      refine wp_seq_k fun K2 hK2 => ?_
      clear hK2
      refine wp_seq_k fun K3 hK3 => ?_
      refine wr_list ?_
      refine wl_pure (.int .i64 (252 - ((253 : Nat) : Int))) rfl (fun _ => by kernel_rfl) ?_
      intro a' ha
      simp only [Act.put, List.setIfInBounds_toArray, List.set_cons_zero, List.set_cons_succ] at ha
      subst ha
      refine wl_pure (.bool false) rfl (fun _ => (show (execOp _ _).run Tryd.prog _ = .ok (.value (.bool (decide (0 ≤ 252 - ((253 : Nat) : Int))))) _ from by kernel_rfl).trans (by rw [decide_eq_false (by decide)])) ?_
      intro a' ha
      simp only [Act.put, List.setIfInBounds_toArray, List.set_cons_zero, List.set_cons_succ] at ha
      subst ha
      refine wl_nil (hK3 _ _ ?_)
      clear hK3 K3
      refine wp_cond_false rfl ?_
      refine wp_exit ?_
      refine hK _ _ ?_
      clear hK K
      refine wp_seq_k fun K hK => ?_
      refine wr_list ?_
      refine wl_load S 1 b12 0 29 16 (.tmp 9) (q4 (st 253).x (st 253).y (st 253).z (st 253).t) (q4 (st 253).x (st 253).y (st 253).z (st 253).t) rfl rfl rfl rfl (Sub.self _) row29 rfl ?_
      intro a' ha
      simp only [Act.put, List.setIfInBounds_toArray, List.set_cons_zero, List.set_cons_succ] at ha
      subst ha
      refine wl_store S 2 b7 29 16 (.tmp 8) (.tmp 41) (q4 0 0 0 0) (q4 (st 253).x (st 253).y (st 253).z (st 253).t) rfl rfl rfl rfl rfl row29 rfl rfl (q4_one _ _ _ _) ?_
      intro W25 a' S26 ha
      simp only [Act.put, List.setIfInBounds_toArray, List.set_cons_zero, List.set_cons_succ] at ha
      subst ha
      refine wl_nil (hK _ _ ?_)
      clear hK K
      refine wp_ret ?_
      exact fin_cell (k := 2) S26 rfl rfl rfl row29 rfl rfl
    · have hk2 : k < 253 := by omega
      have HBk := HB k hk2
      have HAk := HA k hk2
      have HPk := HP k hk2
      have HDk := HD k hk2
      rcases hβ k with hb | hb <;> rcases hα k with ha0 | ha0
      · rw [hb, ha0] at HPk
        rw [hb] at HBk
        rw [ha0] at HAk
        clear hb ha0
        refine wp_seq_k fun K2 hK2 => ?_
        refine wp_seq_k fun K3 hK3 => ?_
        refine wr_list ?_
        refine wl_pure (.int .i64 (252 - (k : Int))) rfl (fun _ => by kernel_rfl) ?_
        intro a' ha
        simp only [Act.put, List.setIfInBounds_toArray, List.set_cons_zero, List.set_cons_succ] at ha
        subst ha
        refine wl_pure (.bool true) rfl (fun _ => (show (execOp _ _).run Tryd.prog _ = .ok (.value (.bool (decide (0 ≤ 252 - (k : Int))))) _ from by kernel_rfl).trans (by rw [decide_eq_true (by omega)])) ?_
        intro a' ha
        simp only [Act.put, List.setIfInBounds_toArray, List.set_cons_zero, List.set_cons_succ] at ha
        subst ha
        refine wl_nil (hK3 _ _ ?_)
        clear hK3 K3
        refine wp_cond_true rfl ?_
        refine wp_skip (hK2 _ _ ?_)
        clear hK2 K2
        refine wp_seq_k fun K2 hK2 => ?_
        refine wp_block ?_
        refine wr_list ?_
        refine wl_load S 1 b12 0 29 16 (.tmp 9) (q4 (st k).x (st k).y (st k).z (st k).t) (q4 (st k).x (st k).y (st k).z (st k).t) rfl rfl rfl rfl (Sub.self _) row29 rfl ?_
        intro a' ha
        simp only [Act.put, List.setIfInBounds_toArray, List.set_cons_zero, List.set_cons_succ] at ha
        subst ha
        refine wl_call hZ S HDk rfl (fun _ => by kernel_rfl) ?_
        intro W27 a' S28 ha
        simp only [Act.put, List.setIfInBounds_toArray, List.set_cons_zero, List.set_cons_succ] at ha
        subst ha
        refine wl_pure (.string b) rfl (fun _ => by kernel_rfl) ?_
        intro a' ha
        simp only [Act.put, List.setIfInBounds_toArray, List.set_cons_zero, List.set_cons_succ] at ha
        subst ha
        refine wl_pure (.int .i64 (252 - (k : Int))) rfl (fun _ => by kernel_rfl) ?_
        intro a' ha
        simp only [Act.put, List.setIfInBounds_toArray, List.set_cons_zero, List.set_cons_succ] at ha
        subst ha
        refine wl_call hZ S28 HBk rfl (fun _ => by kernel_rfl) ?_
        intro W29 a' S30 ha
        simp only [Act.put, List.setIfInBounds_toArray, List.set_cons_zero, List.set_cons_succ] at ha
        subst ha
        refine wl_pure (.int .u8 0) rfl (fun _ => by kernel_rfl) ?_
        intro a' ha
        simp only [Act.put, List.setIfInBounds_toArray, List.set_cons_zero, List.set_cons_succ] at ha
        subst ha
        refine wl_pure (.string a) rfl (fun _ => by kernel_rfl) ?_
        intro a' ha
        simp only [Act.put, List.setIfInBounds_toArray, List.set_cons_zero, List.set_cons_succ] at ha
        subst ha
        refine wl_pure (.int .i64 (252 - (k : Int))) rfl (fun _ => by kernel_rfl) ?_
        intro a' ha
        simp only [Act.put, List.setIfInBounds_toArray, List.set_cons_zero, List.set_cons_succ] at ha
        subst ha
        refine wl_call hZ S30 HAk rfl (fun _ => by kernel_rfl) ?_
        intro W31 a' S32 ha
        simp only [Act.put, List.setIfInBounds_toArray, List.set_cons_zero, List.set_cons_succ] at ha
        subst ha
        refine wl_pure (.int .u8 0) rfl (fun _ => by kernel_rfl) ?_
        intro a' ha
        simp only [Act.put, List.setIfInBounds_toArray, List.set_cons_zero, List.set_cons_succ] at ha
        subst ha
        refine wl_pure (.pointer (some ⟨b21, 0, none⟩)) rfl (fun _ => by kernel_rfl) ?_
        intro a' ha
        simp only [Act.put, List.setIfInBounds_toArray, List.set_cons_zero, List.set_cons_succ] at ha
        subst ha
        refine wl_load S32 0 b21 0 83 16 (.tmp 38) (a64 d) (q4 (d 0).x (d 0).y (d 0).z (d 0).t) rfl rfl rfl rfl (sub_a0 _) row83 rfl ?_
        intro a' ha
        simp only [Act.put, List.setIfInBounds_toArray, List.set_cons_zero, List.set_cons_succ] at ha
        subst ha
        refine wl_call hZ S32 HPk rfl (fun _ => by kernel_rfl) ?_
        intro W33 a' S34 ha
        simp only [Act.put, List.setIfInBounds_toArray, List.set_cons_zero, List.set_cons_succ] at ha
        subst ha
        refine wl_store S34 1 b12 29 16 (.tmp 9) (.tmp 40) (q4 (st k).x (st k).y (st k).z (st k).t) (q4 (st (k + 1)).x (st (k + 1)).y (st (k + 1)).z (st (k + 1)).t) rfl rfl rfl rfl rfl row29 rfl rfl (q4_one _ _ _ _) ?_
        intro W35 a' S36 ha
        simp only [Act.put, List.setIfInBounds_toArray, List.set_cons_zero, List.set_cons_succ] at ha
        subst ha
        refine wl_end (hK2 _ _ ?_)
        clear hK2 K2
        refine wr_list ?_
        refine wl_pure (.int .i64 (252 - (k : Int))) rfl (fun _ => by kernel_rfl) ?_
        intro a' ha
        simp only [Act.put, List.setIfInBounds_toArray, List.set_cons_zero, List.set_cons_succ] at ha
        subst ha
        refine wl_pure (.int .i64 (252 - ((k + 1 : Nat) : Int))) rfl (fun _ => (show (execOp _ _).run Tryd.prog _ = .ok (.value (.int .i64 (IntKind.i64.wrap (252 - (k : Int) - 1)))) _ from by kernel_rfl).trans (by rw [IntKind.wrap_i64, show (252 - (k : Int) - 1 + 9223372036854775808) % 18446744073709551616 - 9223372036854775808 = 252 - ((k + 1 : Nat) : Int) by omega])) ?_
        intro a' ha
        simp only [Act.put, List.setIfInBounds_toArray, List.set_cons_zero, List.set_cons_succ] at ha
        subst ha
        refine wl_pure (.int .i64 (252 - ((k + 1 : Nat) : Int))) rfl (fun _ => by kernel_rfl) ?_
        intro a' ha
        simp only [Act.put, List.setIfInBounds_toArray, List.set_cons_zero, List.set_cons_succ] at ha
        subst ha
        exact wl_end ⟨n, Nat.lt_succ_self _, k + 1, by omega, _, _, _, _, _, _, _, _, _, _, _, _, _, _, _, _, _, rfl, S36⟩
      · rw [hb, ha0] at HPk
        rw [hb] at HBk
        rw [ha0] at HAk
        clear hb ha0
        refine wp_seq_k fun K2 hK2 => ?_
        refine wp_seq_k fun K3 hK3 => ?_
        refine wr_list ?_
        refine wl_pure (.int .i64 (252 - (k : Int))) rfl (fun _ => by kernel_rfl) ?_
        intro a' ha
        simp only [Act.put, List.setIfInBounds_toArray, List.set_cons_zero, List.set_cons_succ] at ha
        subst ha
        refine wl_pure (.bool true) rfl (fun _ => (show (execOp _ _).run Tryd.prog _ = .ok (.value (.bool (decide (0 ≤ 252 - (k : Int))))) _ from by kernel_rfl).trans (by rw [decide_eq_true (by omega)])) ?_
        intro a' ha
        simp only [Act.put, List.setIfInBounds_toArray, List.set_cons_zero, List.set_cons_succ] at ha
        subst ha
        refine wl_nil (hK3 _ _ ?_)
        clear hK3 K3
        refine wp_cond_true rfl ?_
        refine wp_skip (hK2 _ _ ?_)
        clear hK2 K2
        refine wp_seq_k fun K2 hK2 => ?_
        refine wp_block ?_
        refine wr_list ?_
        refine wl_load S 1 b12 0 29 16 (.tmp 9) (q4 (st k).x (st k).y (st k).z (st k).t) (q4 (st k).x (st k).y (st k).z (st k).t) rfl rfl rfl rfl (Sub.self _) row29 rfl ?_
        intro a' ha
        simp only [Act.put, List.setIfInBounds_toArray, List.set_cons_zero, List.set_cons_succ] at ha
        subst ha
        refine wl_call hZ S HDk rfl (fun _ => by kernel_rfl) ?_
        intro W37 a' S38 ha
        simp only [Act.put, List.setIfInBounds_toArray, List.set_cons_zero, List.set_cons_succ] at ha
        subst ha
        refine wl_pure (.string b) rfl (fun _ => by kernel_rfl) ?_
        intro a' ha
        simp only [Act.put, List.setIfInBounds_toArray, List.set_cons_zero, List.set_cons_succ] at ha
        subst ha
        refine wl_pure (.int .i64 (252 - (k : Int))) rfl (fun _ => by kernel_rfl) ?_
        intro a' ha
        simp only [Act.put, List.setIfInBounds_toArray, List.set_cons_zero, List.set_cons_succ] at ha
        subst ha
        refine wl_call hZ S38 HBk rfl (fun _ => by kernel_rfl) ?_
        intro W39 a' S40 ha
        simp only [Act.put, List.setIfInBounds_toArray, List.set_cons_zero, List.set_cons_succ] at ha
        subst ha
        refine wl_pure (.int .u8 0) rfl (fun _ => by kernel_rfl) ?_
        intro a' ha
        simp only [Act.put, List.setIfInBounds_toArray, List.set_cons_zero, List.set_cons_succ] at ha
        subst ha
        refine wl_pure (.string a) rfl (fun _ => by kernel_rfl) ?_
        intro a' ha
        simp only [Act.put, List.setIfInBounds_toArray, List.set_cons_zero, List.set_cons_succ] at ha
        subst ha
        refine wl_pure (.int .i64 (252 - (k : Int))) rfl (fun _ => by kernel_rfl) ?_
        intro a' ha
        simp only [Act.put, List.setIfInBounds_toArray, List.set_cons_zero, List.set_cons_succ] at ha
        subst ha
        refine wl_call hZ S40 HAk rfl (fun _ => by kernel_rfl) ?_
        intro W41 a' S42 ha
        simp only [Act.put, List.setIfInBounds_toArray, List.set_cons_zero, List.set_cons_succ] at ha
        subst ha
        refine wl_pure (.int .u8 1) rfl (fun _ => by kernel_rfl) ?_
        intro a' ha
        simp only [Act.put, List.setIfInBounds_toArray, List.set_cons_zero, List.set_cons_succ] at ha
        subst ha
        refine wl_pure (.pointer (some ⟨b21, 16, none⟩)) rfl (fun _ => by kernel_rfl) ?_
        intro a' ha
        simp only [Act.put, List.setIfInBounds_toArray, List.set_cons_zero, List.set_cons_succ] at ha
        subst ha
        refine wl_load S42 0 b21 16 83 16 (.tmp 38) (a64 d) (q4 (d 1).x (d 1).y (d 1).z (d 1).t) rfl rfl rfl rfl (sub_a1 _) row83 rfl ?_
        intro a' ha
        simp only [Act.put, List.setIfInBounds_toArray, List.set_cons_zero, List.set_cons_succ] at ha
        subst ha
        refine wl_call hZ S42 HPk rfl (fun _ => by kernel_rfl) ?_
        intro W43 a' S44 ha
        simp only [Act.put, List.setIfInBounds_toArray, List.set_cons_zero, List.set_cons_succ] at ha
        subst ha
        refine wl_store S44 1 b12 29 16 (.tmp 9) (.tmp 40) (q4 (st k).x (st k).y (st k).z (st k).t) (q4 (st (k + 1)).x (st (k + 1)).y (st (k + 1)).z (st (k + 1)).t) rfl rfl rfl rfl rfl row29 rfl rfl (q4_one _ _ _ _) ?_
        intro W45 a' S46 ha
        simp only [Act.put, List.setIfInBounds_toArray, List.set_cons_zero, List.set_cons_succ] at ha
        subst ha
        refine wl_end (hK2 _ _ ?_)
        clear hK2 K2
        refine wr_list ?_
        refine wl_pure (.int .i64 (252 - (k : Int))) rfl (fun _ => by kernel_rfl) ?_
        intro a' ha
        simp only [Act.put, List.setIfInBounds_toArray, List.set_cons_zero, List.set_cons_succ] at ha
        subst ha
        refine wl_pure (.int .i64 (252 - ((k + 1 : Nat) : Int))) rfl (fun _ => (show (execOp _ _).run Tryd.prog _ = .ok (.value (.int .i64 (IntKind.i64.wrap (252 - (k : Int) - 1)))) _ from by kernel_rfl).trans (by rw [IntKind.wrap_i64, show (252 - (k : Int) - 1 + 9223372036854775808) % 18446744073709551616 - 9223372036854775808 = 252 - ((k + 1 : Nat) : Int) by omega])) ?_
        intro a' ha
        simp only [Act.put, List.setIfInBounds_toArray, List.set_cons_zero, List.set_cons_succ] at ha
        subst ha
        refine wl_pure (.int .i64 (252 - ((k + 1 : Nat) : Int))) rfl (fun _ => by kernel_rfl) ?_
        intro a' ha
        simp only [Act.put, List.setIfInBounds_toArray, List.set_cons_zero, List.set_cons_succ] at ha
        subst ha
        exact wl_end ⟨n, Nat.lt_succ_self _, k + 1, by omega, _, _, _, _, _, _, _, _, _, _, _, _, _, _, _, _, _, rfl, S46⟩
      · rw [hb, ha0] at HPk
        rw [hb] at HBk
        rw [ha0] at HAk
        clear hb ha0
        refine wp_seq_k fun K2 hK2 => ?_
        refine wp_seq_k fun K3 hK3 => ?_
        refine wr_list ?_
        refine wl_pure (.int .i64 (252 - (k : Int))) rfl (fun _ => by kernel_rfl) ?_
        intro a' ha
        simp only [Act.put, List.setIfInBounds_toArray, List.set_cons_zero, List.set_cons_succ] at ha
        subst ha
        refine wl_pure (.bool true) rfl (fun _ => (show (execOp _ _).run Tryd.prog _ = .ok (.value (.bool (decide (0 ≤ 252 - (k : Int))))) _ from by kernel_rfl).trans (by rw [decide_eq_true (by omega)])) ?_
        intro a' ha
        simp only [Act.put, List.setIfInBounds_toArray, List.set_cons_zero, List.set_cons_succ] at ha
        subst ha
        refine wl_nil (hK3 _ _ ?_)
        clear hK3 K3
        refine wp_cond_true rfl ?_
        refine wp_skip (hK2 _ _ ?_)
        clear hK2 K2
        refine wp_seq_k fun K2 hK2 => ?_
        refine wp_block ?_
        refine wr_list ?_
        refine wl_load S 1 b12 0 29 16 (.tmp 9) (q4 (st k).x (st k).y (st k).z (st k).t) (q4 (st k).x (st k).y (st k).z (st k).t) rfl rfl rfl rfl (Sub.self _) row29 rfl ?_
        intro a' ha
        simp only [Act.put, List.setIfInBounds_toArray, List.set_cons_zero, List.set_cons_succ] at ha
        subst ha
        refine wl_call hZ S HDk rfl (fun _ => by kernel_rfl) ?_
        intro W47 a' S48 ha
        simp only [Act.put, List.setIfInBounds_toArray, List.set_cons_zero, List.set_cons_succ] at ha
        subst ha
        refine wl_pure (.string b) rfl (fun _ => by kernel_rfl) ?_
        intro a' ha
        simp only [Act.put, List.setIfInBounds_toArray, List.set_cons_zero, List.set_cons_succ] at ha
        subst ha
        refine wl_pure (.int .i64 (252 - (k : Int))) rfl (fun _ => by kernel_rfl) ?_
        intro a' ha
        simp only [Act.put, List.setIfInBounds_toArray, List.set_cons_zero, List.set_cons_succ] at ha
        subst ha
        refine wl_call hZ S48 HBk rfl (fun _ => by kernel_rfl) ?_
        intro W49 a' S50 ha
        simp only [Act.put, List.setIfInBounds_toArray, List.set_cons_zero, List.set_cons_succ] at ha
        subst ha
        refine wl_pure (.int .u8 2) rfl (fun _ => by kernel_rfl) ?_
        intro a' ha
        simp only [Act.put, List.setIfInBounds_toArray, List.set_cons_zero, List.set_cons_succ] at ha
        subst ha
        refine wl_pure (.string a) rfl (fun _ => by kernel_rfl) ?_
        intro a' ha
        simp only [Act.put, List.setIfInBounds_toArray, List.set_cons_zero, List.set_cons_succ] at ha
        subst ha
        refine wl_pure (.int .i64 (252 - (k : Int))) rfl (fun _ => by kernel_rfl) ?_
        intro a' ha
        simp only [Act.put, List.setIfInBounds_toArray, List.set_cons_zero, List.set_cons_succ] at ha
        subst ha
        refine wl_call hZ S50 HAk rfl (fun _ => by kernel_rfl) ?_
        intro W51 a' S52 ha
        simp only [Act.put, List.setIfInBounds_toArray, List.set_cons_zero, List.set_cons_succ] at ha
        subst ha
        refine wl_pure (.int .u8 2) rfl (fun _ => by kernel_rfl) ?_
        intro a' ha
        simp only [Act.put, List.setIfInBounds_toArray, List.set_cons_zero, List.set_cons_succ] at ha
        subst ha
        refine wl_pure (.pointer (some ⟨b21, 32, none⟩)) rfl (fun _ => by kernel_rfl) ?_
        intro a' ha
        simp only [Act.put, List.setIfInBounds_toArray, List.set_cons_zero, List.set_cons_succ] at ha
        subst ha
        refine wl_load S52 0 b21 32 83 16 (.tmp 38) (a64 d) (q4 (d 2).x (d 2).y (d 2).z (d 2).t) rfl rfl rfl rfl (sub_a2 _) row83 rfl ?_
        intro a' ha
        simp only [Act.put, List.setIfInBounds_toArray, List.set_cons_zero, List.set_cons_succ] at ha
        subst ha
        refine wl_call hZ S52 HPk rfl (fun _ => by kernel_rfl) ?_
        intro W53 a' S54 ha
        simp only [Act.put, List.setIfInBounds_toArray, List.set_cons_zero, List.set_cons_succ] at ha
        subst ha
        refine wl_store S54 1 b12 29 16 (.tmp 9) (.tmp 40) (q4 (st k).x (st k).y (st k).z (st k).t) (q4 (st (k + 1)).x (st (k + 1)).y (st (k + 1)).z (st (k + 1)).t) rfl rfl rfl rfl rfl row29 rfl rfl (q4_one _ _ _ _) ?_
        intro W55 a' S56 ha
        simp only [Act.put, List.setIfInBounds_toArray, List.set_cons_zero, List.set_cons_succ] at ha
        subst ha
        refine wl_end (hK2 _ _ ?_)
        clear hK2 K2
        refine wr_list ?_
        refine wl_pure (.int .i64 (252 - (k : Int))) rfl (fun _ => by kernel_rfl) ?_
        intro a' ha
        simp only [Act.put, List.setIfInBounds_toArray, List.set_cons_zero, List.set_cons_succ] at ha
        subst ha
        refine wl_pure (.int .i64 (252 - ((k + 1 : Nat) : Int))) rfl (fun _ => (show (execOp _ _).run Tryd.prog _ = .ok (.value (.int .i64 (IntKind.i64.wrap (252 - (k : Int) - 1)))) _ from by kernel_rfl).trans (by rw [IntKind.wrap_i64, show (252 - (k : Int) - 1 + 9223372036854775808) % 18446744073709551616 - 9223372036854775808 = 252 - ((k + 1 : Nat) : Int) by omega])) ?_
        intro a' ha
        simp only [Act.put, List.setIfInBounds_toArray, List.set_cons_zero, List.set_cons_succ] at ha
        subst ha
        refine wl_pure (.int .i64 (252 - ((k + 1 : Nat) : Int))) rfl (fun _ => by kernel_rfl) ?_
        intro a' ha
        simp only [Act.put, List.setIfInBounds_toArray, List.set_cons_zero, List.set_cons_succ] at ha
        subst ha
        exact wl_end ⟨n, Nat.lt_succ_self _, k + 1, by omega, _, _, _, _, _, _, _, _, _, _, _, _, _, _, _, _, _, rfl, S56⟩
      · rw [hb, ha0] at HPk
        rw [hb] at HBk
        rw [ha0] at HAk
        clear hb ha0
        refine wp_seq_k fun K2 hK2 => ?_
        refine wp_seq_k fun K3 hK3 => ?_
        refine wr_list ?_
        refine wl_pure (.int .i64 (252 - (k : Int))) rfl (fun _ => by kernel_rfl) ?_
        intro a' ha
        simp only [Act.put, List.setIfInBounds_toArray, List.set_cons_zero, List.set_cons_succ] at ha
        subst ha
        refine wl_pure (.bool true) rfl (fun _ => (show (execOp _ _).run Tryd.prog _ = .ok (.value (.bool (decide (0 ≤ 252 - (k : Int))))) _ from by kernel_rfl).trans (by rw [decide_eq_true (by omega)])) ?_
        intro a' ha
        simp only [Act.put, List.setIfInBounds_toArray, List.set_cons_zero, List.set_cons_succ] at ha
        subst ha
        refine wl_nil (hK3 _ _ ?_)
        clear hK3 K3
        refine wp_cond_true rfl ?_
        refine wp_skip (hK2 _ _ ?_)
        clear hK2 K2
        refine wp_seq_k fun K2 hK2 => ?_
        refine wp_block ?_
        refine wr_list ?_
        refine wl_load S 1 b12 0 29 16 (.tmp 9) (q4 (st k).x (st k).y (st k).z (st k).t) (q4 (st k).x (st k).y (st k).z (st k).t) rfl rfl rfl rfl (Sub.self _) row29 rfl ?_
        intro a' ha
        simp only [Act.put, List.setIfInBounds_toArray, List.set_cons_zero, List.set_cons_succ] at ha
        subst ha
        refine wl_call hZ S HDk rfl (fun _ => by kernel_rfl) ?_
        intro W57 a' S58 ha
        simp only [Act.put, List.setIfInBounds_toArray, List.set_cons_zero, List.set_cons_succ] at ha
        subst ha
        refine wl_pure (.string b) rfl (fun _ => by kernel_rfl) ?_
        intro a' ha
        simp only [Act.put, List.setIfInBounds_toArray, List.set_cons_zero, List.set_cons_succ] at ha
        subst ha
        refine wl_pure (.int .i64 (252 - (k : Int))) rfl (fun _ => by kernel_rfl) ?_
        intro a' ha
        simp only [Act.put, List.setIfInBounds_toArray, List.set_cons_zero, List.set_cons_succ] at ha
        subst ha
        refine wl_call hZ S58 HBk rfl (fun _ => by kernel_rfl) ?_
        intro W59 a' S60 ha
        simp only [Act.put, List.setIfInBounds_toArray, List.set_cons_zero, List.set_cons_succ] at ha
        subst ha
        refine wl_pure (.int .u8 2) rfl (fun _ => by kernel_rfl) ?_
        intro a' ha
        simp only [Act.put, List.setIfInBounds_toArray, List.set_cons_zero, List.set_cons_succ] at ha
        subst ha
        refine wl_pure (.string a) rfl (fun _ => by kernel_rfl) ?_
        intro a' ha
        simp only [Act.put, List.setIfInBounds_toArray, List.set_cons_zero, List.set_cons_succ] at ha
        subst ha
        refine wl_pure (.int .i64 (252 - (k : Int))) rfl (fun _ => by kernel_rfl) ?_
        intro a' ha
        simp only [Act.put, List.setIfInBounds_toArray, List.set_cons_zero, List.set_cons_succ] at ha
        subst ha
        refine wl_call hZ S60 HAk rfl (fun _ => by kernel_rfl) ?_
        intro W61 a' S62 ha
        simp only [Act.put, List.setIfInBounds_toArray, List.set_cons_zero, List.set_cons_succ] at ha
        subst ha
        refine wl_pure (.int .u8 3) rfl (fun _ => by kernel_rfl) ?_
        intro a' ha
        simp only [Act.put, List.setIfInBounds_toArray, List.set_cons_zero, List.set_cons_succ] at ha
        subst ha
        refine wl_pure (.pointer (some ⟨b21, 48, none⟩)) rfl (fun _ => by kernel_rfl) ?_
        intro a' ha
        simp only [Act.put, List.setIfInBounds_toArray, List.set_cons_zero, List.set_cons_succ] at ha
        subst ha
        refine wl_load S62 0 b21 48 83 16 (.tmp 38) (a64 d) (q4 (d 3).x (d 3).y (d 3).z (d 3).t) rfl rfl rfl rfl (sub_a3 _) row83 rfl ?_
        intro a' ha
        simp only [Act.put, List.setIfInBounds_toArray, List.set_cons_zero, List.set_cons_succ] at ha
        subst ha
        refine wl_call hZ S62 HPk rfl (fun _ => by kernel_rfl) ?_
        intro W63 a' S64 ha
        simp only [Act.put, List.setIfInBounds_toArray, List.set_cons_zero, List.set_cons_succ] at ha
        subst ha
        refine wl_store S64 1 b12 29 16 (.tmp 9) (.tmp 40) (q4 (st k).x (st k).y (st k).z (st k).t) (q4 (st (k + 1)).x (st (k + 1)).y (st (k + 1)).z (st (k + 1)).t) rfl rfl rfl rfl rfl row29 rfl rfl (q4_one _ _ _ _) ?_
        intro W65 a' S66 ha
        simp only [Act.put, List.setIfInBounds_toArray, List.set_cons_zero, List.set_cons_succ] at ha
        subst ha
        refine wl_end (hK2 _ _ ?_)
        clear hK2 K2
        refine wr_list ?_
        refine wl_pure (.int .i64 (252 - (k : Int))) rfl (fun _ => by kernel_rfl) ?_
        intro a' ha
        simp only [Act.put, List.setIfInBounds_toArray, List.set_cons_zero, List.set_cons_succ] at ha
        subst ha
        refine wl_pure (.int .i64 (252 - ((k + 1 : Nat) : Int))) rfl (fun _ => (show (execOp _ _).run Tryd.prog _ = .ok (.value (.int .i64 (IntKind.i64.wrap (252 - (k : Int) - 1)))) _ from by kernel_rfl).trans (by rw [IntKind.wrap_i64, show (252 - (k : Int) - 1 + 9223372036854775808) % 18446744073709551616 - 9223372036854775808 = 252 - ((k + 1 : Nat) : Int) by omega])) ?_
        intro a' ha
        simp only [Act.put, List.setIfInBounds_toArray, List.set_cons_zero, List.set_cons_succ] at ha
        subst ha
        refine wl_pure (.int .i64 (252 - ((k + 1 : Nat) : Int))) rfl (fun _ => by kernel_rfl) ?_
        intro a' ha
        simp only [Act.put, List.setIfInBounds_toArray, List.set_cons_zero, List.set_cons_succ] at ha
        subst ha
        exact wl_end ⟨n, Nat.lt_succ_self _, k + 1, by omega, _, _, _, _, _, _, _, _, _, _, _, _, _, _, _, _, _, rfl, S66⟩
theorem Both_no {Z : World → Prop} (hZ : Keeps Z) {x1 y1 z1 t1 a b : Nat} (H1 : Ret Z 42 #[pv x1 y1 z1 t1] (.bool true)) : Ret Z 21 #[pv x1 y1 z1 t1, wd a, wd b] (pv 0 0 0 0) := by
  intro w hw
  have S := St.refl hw
  go_enter Tryd.func21, Tryd.ntmps21
  refine wp_seq_k fun K hK => ?_
  refine wr_list ?_
  refine wl_alloc S (q4 x1 y1 z1 t1) 29 rfl (fun _ => by kernel_rfl) ?_
  intro b1 W2 a' S3 ha
  simp only [Act.put, List.setIfInBounds_toArray, List.set_cons_zero, List.set_cons_succ] at ha
  subst ha
  refine wl_alloc S3 (e4 a) 46 rfl (fun _ => by kernel_rfl) ?_
  intro b4 W5 a' S6 ha
  simp only [Act.put, List.setIfInBounds_toArray, List.set_cons_zero, List.set_cons_succ] at ha
  subst ha
  refine wl_alloc S6 (e4 b) 46 rfl (fun _ => by kernel_rfl) ?_
  intro b7 W8 a' S9 ha
  simp only [Act.put, List.setIfInBounds_toArray, List.set_cons_zero, List.set_cons_succ] at ha
  subst ha
  refine wl_alloc S9 (q4 0 0 0 0) 29 rfl (fun _ => by kernel_rfl) ?_
  intro b10 W11 a' S12 ha
  simp only [Act.put, List.setIfInBounds_toArray, List.set_cons_zero, List.set_cons_succ] at ha
  subst ha
  refine wl_nil (hK _ _ ?_)
  clear hK K
  refine wp_seq_k fun K hK => ?_
  refine wp_seq_k fun K hK => ?_
  refine wr_list ?_
  refine wl_load S12 3 b1 0 29 16 (.tmp 3) (q4 x1 y1 z1 t1) (q4 x1 y1 z1 t1) rfl rfl rfl rfl (Sub.self _) row29 rfl ?_
  intro a' ha
  simp only [Act.put, List.setIfInBounds_toArray, List.set_cons_zero, List.set_cons_succ] at ha
  subst ha
  refine wl_call hZ S12 H1 rfl (fun _ => by kernel_rfl) ?_
  intro W13 a' S14 ha
  simp only [Act.put, List.setIfInBounds_toArray, List.set_cons_zero, List.set_cons_succ] at ha
  subst ha
  refine wl_nil (hK _ _ ?_)
  clear hK K
  refine wp_cond_true rfl ?_
  refine wp_seq_k fun K hK => ?_
  refine wr_list ?_
  refine wl_pure (.agg (q4 0 0 0 0)) rfl (fun _ => by kernel_rfl) ?_
  intro a' ha
  simp only [Act.put, List.setIfInBounds_toArray, List.set_cons_zero, List.set_cons_succ] at ha
  subst ha
  refine wl_store S14 0 b10 29 16 (.tmp 6) (.tmp 9) (q4 0 0 0 0) (q4 0 0 0 0) rfl rfl rfl rfl rfl row29 rfl rfl (q4_one _ _ _ _) ?_
  intro W15 a' S16 ha
  simp only [Act.put, List.setIfInBounds_toArray, List.set_cons_zero, List.set_cons_succ] at ha
  subst ha
  refine wl_nil (hK _ _ ?_)
  clear hK K
  refine wp_ret ?_
  exact fin_cell (k := 0) S16 rfl rfl rfl row29 rfl rfl
theorem Both_r {Z : World → Prop} (hZ : Keeps Z) {x1 y1 z1 t1 a b v1 v2 v3 v4 v5 v6 v7 v8 : Nat} {s t : ByteArray} (H1 : Ret Z 42 #[pv x1 y1 z1 t1] (.bool false)) (H2 : Ret Z 26 #[] (pv v1 v2 v3 v4)) (H3 : Ret Z 54 #[wd a] (.string s)) (H4 : Ret Z 54 #[wd b] (.string t)) (H5 : Ret Z 53 #[pv x1 y1 z1 t1, pv v1 v2 v3 v4, .string s, .string t] (pv v5 v6 v7 v8)) : Ret Z 21 #[pv x1 y1 z1 t1, wd a, wd b] (pv v5 v6 v7 v8) := by
  intro w hw
  have S := St.refl hw
  go_enter Tryd.func21, Tryd.ntmps21
  refine wp_seq_k fun K hK => ?_
  refine wr_list ?_
  refine wl_alloc S (q4 x1 y1 z1 t1) 29 rfl (fun _ => by kernel_rfl) ?_
  intro b1 W2 a' S3 ha
  simp only [Act.put, List.setIfInBounds_toArray, List.set_cons_zero, List.set_cons_succ] at ha
  subst ha
  refine wl_alloc S3 (e4 a) 46 rfl (fun _ => by kernel_rfl) ?_
  intro b4 W5 a' S6 ha
  simp only [Act.put, List.setIfInBounds_toArray, List.set_cons_zero, List.set_cons_succ] at ha
  subst ha
  refine wl_alloc S6 (e4 b) 46 rfl (fun _ => by kernel_rfl) ?_
  intro b7 W8 a' S9 ha
  simp only [Act.put, List.setIfInBounds_toArray, List.set_cons_zero, List.set_cons_succ] at ha
  subst ha
  refine wl_alloc S9 (q4 0 0 0 0) 29 rfl (fun _ => by kernel_rfl) ?_
  intro b10 W11 a' S12 ha
  simp only [Act.put, List.setIfInBounds_toArray, List.set_cons_zero, List.set_cons_succ] at ha
  subst ha
  refine wl_nil (hK _ _ ?_)
  clear hK K
  refine wp_seq_k fun K hK => ?_
  refine wp_seq_k fun K hK => ?_
  refine wr_list ?_
  refine wl_load S12 3 b1 0 29 16 (.tmp 3) (q4 x1 y1 z1 t1) (q4 x1 y1 z1 t1) rfl rfl rfl rfl (Sub.self _) row29 rfl ?_
  intro a' ha
  simp only [Act.put, List.setIfInBounds_toArray, List.set_cons_zero, List.set_cons_succ] at ha
  subst ha
  refine wl_call hZ S12 H1 rfl (fun _ => by kernel_rfl) ?_
  intro W13 a' S14 ha
  simp only [Act.put, List.setIfInBounds_toArray, List.set_cons_zero, List.set_cons_succ] at ha
  subst ha
  refine wl_nil (hK _ _ ?_)
  clear hK K
  refine wp_cond_false rfl ?_
  refine wp_skip (hK _ _ ?_)
  clear hK K
  refine wp_seq_k fun K hK => ?_
  refine wr_tail [_, _, _, _, _, _, _] [_] S14 (by simp) (by kernel_rfl) (by kernel_rfl) (by kernel_rfl) (by kernel_rfl) (by kernel_rfl) ?_
  refine wq_load S14 3 b1 0 29 16 (.tmp 3) (q4 x1 y1 z1 t1) (q4 x1 y1 z1 t1) rfl rfl rfl rfl (Sub.self _) row29 rfl ?_
  intro a' ha
  simp only [Act.put, List.setIfInBounds_toArray, List.set_cons_zero, List.set_cons_succ] at ha
  subst ha
  refine wq_call hZ S14 H2 rfl (fun _ => by kernel_rfl) ?_
  intro a' ha
  simp only [Act.put, List.setIfInBounds_toArray, List.set_cons_zero, List.set_cons_succ] at ha
  subst ha
  refine wq_load S14 2 b4 0 46 4 (.tmp 4) (e4 a) (e4 a) rfl rfl rfl rfl (Sub.self _) row46 rfl ?_
  intro a' ha
  simp only [Act.put, List.setIfInBounds_toArray, List.set_cons_zero, List.set_cons_succ] at ha
  subst ha
  refine wq_call hZ S14 H3 rfl (fun _ => by kernel_rfl) ?_
  intro a' ha
  simp only [Act.put, List.setIfInBounds_toArray, List.set_cons_zero, List.set_cons_succ] at ha
  subst ha
  refine wq_load S14 1 b7 0 46 4 (.tmp 5) (e4 b) (e4 b) rfl rfl rfl rfl (Sub.self _) row46 rfl ?_
  intro a' ha
  simp only [Act.put, List.setIfInBounds_toArray, List.set_cons_zero, List.set_cons_succ] at ha
  subst ha
  refine wq_call hZ S14 H4 rfl (fun _ => by kernel_rfl) ?_
  intro a' ha
  simp only [Act.put, List.setIfInBounds_toArray, List.set_cons_zero, List.set_cons_succ] at ha
  subst ha
  refine wq_call hZ S14 H5 rfl (fun _ => by kernel_rfl) ?_
  intro a' ha
  simp only [Act.put, List.setIfInBounds_toArray, List.set_cons_zero, List.set_cons_succ] at ha
  subst ha
  refine wq_nil ?_
  intro W15 S16
  refine wt_store S16 0 b10 29 16 (.tmp 6) (.tmp 16) (q4 0 0 0 0) (q4 v5 v6 v7 v8) rfl rfl rfl rfl row29 rfl rfl (q4_one _ _ _ _) ?_
  intro W17 a' S18 ha
  simp only [Act.put, List.setIfInBounds_toArray, List.set_cons_zero, List.set_cons_succ] at ha
  subst ha
  refine wt_nil (hK _ _ ?_)
  clear hK K
  refine wp_ret ?_
  exact fin_cell (k := 0) S18 rfl rfl rfl row29 rfl rfl
end Go.Proofs.YtpdagpjjlnncbaaDoor
