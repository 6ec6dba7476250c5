/-
  EdwRows: its walk. No statement is proved here.
-/
import Derived.Test.YtpdagpjjlnncbaaDoorEdwM
namespace Go.Proofs.YtpdagpjjlnncbaaDoor
open Go.RowKit Go.Lib Go.BigFrame
set_option linter.unusedVariables false
set_option linter.unusedSimpArgs false
set_option maxRecDepth 1000000
set_option maxHeartbeats 4000000

section
variable {Z : World → Prop} {w V : World} {M : Mem} {ops : Array Oper} {rest T : List Oper} {o : Oper} {a : Act} {Q : Exit → Act → World → Prop}
theorem St.pop {x : Nat × Cont} (h : St Z w V (x :: M)) : St Z w V M := ⟨h.fr, h.z, fun y hy => h.all y (List.mem_cons_of_mem _ hy), fun y hy => h.lo y (List.mem_cons_of_mem _ hy), List.Pairwise.of_cons h.dis⟩
theorem run_ld9 {b i : Nat} {s : ByteArray} (h : V.cell? ⟨b, i, none⟩ = some (.string s)) : (Instr.loadAt 9 (.pointer (some ⟨b, i, none⟩))).run Tryd.prog V = .ok (.string s) V := by simp [go_sem, h]
/-- A text is read that stood there before. -/
theorem wl_old (S : St Z w V M) (b i : Nat) (s : ByteArray) (x : Operand) (hw : Region.wanted o (yielded ops a.tmps) = true) (ho : o.op = .load 9 x) (hx : a.eval x = .pointer (some ⟨b, i, none⟩)) (hc : w.cell? ⟨b, i, none⟩ = some (.string s)) (h : ∀ a', a' = a.put o.dst (.string s) → Wl ops Q rest a' V) : Wl ops Q (o :: rest) a V :=
  wl_want hw fun K hK => by
    have hb : b < w.heap.size := World.block_lt_of_cell? w _ hc
    have hV : V.cell? ⟨b, i, none⟩ = some (.string s) := (World.cell?_of_block (S.fr.block b hb (by simp))).trans hc
    unfold Oper.wp; rw [exec_load ho hx (run_ld9 hV)]; exact hK _ _ (h _ rfl)
theorem run_ixs (x y : Operand) (b off len cap i : Nat) (ho : o.op = .indexAddr 59 x y) (hx : a.eval x = .slice (some ⟨b, off, none⟩) len cap) (hy : a.eval y = .int .i64 (i : Int)) (hi : i < len) : ∀ W, (execOp a.eval o).run Tryd.prog W = .ok (.value (.pointer (some ⟨b, off + i, none⟩))) W := fun W => by
  unfold execOp
  simp only [ho, hx, hy]
  simp [go_sem, hi, Addr.add]
end
theorem rows_no1 {Z : World → Prop} (hZ : Keeps Z) {x1 y1 z1 t1 : Nat} {s : ByteArray} {p : Option Addr} {len cap : Nat} {e : Int} (H1 : Ret Z 9 #[.string s] (.tuple #[pv x1 y1 z1 t1, .int .i64 e])) (H2 : Ret Z 8 #[] (.bool true)) (hq1 : decide (e = 0) = false) : Ret Z 5 #[.string s, .slice p len cap] (.bool true) := by
  intro w hw
  have S := St.refl hw
  go_enter Tryd.func5, Tryd.ntmps5
  refine wp_seq_k fun K hK => ?_
  refine wr_list ?_
  refine wl_pure (.bool false) rfl (fun _ => by kernel_rfl) ?_
  intro a' ha
  simp only [Act.put, List.setIfInBounds_toArray, List.set_cons_zero, List.set_cons_succ] at ha
  subst ha
  refine wl_nil (hK _ _ ?_)
  clear hK K
  refine wp_seq_k fun K hK => ?_
  refine wr_list ?_
  refine wl_pure (.string s) rfl (fun _ => by kernel_rfl) ?_
  intro a' ha
  simp only [Act.put, List.setIfInBounds_toArray, List.set_cons_zero, List.set_cons_succ] at ha
  subst ha
  refine wl_call hZ S H1 rfl (fun _ => by kernel_rfl) ?_
  intro W1 a' S2 ha
  simp only [Act.put, List.setIfInBounds_toArray, List.set_cons_zero, List.set_cons_succ] at ha
  subst ha
  refine wl_pure (.tuple #[pv x1 y1 z1 t1, .int .i64 e]) rfl (fun _ => by kernel_rfl) ?_
  intro a' ha
  simp only [Act.put, List.setIfInBounds_toArray, List.set_cons_zero, List.set_cons_succ] at ha
  subst ha
  refine wl_pure (pv x1 y1 z1 t1) rfl (fun _ => by kernel_rfl) ?_
  intro a' ha
  simp only [Act.put, List.setIfInBounds_toArray, List.set_cons_zero, List.set_cons_succ] at ha
  subst ha
  refine wl_pure (.int .i64 e) rfl (fun _ => by kernel_rfl) ?_
  intro a' ha
  simp only [Act.put, List.setIfInBounds_toArray, List.set_cons_zero, List.set_cons_succ] at ha
  subst ha
  refine wl_alloc S2 (q4 0 0 0 0) 29 rfl (fun _ => by kernel_rfl) ?_
  intro b3 W4 a' S5 ha
  simp only [Act.put, List.setIfInBounds_toArray, List.set_cons_zero, List.set_cons_succ] at ha
  subst ha
  refine wl_store S5 0 b3 29 16 (.tmp 5) (.tmp 17) (q4 0 0 0 0) (q4 x1 y1 z1 t1) rfl rfl rfl rfl rfl row29 rfl rfl (q4_one _ _ _ _) ?_
  intro W6 a' S7 ha
  simp only [Act.put, List.setIfInBounds_toArray, List.set_cons_zero, List.set_cons_succ] at ha
  subst ha
  refine wl_pure (.int .i64 e) rfl (fun _ => by kernel_rfl) ?_
  intro a' ha
  simp only [Act.put, List.setIfInBounds_toArray, List.set_cons_zero, List.set_cons_succ] at ha
  subst ha
  refine wl_nil (hK _ _ ?_)
  clear hK K
  refine wp_seq_k fun K hK => ?_
  refine wp_seq_k fun K hK => ?_
  refine wr_list ?_
  refine wl_pure (.int .i64 e) rfl (fun _ => by kernel_rfl) ?_
  intro a' ha
  simp only [Act.put, List.setIfInBounds_toArray, List.set_cons_zero, List.set_cons_succ] at ha
  subst ha
  refine wl_pure (.bool true) rfl (fun _ => (show (execOp _ _).run Tryd.prog _ = .ok (.value (.bool (!decide (e = 0)))) _ from by kernel_rfl).trans (by rw [hq1]; rfl)) ?_
  intro a' ha
  simp only [Act.put, List.setIfInBounds_toArray, List.set_cons_zero, List.set_cons_succ] at ha
  subst ha
  refine wl_pure (.bool true) rfl (fun _ => by kernel_rfl) ?_
  intro a' ha
  simp only [Act.put, List.setIfInBounds_toArray, List.set_cons_zero, List.set_cons_succ] at ha
  subst ha
  refine wl_skip (by kernel_rfl) ?_
  intro a' ha
  simp only [Act.put, List.setIfInBounds_toArray, List.set_cons_zero, List.set_cons_succ] at ha
  subst ha
  refine wl_skip (by kernel_rfl) ?_
  intro a' ha
  simp only [Act.put, List.setIfInBounds_toArray, List.set_cons_zero, List.set_cons_succ] at ha
  subst ha
  refine wl_skip (by kernel_rfl) ?_
  intro a' ha
  simp only [Act.put, List.setIfInBounds_toArray, List.set_cons_zero, List.set_cons_succ] at ha
  subst ha
  refine wl_pure (.bool true) rfl (fun _ => by kernel_rfl) ?_
  intro a' ha
  simp only [Act.put, List.setIfInBounds_toArray, List.set_cons_zero, List.set_cons_succ] at ha
  subst ha
  refine wl_nil (hK _ _ ?_)
  clear hK K
  refine wp_cond_true rfl ?_
  refine wp_seq_k fun K hK => ?_
  refine wr_list ?_
  refine wl_call hZ S7 H2 rfl (fun _ => by kernel_rfl) ?_
  intro W8 a' S9 ha
  simp only [Act.put, List.setIfInBounds_toArray, List.set_cons_zero, List.set_cons_succ] at ha
  subst ha
  refine wl_pure (.bool true) rfl (fun _ => by kernel_rfl) ?_
  intro a' ha
  simp only [Act.put, List.setIfInBounds_toArray, List.set_cons_zero, List.set_cons_succ] at ha
  subst ha
  refine wl_nil (hK _ _ ?_)
  clear hK K
  refine wp_ret ?_
  exact fin_tmp S9 rfl rfl rfl
theorem rows_no2 {Z : World → Prop} (hZ : Keeps Z) {x1 y1 z1 t1 : Nat} {s : ByteArray} {p : Option Addr} {len cap : Nat} (hl : 40 < len) (H1 : Ret Z 9 #[.string s] (.tuple #[pv x1 y1 z1 t1, .int .i64 0])) (H2 : Ret Z 8 #[] (.bool true)) : Ret Z 5 #[.string s, .slice p len cap] (.bool true) := by
  intro w hw
  have S := St.refl hw
  go_enter Tryd.func5, Tryd.ntmps5
  refine wp_seq_k fun K hK => ?_
  refine wr_list ?_
  refine wl_pure (.bool false) rfl (fun _ => by kernel_rfl) ?_
  intro a' ha
  simp only [Act.put, List.setIfInBounds_toArray, List.set_cons_zero, List.set_cons_succ] at ha
  subst ha
  refine wl_nil (hK _ _ ?_)
  clear hK K
  refine wp_seq_k fun K hK => ?_
  refine wr_list ?_
  refine wl_pure (.string s) rfl (fun _ => by kernel_rfl) ?_
  intro a' ha
  simp only [Act.put, List.setIfInBounds_toArray, List.set_cons_zero, List.set_cons_succ] at ha
  subst ha
  refine wl_call hZ S H1 rfl (fun _ => by kernel_rfl) ?_
  intro W1 a' S2 ha
  simp only [Act.put, List.setIfInBounds_toArray, List.set_cons_zero, List.set_cons_succ] at ha
  subst ha
  refine wl_pure (.tuple #[pv x1 y1 z1 t1, .int .i64 0]) rfl (fun _ => by kernel_rfl) ?_
  intro a' ha
  simp only [Act.put, List.setIfInBounds_toArray, List.set_cons_zero, List.set_cons_succ] at ha
  subst ha
  refine wl_pure (pv x1 y1 z1 t1) rfl (fun _ => by kernel_rfl) ?_
  intro a' ha
  simp only [Act.put, List.setIfInBounds_toArray, List.set_cons_zero, List.set_cons_succ] at ha
  subst ha
  refine wl_pure (.int .i64 0) rfl (fun _ => by kernel_rfl) ?_
  intro a' ha
  simp only [Act.put, List.setIfInBounds_toArray, List.set_cons_zero, List.set_cons_succ] at ha
  subst ha
  refine wl_alloc S2 (q4 0 0 0 0) 29 rfl (fun _ => by kernel_rfl) ?_
  intro b3 W4 a' S5 ha
  simp only [Act.put, List.setIfInBounds_toArray, List.set_cons_zero, List.set_cons_succ] at ha
  subst ha
  refine wl_store S5 0 b3 29 16 (.tmp 5) (.tmp 17) (q4 0 0 0 0) (q4 x1 y1 z1 t1) rfl rfl rfl rfl rfl row29 rfl rfl (q4_one _ _ _ _) ?_
  intro W6 a' S7 ha
  simp only [Act.put, List.setIfInBounds_toArray, List.set_cons_zero, List.set_cons_succ] at ha
  subst ha
  refine wl_pure (.int .i64 0) rfl (fun _ => by kernel_rfl) ?_
  intro a' ha
  simp only [Act.put, List.setIfInBounds_toArray, List.set_cons_zero, List.set_cons_succ] at ha
  subst ha
  refine wl_nil (hK _ _ ?_)
  clear hK K
  refine wp_seq_k fun K hK => ?_
  refine wp_seq_k fun K hK => ?_
  refine wr_list ?_
  refine wl_pure (.int .i64 0) rfl (fun _ => by kernel_rfl) ?_
  intro a' ha
  simp only [Act.put, List.setIfInBounds_toArray, List.set_cons_zero, List.set_cons_succ] at ha
  subst ha
  refine wl_pure (.bool false) rfl (fun _ => by kernel_rfl) ?_
  intro a' ha
  simp only [Act.put, List.setIfInBounds_toArray, List.set_cons_zero, List.set_cons_succ] at ha
  subst ha
  refine wl_pure (.bool false) rfl (fun _ => by kernel_rfl) ?_
  intro a' ha
  simp only [Act.put, List.setIfInBounds_toArray, List.set_cons_zero, List.set_cons_succ] at ha
  subst ha
  refine wl_pure (.slice p len cap) (by kernel_rfl) (fun _ => by kernel_rfl) ?_
  intro a' ha
  simp only [Act.put, List.setIfInBounds_toArray, List.set_cons_zero, List.set_cons_succ] at ha
  subst ha
  refine wl_pure (.int .i64 (len : Int)) (by kernel_rfl) (fun _ => by kernel_rfl) ?_
  intro a' ha
  simp only [Act.put, List.setIfInBounds_toArray, List.set_cons_zero, List.set_cons_succ] at ha
  subst ha
  refine wl_pure (.bool true) (by kernel_rfl) (fun _ => (show (execOp _ _).run Tryd.prog _ = .ok (.value (.bool (decide ((40 : Int) < (len : Int))))) _ from by kernel_rfl).trans (by rw [decide_eq_true (show ((40 : Int) < (len : Int)) by omega)])) ?_
  intro a' ha
  simp only [Act.put, List.setIfInBounds_toArray, List.set_cons_zero, List.set_cons_succ] at ha
  subst ha
  refine wl_pure (.bool true) rfl (fun _ => by kernel_rfl) ?_
  intro a' ha
  simp only [Act.put, List.setIfInBounds_toArray, List.set_cons_zero, List.set_cons_succ] at ha
  subst ha
  refine wl_nil (hK _ _ ?_)
  clear hK K
  refine wp_cond_true rfl ?_
  refine wp_seq_k fun K hK => ?_
  refine wr_list ?_
  refine wl_call hZ S7 H2 rfl (fun _ => by kernel_rfl) ?_
  intro W8 a' S9 ha
  simp only [Act.put, List.setIfInBounds_toArray, List.set_cons_zero, List.set_cons_succ] at ha
  subst ha
  refine wl_pure (.bool true) rfl (fun _ => by kernel_rfl) ?_
  intro a' ha
  simp only [Act.put, List.setIfInBounds_toArray, List.set_cons_zero, List.set_cons_succ] at ha
  subst ha
  refine wl_nil (hK _ _ ?_)
  clear hK K
  refine wp_ret ?_
  exact fin_tmp S9 rfl rfl rfl
theorem rows_yes {Z : World → Prop} (hZ : Keeps Z) {s : ByteArray} {p : Option Addr} {len cap : Nat} {T : Nat → ByteArray} {st dk : Nat → Pq} {rt rk : Nat → Pr} {ek : Nat → Int} (H1 : Ret Z 9 #[.string s] (.tuple #[pv (st 0).x (st 0).y (st 0).z (st 0).t, .int .i64 0])) (H2 : Ret Z 10 #[.string s] (.tuple #[rp (rt 0).x (rt 0).y (rt 0).z, .int .i64 0])) (HV : Ret Z 8 #[] (.bool true)) (HD : ∀ k, k < len → Ret Z 9 #[.string (T k)] (.tuple #[pv (dk k).x (dk k).y (dk k).z (dk k).t, .int .i64 (ek k)])) (HR : ∀ k, k < len → ek k = 0 → Ret Z 10 #[.string (T k)] (.tuple #[rp (rk k).x (rk k).y (rk k).z, .int .i64 0])) (HA : ∀ k, k < len → ek k = 0 → Ret Z 18 #[pv (st k).x (st k).y (st k).z (st k).t, pv (dk k).x (dk k).y (dk k).z (dk k).t] (pv (st (k + 1)).x (st (k + 1)).y (st (k + 1)).z (st (k + 1)).t)) (HB : ∀ k, k < len → ek k = 0 → Ret Z 19 #[rp (rt k).x (rt k).y (rt k).z, rp (rk k).x (rk k).y (rk k).z] (rp (rt (k + 1)).x (rt (k + 1)).y (rt (k + 1)).z)) (HT : ∀ k, k < len → ek k ≠ 0 → Ret Z 20 #[pv (st k).x (st k).y (st k).z (st k).t] (pv (st (k + 1)).x (st (k + 1)).y (st (k + 1)).z (st (k + 1)).t)) (HU : ∀ k, k < len → ek k ≠ 0 → Ret Z 19 #[rp (rt k).x (rt k).y (rt k).z, rp (rt k).x (rt k).y (rt k).z] (rp (rt (k + 1)).x (rt (k + 1)).y (rt (k + 1)).z)) (HI : Ret Z 15 #[pv (st len).x (st len).y (st len).z (st len).t, rp (rt len).x (rt len).y (rt len).z] (.bool true)) (hl : len ≤ 40) (w : World) (hw : Z w) (hS : 0 < len → ∃ b o, p = some ⟨b, o, none⟩ ∧ ∀ i, i < len → w.cell? ⟨b, o + i, none⟩ = some (.string (T i))) : Calls Tryd.prog 5 #[.string s, .slice p len cap] w fun e w' => e = .returned (.bool true) ∧ Fr [] w w' := by
  have S := St.refl hw
  go_enter Tryd.func5, Tryd.ntmps5
  refine wp_seq_k fun K hK => ?_
  refine wr_list ?_
  refine wl_pure (.bool false) rfl (fun _ => by kernel_rfl) ?_
  intro a' ha
  simp only [Act.put, List.setIfInBounds_toArray, List.set_cons_zero, List.set_cons_succ] at ha
  subst ha
  refine wl_nil (hK _ _ ?_)
  clear hK K
  refine wp_seq_k fun K hK => ?_
  refine wr_list ?_
  refine wl_pure (.string s) rfl (fun _ => by kernel_rfl) ?_
  intro a' ha
  simp only [Act.put, List.setIfInBounds_toArray, List.set_cons_zero, List.set_cons_succ] at ha
  subst ha
  refine wl_call hZ S H1 rfl (fun _ => by kernel_rfl) ?_
  intro W1 a' S2 ha
  simp only [Act.put, List.setIfInBounds_toArray, List.set_cons_zero, List.set_cons_succ] at ha
  subst ha
  refine wl_pure (.tuple #[pv (st 0).x (st 0).y (st 0).z (st 0).t, .int .i64 0]) rfl (fun _ => by kernel_rfl) ?_
  intro a' ha
  simp only [Act.put, List.setIfInBounds_toArray, List.set_cons_zero, List.set_cons_succ] at ha
  subst ha
  refine wl_pure (pv (st 0).x (st 0).y (st 0).z (st 0).t) rfl (fun _ => by kernel_rfl) ?_
  intro a' ha
  simp only [Act.put, List.setIfInBounds_toArray, List.set_cons_zero, List.set_cons_succ] at ha
  subst ha
  refine wl_pure (.int .i64 0) rfl (fun _ => by kernel_rfl) ?_
  intro a' ha
  simp only [Act.put, List.setIfInBounds_toArray, List.set_cons_zero, List.set_cons_succ] at ha
  subst ha
  refine wl_alloc S2 (q4 0 0 0 0) 29 rfl (fun _ => by kernel_rfl) ?_
  intro b3 W4 a' S5 ha
  simp only [Act.put, List.setIfInBounds_toArray, List.set_cons_zero, List.set_cons_succ] at ha
  subst ha
  refine wl_store S5 0 b3 29 16 (.tmp 5) (.tmp 17) (q4 0 0 0 0) (q4 (st 0).x (st 0).y (st 0).z (st 0).t) rfl rfl rfl rfl rfl row29 rfl rfl (q4_one _ _ _ _) ?_
  intro W6 a' S7 ha
  simp only [Act.put, List.setIfInBounds_toArray, List.set_cons_zero, List.set_cons_succ] at ha
  subst ha
  refine wl_pure (.int .i64 0) rfl (fun _ => by kernel_rfl) ?_
  intro a' ha
  simp only [Act.put, List.setIfInBounds_toArray, List.set_cons_zero, List.set_cons_succ] at ha
  subst ha
  refine wl_nil (hK _ _ ?_)
  clear hK K
  refine wp_seq_k fun K hK => ?_
  refine wp_seq_k fun K hK => ?_
  refine wr_list ?_
  refine wl_pure (.int .i64 0) rfl (fun _ => by kernel_rfl) ?_
  intro a' ha
  simp only [Act.put, List.setIfInBounds_toArray, List.set_cons_zero, List.set_cons_succ] at ha
  subst ha
  refine wl_pure (.bool false) rfl (fun _ => by kernel_rfl) ?_
  intro a' ha
  simp only [Act.put, List.setIfInBounds_toArray, List.set_cons_zero, List.set_cons_succ] at ha
  subst ha
  refine wl_pure (.bool false) rfl (fun _ => by kernel_rfl) ?_
  intro a' ha
  simp only [Act.put, List.setIfInBounds_toArray, List.set_cons_zero, List.set_cons_succ] at ha
  subst ha
  refine wl_pure (.slice p len cap) (by kernel_rfl) (fun _ => by kernel_rfl) ?_
  intro a' ha
  simp only [Act.put, List.setIfInBounds_toArray, List.set_cons_zero, List.set_cons_succ] at ha
  subst ha
  refine wl_pure (.int .i64 (len : Int)) (by kernel_rfl) (fun _ => by kernel_rfl) ?_
  intro a' ha
  simp only [Act.put, List.setIfInBounds_toArray, List.set_cons_zero, List.set_cons_succ] at ha
  subst ha
  refine wl_pure (.bool false) (by kernel_rfl) (fun _ => (show (execOp _ _).run Tryd.prog _ = .ok (.value (.bool (decide ((40 : Int) < (len : Int))))) _ from by kernel_rfl).trans (by rw [decide_eq_false (show ¬ ((40 : Int) < (len : Int)) by omega)])) ?_
  intro a' ha
  simp only [Act.put, List.setIfInBounds_toArray, List.set_cons_zero, List.set_cons_succ] at ha
  subst ha
  refine wl_pure (.bool false) rfl (fun _ => by kernel_rfl) ?_
  intro a' ha
  simp only [Act.put, List.setIfInBounds_toArray, List.set_cons_zero, List.set_cons_succ] at ha
  subst ha
  refine wl_nil (hK _ _ ?_)
  clear hK K
  refine wp_cond_false rfl ?_
  refine wp_skip (hK _ _ ?_)
  clear hK K
  refine wp_seq_k fun K hK => ?_
  refine wr_list ?_
  refine wl_pure (.string s) rfl (fun _ => by kernel_rfl) ?_
  intro a' ha
  simp only [Act.put, List.setIfInBounds_toArray, List.set_cons_zero, List.set_cons_succ] at ha
  subst ha
  refine wl_call hZ S7 H2 rfl (fun _ => by kernel_rfl) ?_
  intro W8 a' S9 ha
  simp only [Act.put, List.setIfInBounds_toArray, List.set_cons_zero, List.set_cons_succ] at ha
  subst ha
  refine wl_pure (.tuple #[rp (rt 0).x (rt 0).y (rt 0).z, .int .i64 0]) rfl (fun _ => by kernel_rfl) ?_
  intro a' ha
  simp only [Act.put, List.setIfInBounds_toArray, List.set_cons_zero, List.set_cons_succ] at ha
  subst ha
  refine wl_pure (rp (rt 0).x (rt 0).y (rt 0).z) rfl (fun _ => by kernel_rfl) ?_
  intro a' ha
  simp only [Act.put, List.setIfInBounds_toArray, List.set_cons_zero, List.set_cons_succ] at ha
  subst ha
  refine wl_pure (.int .i64 0) rfl (fun _ => by kernel_rfl) ?_
  intro a' ha
  simp only [Act.put, List.setIfInBounds_toArray, List.set_cons_zero, List.set_cons_succ] at ha
  subst ha
  refine wl_alloc S9 (n27 0 0 0) 36 rfl (fun _ => by kernel_rfl) ?_
  intro b10 W11 a' S12 ha
  simp only [Act.put, List.setIfInBounds_toArray, List.set_cons_zero, List.set_cons_succ] at ha
  subst ha
  refine wl_store S12 0 b10 36 27 (.tmp 7) (.tmp 30) (n27 0 0 0) (n27 (rt 0).x (rt 0).y (rt 0).z) rfl rfl rfl rfl rfl row36 (n27_size _ _ _) (n27_size _ _ _) (n27_one _ _ _) ?_
  intro W13 a' S14 ha
  simp only [Act.put, List.setIfInBounds_toArray, List.set_cons_zero, List.set_cons_succ] at ha
  subst ha
  refine wl_pure (.int .i64 0) rfl (fun _ => by kernel_rfl) ?_
  intro a' ha
  simp only [Act.put, List.setIfInBounds_toArray, List.set_cons_zero, List.set_cons_succ] at ha
  subst ha
  refine wl_nil (hK _ _ ?_)
  clear hK K
  refine wp_seq_k fun K hK => ?_
  refine wp_seq_k fun K hK => ?_
  refine wr_list ?_
  refine wl_pure (.int .i64 0) rfl (fun _ => by kernel_rfl) ?_
  intro a' ha
  simp only [Act.put, List.setIfInBounds_toArray, List.set_cons_zero, List.set_cons_succ] at ha
  subst ha
  refine wl_nil (hK _ _ ?_)
  clear hK K
  refine wp_block ?_
  refine wp_loop_ghost (fun n ac W => ∃ k : Nat, n + k = len ∧ ∃ c10 c11 c12 c13 c32 c33 c34 c35 c36 c37 c38 c39 c40 c41 c42 c43 c44 c45 c46 c47 c48 c49 c50 c51 c52 c53 c54 c55 c56 c57 c58 c59 c60 c61 c62 c63 c64 c65 c66 c67 c68 c69 c70 c71 c72 c73 : Value, ac = ⟨#[(.string s), (.slice p len cap), undef, undef, (.bool false), (.pointer (some ⟨b3, 0, none⟩)), (.int .i64 0), (.pointer (some ⟨b10, 0, none⟩)), (.int .i64 0), .int .i64 (k : Int), c10, c11, c12, c13, (.tuple #[pv (st 0).x (st 0).y (st 0).z (st 0).t, .int .i64 0]), (.string s), (.tuple #[pv (st 0).x (st 0).y (st 0).z (st 0).t, .int .i64 0]), (pv (st 0).x (st 0).y (st 0).z (st 0).t), (.int .i64 0), (.int .i64 0), (.bool false), (.bool false), (.slice p len cap), (.int .i64 (len : Int)), (.bool false), (.bool false), undef, (.tuple #[rp (rt 0).x (rt 0).y (rt 0).z, .int .i64 0]), (.string s), (.tuple #[rp (rt 0).x (rt 0).y (rt 0).z, .int .i64 0]), (rp (rt 0).x (rt 0).y (rt 0).z), (.int .i64 0), c32, c33, c34, c35, c36, c37, c38, c39, c40, c41, c42, c43, c44, c45, c46, c47, c48, c49, c50, c51, c52, c53, c54, c55, c56, c57, c58, c59, c60, c61, c62, c63, c64, c65, c66, c67, c68, c69, c70, c71, c72, c73, undef, undef, undef, undef, undef, undef], []⟩ ∧ St Z w W [(b10, .row (n27 (rt k).x (rt k).y (rt k).z) 36), (b3, .row (q4 (st k).x (st k).y (st k).z (st k).t) 29)]) len ?_ ?_
  · exact ⟨0, rfl, undef, undef, undef, undef, undef, undef, undef, undef, undef, undef, undef, undef, undef, undef, undef, undef, undef, undef, undef, undef, undef, undef, undef, undef, undef, undef, undef, undef, undef, undef, undef, undef, undef, undef, undef, undef, undef, undef, undef, undef, undef, undef, undef, undef, undef, undef, rfl, S14⟩
  · rintro n _ W ⟨k, hk, c10, c11, c12, c13, c32, c33, c34, c35, c36, c37, c38, c39, c40, c41, c42, c43, c44, c45, c46, c47, c48, c49, c50, c51, c52, c53, c54, c55, c56, c57, c58, c59, c60, c61, c62, c63, c64, c65, c66, c67, c68, c69, c70, c71, c72, c73, rfl, S⟩
    rcases n with _ | m
    · obtain rfl : k = len := by omega
      refine wp_seq_k fun K2 hK2 => ?_
      clear hK2
      refine wp_seq_k fun K3 hK3 => ?_
      refine wr_list ?_
      refine wl_pure (.int .i64 (k : Int)) rfl (fun _ => by kernel_rfl) ?_
      intro a' ha
      simp only [Act.put, List.setIfInBounds_toArray, List.set_cons_zero, List.set_cons_succ] at ha
      subst ha
      refine wl_pure (.slice p k cap) rfl (fun _ => by kernel_rfl) ?_
      intro a' ha
      simp only [Act.put, List.setIfInBounds_toArray, List.set_cons_zero, List.set_cons_succ] at ha
      subst ha
      refine wl_pure (.int .i64 (k : Int)) rfl (fun _ => by kernel_rfl) ?_
      intro a' ha
      simp only [Act.put, List.setIfInBounds_toArray, List.set_cons_zero, List.set_cons_succ] at ha
      subst ha
      refine wl_pure (.bool false) rfl (fun _ => (show (execOp _ _).run Tryd.prog _ = .ok (.value (.bool (decide ((k : Int) < (k : Int))))) _ from by kernel_rfl).trans (by rw [decide_eq_false (show ¬ ((k : Int) < (k : Int)) by omega)])) ?_
      intro a' ha
      simp only [Act.put, List.setIfInBounds_toArray, List.set_cons_zero, List.set_cons_succ] at ha
      subst ha
      refine wl_nil (hK3 _ _ ?_)
      clear hK3 K3
      refine wp_cond_false rfl ?_
      refine wp_exit ?_
      refine hK _ _ ?_
      clear hK K
      refine wp_seq_k fun K hK => ?_
      refine wr_list ?_
      refine wl_load S 1 b3 0 29 16 (.tmp 5) (q4 (st k).x (st k).y (st k).z (st k).t) (q4 (st k).x (st k).y (st k).z (st k).t) rfl rfl rfl rfl (Sub.self _) row29 rfl ?_
      intro a' ha
      simp only [Act.put, List.setIfInBounds_toArray, List.set_cons_zero, List.set_cons_succ] at ha
      subst ha
      refine wl_load S 0 b10 0 36 27 (.tmp 7) (n27 (rt k).x (rt k).y (rt k).z) (n27 (rt k).x (rt k).y (rt k).z) rfl rfl rfl rfl (Sub.self _) row36 (n27_size _ _ _) ?_
      intro a' ha
      simp only [Act.put, List.setIfInBounds_toArray, List.set_cons_zero, List.set_cons_succ] at ha
      subst ha
      refine wl_call hZ S HI rfl (fun _ => by kernel_rfl) ?_
      intro W15 a' S16 ha
      simp only [Act.put, List.setIfInBounds_toArray, List.set_cons_zero, List.set_cons_succ] at ha
      subst ha
      refine wl_pure (.bool true) rfl (fun _ => by kernel_rfl) ?_
      intro a' ha
      simp only [Act.put, List.setIfInBounds_toArray, List.set_cons_zero, List.set_cons_succ] at ha
      subst ha
      refine wl_call hZ S16 HV (by kernel_rfl) (fun _ => by kernel_rfl) ?_
      intro W17 a' S18 ha
      simp only [Act.put, List.setIfInBounds_toArray, List.set_cons_zero, List.set_cons_succ] at ha
      subst ha
      refine wl_pure (.bool true) rfl (fun _ => by kernel_rfl) ?_
      intro a' ha
      simp only [Act.put, List.setIfInBounds_toArray, List.set_cons_zero, List.set_cons_succ] at ha
      subst ha
      refine wl_pure (.bool true) rfl (fun _ => by kernel_rfl) ?_
      intro a' ha
      simp only [Act.put, List.setIfInBounds_toArray, List.set_cons_zero, List.set_cons_succ] at ha
      subst ha
      refine wl_nil (hK _ _ ?_)
      clear hK K
      refine wp_ret ?_
      exact fin_tmp S18 rfl rfl rfl
    · have hk2 : k < len := by omega
      obtain ⟨b, o, rfl, hc⟩ := hS (by omega)
      have hck := hc k hk2
      have HDk := HD k hk2
      by_cases hz : 40 < (T k).size
      · clear HDk
        refine wp_seq_k fun K2 hK2 => ?_
        refine wp_seq_k fun K3 hK3 => ?_
        refine wr_list ?_
        refine wl_pure (.int .i64 (k : Int)) rfl (fun _ => by kernel_rfl) ?_
        intro a' ha
        simp only [Act.put, List.setIfInBounds_toArray, List.set_cons_zero, List.set_cons_succ] at ha
        subst ha
        refine wl_pure (.slice (some ⟨b, o, none⟩) len cap) rfl (fun _ => by kernel_rfl) ?_
        intro a' ha
        simp only [Act.put, List.setIfInBounds_toArray, List.set_cons_zero, List.set_cons_succ] at ha
        subst ha
        refine wl_pure (.int .i64 (len : Int)) rfl (fun _ => by kernel_rfl) ?_
        intro a' ha
        simp only [Act.put, List.setIfInBounds_toArray, List.set_cons_zero, List.set_cons_succ] at ha
        subst ha
        refine wl_pure (.bool true) rfl (fun _ => (show (execOp _ _).run Tryd.prog _ = .ok (.value (.bool (decide ((k : Int) < (len : Int))))) _ from by kernel_rfl).trans (by rw [decide_eq_true (show ((k : Int) < (len : Int)) by omega)])) ?_
        intro a' ha
        simp only [Act.put, List.setIfInBounds_toArray, List.set_cons_zero, List.set_cons_succ] at ha
        subst ha
        refine wl_nil (hK3 _ _ ?_)
        clear hK3 K3
        refine wp_cond_true rfl ?_
        refine wp_skip (hK2 _ _ ?_)
        clear hK2 K2
        refine wp_seq_k fun K2 hK2 => ?_
        refine wp_block ?_
        refine wp_seq_k fun K3 hK3 => ?_
        refine wp_seq_k fun K4 hK4 => ?_
        refine wr_list ?_
        refine wl_pure (.slice (some ⟨b, o, none⟩) len cap) rfl (fun _ => by kernel_rfl) ?_
        intro a' ha
        simp only [Act.put, List.setIfInBounds_toArray, List.set_cons_zero, List.set_cons_succ] at ha
        subst ha
        refine wl_pure (.int .i64 (k : Int)) rfl (fun _ => by kernel_rfl) ?_
        intro a' ha
        simp only [Act.put, List.setIfInBounds_toArray, List.set_cons_zero, List.set_cons_succ] at ha
        subst ha
        refine wl_pure (.pointer (some ⟨b, o + k, none⟩)) rfl (run_ixs (.tmp 38) (.tmp 39) b o len cap k rfl rfl rfl hk2) ?_
        intro a' ha
        simp only [Act.put, List.setIfInBounds_toArray, List.set_cons_zero, List.set_cons_succ] at ha
        subst ha
        refine wl_old S b (o + k) (T k) (.tmp 40) rfl rfl rfl hck ?_
        intro a' ha
        simp only [Act.put, List.setIfInBounds_toArray, List.set_cons_zero, List.set_cons_succ] at ha
        subst ha
        refine wl_pure (.int .i64 ((T k).size : Int)) rfl (fun _ => by kernel_rfl) ?_
        intro a' ha
        simp only [Act.put, List.setIfInBounds_toArray, List.set_cons_zero, List.set_cons_succ] at ha
        subst ha
        refine wl_pure (.bool true) rfl (fun _ => (show (execOp _ _).run Tryd.prog _ = .ok (.value (.bool (decide ((40 : Int) < ((T k).size : Int))))) _ from by kernel_rfl).trans (by rw [decide_eq_true (show ((40 : Int) < ((T k).size : Int)) by omega)])) ?_
        intro a' ha
        simp only [Act.put, List.setIfInBounds_toArray, List.set_cons_zero, List.set_cons_succ] at ha
        subst ha
        refine wl_nil (hK4 _ _ ?_)
        clear hK4 K4
        refine wp_cond_true rfl ?_
        refine wp_seq_k fun K4 hK4 => ?_
        refine wr_list ?_
        refine wl_call hZ S HV rfl (fun _ => by kernel_rfl) ?_
        intro W19 a' S20 ha
        simp only [Act.put, List.setIfInBounds_toArray, List.set_cons_zero, List.set_cons_succ] at ha
        subst ha
        refine wl_pure (.bool true) rfl (fun _ => by kernel_rfl) ?_
        intro a' ha
        simp only [Act.put, List.setIfInBounds_toArray, List.set_cons_zero, List.set_cons_succ] at ha
        subst ha
        refine wl_nil (hK4 _ _ ?_)
        clear hK4 K4
        refine wp_ret ?_
        exact fin_tmp S20 rfl rfl rfl
      · by_cases he : ek k = 0
        · have HRk := HR k hk2 he
          have HAk := HA k hk2 he
          have HBk := HB k hk2 he
          rw [he] at HDk
          clear he
          refine wp_seq_k fun K2 hK2 => ?_
          refine wp_seq_k fun K3 hK3 => ?_
          refine wr_list ?_
          refine wl_pure (.int .i64 (k : Int)) rfl (fun _ => by kernel_rfl) ?_
          intro a' ha
          simp only [Act.put, List.setIfInBounds_toArray, List.set_cons_zero, List.set_cons_succ] at ha
          subst ha
          refine wl_pure (.slice (some ⟨b, o, none⟩) len cap) rfl (fun _ => by kernel_rfl) ?_
          intro a' ha
          simp only [Act.put, List.setIfInBounds_toArray, List.set_cons_zero, List.set_cons_succ] at ha
          subst ha
          refine wl_pure (.int .i64 (len : Int)) rfl (fun _ => by kernel_rfl) ?_
          intro a' ha
          simp only [Act.put, List.setIfInBounds_toArray, List.set_cons_zero, List.set_cons_succ] at ha
          subst ha
          refine wl_pure (.bool true) rfl (fun _ => (show (execOp _ _).run Tryd.prog _ = .ok (.value (.bool (decide ((k : Int) < (len : Int))))) _ from by kernel_rfl).trans (by rw [decide_eq_true (show ((k : Int) < (len : Int)) by omega)])) ?_
          intro a' ha
          simp only [Act.put, List.setIfInBounds_toArray, List.set_cons_zero, List.set_cons_succ] at ha
          subst ha
          refine wl_nil (hK3 _ _ ?_)
          clear hK3 K3
          refine wp_cond_true rfl ?_
          refine wp_skip (hK2 _ _ ?_)
          clear hK2 K2
          refine wp_seq_k fun K2 hK2 => ?_
          refine wp_block ?_
          refine wp_seq_k fun K3 hK3 => ?_
          refine wp_seq_k fun K4 hK4 => ?_
          refine wr_list ?_
          refine wl_pure (.slice (some ⟨b, o, none⟩) len cap) rfl (fun _ => by kernel_rfl) ?_
          intro a' ha
          simp only [Act.put, List.setIfInBounds_toArray, List.set_cons_zero, List.set_cons_succ] at ha
          subst ha
          refine wl_pure (.int .i64 (k : Int)) rfl (fun _ => by kernel_rfl) ?_
          intro a' ha
          simp only [Act.put, List.setIfInBounds_toArray, List.set_cons_zero, List.set_cons_succ] at ha
          subst ha
          refine wl_pure (.pointer (some ⟨b, o + k, none⟩)) rfl (run_ixs (.tmp 38) (.tmp 39) b o len cap k rfl rfl rfl hk2) ?_
          intro a' ha
          simp only [Act.put, List.setIfInBounds_toArray, List.set_cons_zero, List.set_cons_succ] at ha
          subst ha
          refine wl_old S b (o + k) (T k) (.tmp 40) rfl rfl rfl hck ?_
          intro a' ha
          simp only [Act.put, List.setIfInBounds_toArray, List.set_cons_zero, List.set_cons_succ] at ha
          subst ha
          refine wl_pure (.int .i64 ((T k).size : Int)) rfl (fun _ => by kernel_rfl) ?_
          intro a' ha
          simp only [Act.put, List.setIfInBounds_toArray, List.set_cons_zero, List.set_cons_succ] at ha
          subst ha
          refine wl_pure (.bool false) rfl (fun _ => (show (execOp _ _).run Tryd.prog _ = .ok (.value (.bool (decide ((40 : Int) < ((T k).size : Int))))) _ from by kernel_rfl).trans (by rw [decide_eq_false (show ¬ ((40 : Int) < ((T k).size : Int)) by omega)])) ?_
          intro a' ha
          simp only [Act.put, List.setIfInBounds_toArray, List.set_cons_zero, List.set_cons_succ] at ha
          subst ha
          refine wl_nil (hK4 _ _ ?_)
          clear hK4 K4
          refine wp_cond_false rfl ?_
          refine wp_skip (hK3 _ _ ?_)
          clear hK3 K3
          refine wp_seq_k fun K3 hK3 => ?_
          refine wr_list ?_
          refine wl_pure (.slice (some ⟨b, o, none⟩) len cap) rfl (fun _ => by kernel_rfl) ?_
          intro a' ha
          simp only [Act.put, List.setIfInBounds_toArray, List.set_cons_zero, List.set_cons_succ] at ha
          subst ha
          refine wl_pure (.int .i64 (k : Int)) rfl (fun _ => by kernel_rfl) ?_
          intro a' ha
          simp only [Act.put, List.setIfInBounds_toArray, List.set_cons_zero, List.set_cons_succ] at ha
          subst ha
          refine wl_pure (.pointer (some ⟨b, o + k, none⟩)) rfl (run_ixs (.tmp 46) (.tmp 47) b o len cap k rfl rfl rfl hk2) ?_
          intro a' ha
          simp only [Act.put, List.setIfInBounds_toArray, List.set_cons_zero, List.set_cons_succ] at ha
          subst ha
          refine wl_old S b (o + k) (T k) (.tmp 48) rfl rfl rfl hck ?_
          intro a' ha
          simp only [Act.put, List.setIfInBounds_toArray, List.set_cons_zero, List.set_cons_succ] at ha
          subst ha
          refine wl_call hZ S HDk rfl (fun _ => by kernel_rfl) ?_
          intro W21 a' S22 ha
          simp only [Act.put, List.setIfInBounds_toArray, List.set_cons_zero, List.set_cons_succ] at ha
          subst ha
          refine wl_pure (.tuple #[pv (dk k).x (dk k).y (dk k).z (dk k).t, .int .i64 0]) rfl (fun _ => by kernel_rfl) ?_
          intro a' ha
          simp only [Act.put, List.setIfInBounds_toArray, List.set_cons_zero, List.set_cons_succ] at ha
          subst ha
          refine wl_pure (pv (dk k).x (dk k).y (dk k).z (dk k).t) rfl (fun _ => by kernel_rfl) ?_
          intro a' ha
          simp only [Act.put, List.setIfInBounds_toArray, List.set_cons_zero, List.set_cons_succ] at ha
          subst ha
          refine wl_pure (.int .i64 0) rfl (fun _ => by kernel_rfl) ?_
          intro a' ha
          simp only [Act.put, List.setIfInBounds_toArray, List.set_cons_zero, List.set_cons_succ] at ha
          subst ha
          refine wl_alloc S22 (q4 0 0 0 0) 29 rfl (fun _ => by kernel_rfl) ?_
          intro b23 W24 a' S25 ha
          simp only [Act.put, List.setIfInBounds_toArray, List.set_cons_zero, List.set_cons_succ] at ha
          subst ha
          refine wl_store S25 0 b23 29 16 (.tmp 10) (.tmp 51) (q4 0 0 0 0) (q4 (dk k).x (dk k).y (dk k).z (dk k).t) rfl rfl rfl rfl rfl row29 rfl rfl (q4_one _ _ _ _) ?_
          intro W26 a' S27 ha
          simp only [Act.put, List.setIfInBounds_toArray, List.set_cons_zero, List.set_cons_succ] at ha
          subst ha
          refine wl_pure (.int .i64 0) rfl (fun _ => by kernel_rfl) ?_
          intro a' ha
          simp only [Act.put, List.setIfInBounds_toArray, List.set_cons_zero, List.set_cons_succ] at ha
          subst ha
          refine wl_nil (hK3 _ _ ?_)
          clear hK3 K3
          refine wp_seq_k fun K3 hK3 => ?_
          refine wr_list ?_
          refine wl_pure (.int .i64 0) rfl (fun _ => by kernel_rfl) ?_
          intro a' ha
          simp only [Act.put, List.setIfInBounds_toArray, List.set_cons_zero, List.set_cons_succ] at ha
          subst ha
          refine wl_pure (.bool true) rfl (fun _ => by kernel_rfl) ?_
          intro a' ha
          simp only [Act.put, List.setIfInBounds_toArray, List.set_cons_zero, List.set_cons_succ] at ha
          subst ha
          refine wl_nil (hK3 _ _ ?_)
          clear hK3 K3
          refine wp_cond_true rfl ?_
          refine wp_seq_k fun K3 hK3 => ?_
          refine wr_list ?_
          refine wl_pure (.slice (some ⟨b, o, none⟩) len cap) rfl (fun _ => by kernel_rfl) ?_
          intro a' ha
          simp only [Act.put, List.setIfInBounds_toArray, List.set_cons_zero, List.set_cons_succ] at ha
          subst ha
          refine wl_pure (.int .i64 (k : Int)) rfl (fun _ => by kernel_rfl) ?_
          intro a' ha
          simp only [Act.put, List.setIfInBounds_toArray, List.set_cons_zero, List.set_cons_succ] at ha
          subst ha
          refine wl_pure (.pointer (some ⟨b, o + k, none⟩)) rfl (run_ixs (.tmp 56) (.tmp 57) b o len cap k rfl rfl rfl hk2) ?_
          intro a' ha
          simp only [Act.put, List.setIfInBounds_toArray, List.set_cons_zero, List.set_cons_succ] at ha
          subst ha
          refine wl_old S27 b (o + k) (T k) (.tmp 58) rfl rfl rfl hck ?_
          intro a' ha
          simp only [Act.put, List.setIfInBounds_toArray, List.set_cons_zero, List.set_cons_succ] at ha
          subst ha
          refine wl_call hZ S27 HRk rfl (fun _ => by kernel_rfl) ?_
          intro W28 a' S29 ha
          simp only [Act.put, List.setIfInBounds_toArray, List.set_cons_zero, List.set_cons_succ] at ha
          subst ha
          refine wl_pure (.tuple #[rp (rk k).x (rk k).y (rk k).z, .int .i64 0]) rfl (fun _ => by kernel_rfl) ?_
          intro a' ha
          simp only [Act.put, List.setIfInBounds_toArray, List.set_cons_zero, List.set_cons_succ] at ha
          subst ha
          refine wl_pure (rp (rk k).x (rk k).y (rk k).z) rfl (fun _ => by kernel_rfl) ?_
          intro a' ha
          simp only [Act.put, List.setIfInBounds_toArray, List.set_cons_zero, List.set_cons_succ] at ha
          subst ha
          refine wl_pure (.int .i64 0) rfl (fun _ => by kernel_rfl) ?_
          intro a' ha
          simp only [Act.put, List.setIfInBounds_toArray, List.set_cons_zero, List.set_cons_succ] at ha
          subst ha
          refine wl_alloc S29 (n27 0 0 0) 36 rfl (fun _ => by kernel_rfl) ?_
          intro b30 W31 a' S32 ha
          simp only [Act.put, List.setIfInBounds_toArray, List.set_cons_zero, List.set_cons_succ] at ha
          subst ha
          refine wl_store S32 0 b30 36 27 (.tmp 12) (.tmp 61) (n27 0 0 0) (n27 (rk k).x (rk k).y (rk k).z) rfl rfl rfl rfl rfl row36 (n27_size _ _ _) (n27_size _ _ _) (n27_one _ _ _) ?_
          intro W33 a' S34 ha
          simp only [Act.put, List.setIfInBounds_toArray, List.set_cons_zero, List.set_cons_succ] at ha
          subst ha
          refine wl_pure (.int .i64 0) rfl (fun _ => by kernel_rfl) ?_
          intro a' ha
          simp only [Act.put, List.setIfInBounds_toArray, List.set_cons_zero, List.set_cons_succ] at ha
          subst ha
          refine wl_nil (hK3 _ _ ?_)
          clear hK3 K3
          refine wp_seq_k fun K3 hK3 => ?_
          refine wr_list ?_
          refine wl_load S34 3 b3 0 29 16 (.tmp 5) (q4 (st k).x (st k).y (st k).z (st k).t) (q4 (st k).x (st k).y (st k).z (st k).t) rfl rfl rfl rfl (Sub.self _) row29 rfl ?_
          intro a' ha
          simp only [Act.put, List.setIfInBounds_toArray, List.set_cons_zero, List.set_cons_succ] at ha
          subst ha
          refine wl_load S34 1 b23 0 29 16 (.tmp 10) (q4 (dk k).x (dk k).y (dk k).z (dk k).t) (q4 (dk k).x (dk k).y (dk k).z (dk k).t) rfl rfl rfl rfl (Sub.self _) row29 rfl ?_
          intro a' ha
          simp only [Act.put, List.setIfInBounds_toArray, List.set_cons_zero, List.set_cons_succ] at ha
          subst ha
          refine wl_call hZ S34 HAk rfl (fun _ => by kernel_rfl) ?_
          intro W35 a' S36 ha
          simp only [Act.put, List.setIfInBounds_toArray, List.set_cons_zero, List.set_cons_succ] at ha
          subst ha
          refine wl_store S36 3 b3 29 16 (.tmp 5) (.tmp 65) (q4 (st k).x (st k).y (st k).z (st k).t) (q4 (st (k + 1)).x (st (k + 1)).y (st (k + 1)).z (st (k + 1)).t) rfl rfl rfl rfl rfl row29 rfl rfl (q4_one _ _ _ _) ?_
          intro W37 a' S38 ha
          simp only [Act.put, List.setIfInBounds_toArray, List.set_cons_zero, List.set_cons_succ] at ha
          subst ha
          refine wl_nil (hK3 _ _ ?_)
          clear hK3 K3
          refine wr_list ?_
          refine wl_load S38 2 b10 0 36 27 (.tmp 7) (n27 (rt k).x (rt k).y (rt k).z) (n27 (rt k).x (rt k).y (rt k).z) rfl rfl rfl rfl (Sub.self _) row36 (n27_size _ _ _) ?_
          intro a' ha
          simp only [Act.put, List.setIfInBounds_toArray, List.set_cons_zero, List.set_cons_succ] at ha
          subst ha
          refine wl_load S38 0 b30 0 36 27 (.tmp 12) (n27 (rk k).x (rk k).y (rk k).z) (n27 (rk k).x (rk k).y (rk k).z) rfl rfl rfl rfl (Sub.self _) row36 (n27_size _ _ _) ?_
          intro a' ha
          simp only [Act.put, List.setIfInBounds_toArray, List.set_cons_zero, List.set_cons_succ] at ha
          subst ha
          refine wl_call hZ S38 HBk rfl (fun _ => by kernel_rfl) ?_
          intro W39 a' S40 ha
          simp only [Act.put, List.setIfInBounds_toArray, List.set_cons_zero, List.set_cons_succ] at ha
          subst ha
          refine wl_store S40 2 b10 36 27 (.tmp 7) (.tmp 68) (n27 (rt k).x (rt k).y (rt k).z) (n27 (rt (k + 1)).x (rt (k + 1)).y (rt (k + 1)).z) rfl rfl rfl rfl rfl row36 (n27_size _ _ _) (n27_size _ _ _) (n27_one _ _ _) ?_
          intro W41 a' S42 ha
          simp only [Act.put, List.setIfInBounds_toArray, List.set_cons_zero, List.set_cons_succ] at ha
          subst ha
          refine wl_end (hK2 _ _ ?_)
          clear hK2 K2
          refine wr_list ?_
          refine wl_pure (.int .i64 (k : Int)) rfl (fun _ => by kernel_rfl) ?_
          intro a' ha
          simp only [Act.put, List.setIfInBounds_toArray, List.set_cons_zero, List.set_cons_succ] at ha
          subst ha
          refine wl_pure (.int .i64 ((k + 1 : Nat) : Int)) rfl (fun _ => (show (execOp _ _).run Tryd.prog _ = .ok (.value (.int .i64 (IntKind.i64.wrap ((k : Int) + 1)))) _ from by kernel_rfl).trans (by rw [IntKind.wrap_i64, show ((k : Int) + 1 + 9223372036854775808) % 18446744073709551616 - 9223372036854775808 = ((k + 1 : Nat) : Int) by omega])) ?_
          intro a' ha
          simp only [Act.put, List.setIfInBounds_toArray, List.set_cons_zero, List.set_cons_succ] at ha
          subst ha
          refine wl_pure (.int .i64 ((k + 1 : Nat) : Int)) rfl (fun _ => by kernel_rfl) ?_
          intro a' ha
          simp only [Act.put, List.setIfInBounds_toArray, List.set_cons_zero, List.set_cons_succ] at ha
          subst ha
          exact wl_end ⟨m, Nat.lt_succ_self _, k + 1, by omega, _, _, _, _, _, _, _, _, _, _, _, _, _, _, _, _, _, _, _, _, _, _, _, _, _, _, _, _, _, _, _, _, _, _, _, _, _, _, _, _, _, _, _, _, _, _, rfl, S42.pop.pop⟩
        · have HTk := HT k hk2 he
          have HUk := HU k hk2 he
          refine wp_seq_k fun K2 hK2 => ?_
          refine wp_seq_k fun K3 hK3 => ?_
          refine wr_list ?_
          refine wl_pure (.int .i64 (k : Int)) rfl (fun _ => by kernel_rfl) ?_
          intro a' ha
          simp only [Act.put, List.setIfInBounds_toArray, List.set_cons_zero, List.set_cons_succ] at ha
          subst ha
          refine wl_pure (.slice (some ⟨b, o, none⟩) len cap) rfl (fun _ => by kernel_rfl) ?_
          intro a' ha
          simp only [Act.put, List.setIfInBounds_toArray, List.set_cons_zero, List.set_cons_succ] at ha
          subst ha
          refine wl_pure (.int .i64 (len : Int)) rfl (fun _ => by kernel_rfl) ?_
          intro a' ha
          simp only [Act.put, List.setIfInBounds_toArray, List.set_cons_zero, List.set_cons_succ] at ha
          subst ha
          refine wl_pure (.bool true) rfl (fun _ => (show (execOp _ _).run Tryd.prog _ = .ok (.value (.bool (decide ((k : Int) < (len : Int))))) _ from by kernel_rfl).trans (by rw [decide_eq_true (show ((k : Int) < (len : Int)) by omega)])) ?_
          intro a' ha
          simp only [Act.put, List.setIfInBounds_toArray, List.set_cons_zero, List.set_cons_succ] at ha
          subst ha
          refine wl_nil (hK3 _ _ ?_)
          clear hK3 K3
          refine wp_cond_true rfl ?_
          refine wp_skip (hK2 _ _ ?_)
          clear hK2 K2
          refine wp_seq_k fun K2 hK2 => ?_
          refine wp_block ?_
          refine wp_seq_k fun K3 hK3 => ?_
          refine wp_seq_k fun K4 hK4 => ?_
          refine wr_list ?_
          refine wl_pure (.slice (some ⟨b, o, none⟩) len cap) rfl (fun _ => by kernel_rfl) ?_
          intro a' ha
          simp only [Act.put, List.setIfInBounds_toArray, List.set_cons_zero, List.set_cons_succ] at ha
          subst ha
          refine wl_pure (.int .i64 (k : Int)) rfl (fun _ => by kernel_rfl) ?_
          intro a' ha
          simp only [Act.put, List.setIfInBounds_toArray, List.set_cons_zero, List.set_cons_succ] at ha
          subst ha
          refine wl_pure (.pointer (some ⟨b, o + k, none⟩)) rfl (run_ixs (.tmp 38) (.tmp 39) b o len cap k rfl rfl rfl hk2) ?_
          intro a' ha
          simp only [Act.put, List.setIfInBounds_toArray, List.set_cons_zero, List.set_cons_succ] at ha
          subst ha
          refine wl_old S b (o + k) (T k) (.tmp 40) rfl rfl rfl hck ?_
          intro a' ha
          simp only [Act.put, List.setIfInBounds_toArray, List.set_cons_zero, List.set_cons_succ] at ha
          subst ha
          refine wl_pure (.int .i64 ((T k).size : Int)) rfl (fun _ => by kernel_rfl) ?_
          intro a' ha
          simp only [Act.put, List.setIfInBounds_toArray, List.set_cons_zero, List.set_cons_succ] at ha
          subst ha
          refine wl_pure (.bool false) rfl (fun _ => (show (execOp _ _).run Tryd.prog _ = .ok (.value (.bool (decide ((40 : Int) < ((T k).size : Int))))) _ from by kernel_rfl).trans (by rw [decide_eq_false (show ¬ ((40 : Int) < ((T k).size : Int)) by omega)])) ?_
          intro a' ha
          simp only [Act.put, List.setIfInBounds_toArray, List.set_cons_zero, List.set_cons_succ] at ha
          subst ha
          refine wl_nil (hK4 _ _ ?_)
          clear hK4 K4
          refine wp_cond_false rfl ?_
          refine wp_skip (hK3 _ _ ?_)
          clear hK3 K3
          refine wp_seq_k fun K3 hK3 => ?_
          refine wr_list ?_
          refine wl_pure (.slice (some ⟨b, o, none⟩) len cap) rfl (fun _ => by kernel_rfl) ?_
          intro a' ha
          simp only [Act.put, List.setIfInBounds_toArray, List.set_cons_zero, List.set_cons_succ] at ha
          subst ha
          refine wl_pure (.int .i64 (k : Int)) rfl (fun _ => by kernel_rfl) ?_
          intro a' ha
          simp only [Act.put, List.setIfInBounds_toArray, List.set_cons_zero, List.set_cons_succ] at ha
          subst ha
          refine wl_pure (.pointer (some ⟨b, o + k, none⟩)) rfl (run_ixs (.tmp 46) (.tmp 47) b o len cap k rfl rfl rfl hk2) ?_
          intro a' ha
          simp only [Act.put, List.setIfInBounds_toArray, List.set_cons_zero, List.set_cons_succ] at ha
          subst ha
          refine wl_old S b (o + k) (T k) (.tmp 48) rfl rfl rfl hck ?_
          intro a' ha
          simp only [Act.put, List.setIfInBounds_toArray, List.set_cons_zero, List.set_cons_succ] at ha
          subst ha
          refine wl_call hZ S HDk rfl (fun _ => by kernel_rfl) ?_
          intro W43 a' S44 ha
          simp only [Act.put, List.setIfInBounds_toArray, List.set_cons_zero, List.set_cons_succ] at ha
          subst ha
          refine wl_pure (.tuple #[pv (dk k).x (dk k).y (dk k).z (dk k).t, .int .i64 (ek k)]) rfl (fun _ => by kernel_rfl) ?_
          intro a' ha
          simp only [Act.put, List.setIfInBounds_toArray, List.set_cons_zero, List.set_cons_succ] at ha
          subst ha
          refine wl_pure (pv (dk k).x (dk k).y (dk k).z (dk k).t) rfl (fun _ => by kernel_rfl) ?_
          intro a' ha
          simp only [Act.put, List.setIfInBounds_toArray, List.set_cons_zero, List.set_cons_succ] at ha
          subst ha
          refine wl_pure (.int .i64 (ek k)) rfl (fun _ => by kernel_rfl) ?_
          intro a' ha
          simp only [Act.put, List.setIfInBounds_toArray, List.set_cons_zero, List.set_cons_succ] at ha
          subst ha
          refine wl_alloc S44 (q4 0 0 0 0) 29 rfl (fun _ => by kernel_rfl) ?_
          intro b45 W46 a' S47 ha
          simp only [Act.put, List.setIfInBounds_toArray, List.set_cons_zero, List.set_cons_succ] at ha
          subst ha
          refine wl_store S47 0 b45 29 16 (.tmp 10) (.tmp 51) (q4 0 0 0 0) (q4 (dk k).x (dk k).y (dk k).z (dk k).t) rfl rfl rfl rfl rfl row29 rfl rfl (q4_one _ _ _ _) ?_
          intro W48 a' S49 ha
          simp only [Act.put, List.setIfInBounds_toArray, List.set_cons_zero, List.set_cons_succ] at ha
          subst ha
          refine wl_pure (.int .i64 (ek k)) rfl (fun _ => by kernel_rfl) ?_
          intro a' ha
          simp only [Act.put, List.setIfInBounds_toArray, List.set_cons_zero, List.set_cons_succ] at ha
          subst ha
          refine wl_nil (hK3 _ _ ?_)
          clear hK3 K3
          refine wp_seq_k fun K3 hK3 => ?_
          refine wr_list ?_
          refine wl_pure (.int .i64 (ek k)) rfl (fun _ => by kernel_rfl) ?_
          intro a' ha
          simp only [Act.put, List.setIfInBounds_toArray, List.set_cons_zero, List.set_cons_succ] at ha
          subst ha
          refine wl_pure (.bool false) rfl (fun _ => (show (execOp _ _).run Tryd.prog _ = .ok (.value (.bool (decide (ek k = 0)))) _ from by kernel_rfl).trans (by rw [decide_eq_false he])) ?_
          intro a' ha
          simp only [Act.put, List.setIfInBounds_toArray, List.set_cons_zero, List.set_cons_succ] at ha
          subst ha
          refine wl_nil (hK3 _ _ ?_)
          clear hK3 K3
          refine wp_cond_false rfl ?_
          refine wp_seq_k fun K3 hK3 => ?_
          refine wr_list ?_
          refine wl_load S49 2 b3 0 29 16 (.tmp 5) (q4 (st k).x (st k).y (st k).z (st k).t) (q4 (st k).x (st k).y (st k).z (st k).t) rfl rfl rfl rfl (Sub.self _) row29 rfl ?_
          intro a' ha
          simp only [Act.put, List.setIfInBounds_toArray, List.set_cons_zero, List.set_cons_succ] at ha
          subst ha
          refine wl_call hZ S49 HTk rfl (fun _ => by kernel_rfl) ?_
          intro W50 a' S51 ha
          simp only [Act.put, List.setIfInBounds_toArray, List.set_cons_zero, List.set_cons_succ] at ha
          subst ha
          refine wl_store S51 2 b3 29 16 (.tmp 5) (.tmp 70) (q4 (st k).x (st k).y (st k).z (st k).t) (q4 (st (k + 1)).x (st (k + 1)).y (st (k + 1)).z (st (k + 1)).t) rfl rfl rfl rfl rfl row29 rfl rfl (q4_one _ _ _ _) ?_
          intro W52 a' S53 ha
          simp only [Act.put, List.setIfInBounds_toArray, List.set_cons_zero, List.set_cons_succ] at ha
          subst ha
          refine wl_nil (hK3 _ _ ?_)
          clear hK3 K3
          refine wr_list ?_
          refine wl_load S53 1 b10 0 36 27 (.tmp 7) (n27 (rt k).x (rt k).y (rt k).z) (n27 (rt k).x (rt k).y (rt k).z) rfl rfl rfl rfl (Sub.self _) row36 (n27_size _ _ _) ?_
          intro a' ha
          simp only [Act.put, List.setIfInBounds_toArray, List.set_cons_zero, List.set_cons_succ] at ha
          subst ha
          refine wl_load S53 1 b10 0 36 27 (.tmp 7) (n27 (rt k).x (rt k).y (rt k).z) (n27 (rt k).x (rt k).y (rt k).z) rfl rfl rfl rfl (Sub.self _) row36 (n27_size _ _ _) ?_
          intro a' ha
          simp only [Act.put, List.setIfInBounds_toArray, List.set_cons_zero, List.set_cons_succ] at ha
          subst ha
          refine wl_call hZ S53 HUk rfl (fun _ => by kernel_rfl) ?_
          intro W54 a' S55 ha
          simp only [Act.put, List.setIfInBounds_toArray, List.set_cons_zero, List.set_cons_succ] at ha
          subst ha
          refine wl_store S55 1 b10 36 27 (.tmp 7) (.tmp 73) (n27 (rt k).x (rt k).y (rt k).z) (n27 (rt (k + 1)).x (rt (k + 1)).y (rt (k + 1)).z) rfl rfl rfl rfl rfl row36 (n27_size _ _ _) (n27_size _ _ _) (n27_one _ _ _) ?_
          intro W56 a' S57 ha
          simp only [Act.put, List.setIfInBounds_toArray, List.set_cons_zero, List.set_cons_succ] at ha
          subst ha
          refine wl_end (hK2 _ _ ?_)
          clear hK2 K2
          refine wr_list ?_
          refine wl_pure (.int .i64 (k : Int)) rfl (fun _ => by kernel_rfl) ?_
          intro a' ha
          simp only [Act.put, List.setIfInBounds_toArray, List.set_cons_zero, List.set_cons_succ] at ha
          subst ha
          refine wl_pure (.int .i64 ((k + 1 : Nat) : Int)) rfl (fun _ => (show (execOp _ _).run Tryd.prog _ = .ok (.value (.int .i64 (IntKind.i64.wrap ((k : Int) + 1)))) _ from by kernel_rfl).trans (by rw [IntKind.wrap_i64, show ((k : Int) + 1 + 9223372036854775808) % 18446744073709551616 - 9223372036854775808 = ((k + 1 : Nat) : Int) by omega])) ?_
          intro a' ha
          simp only [Act.put, List.setIfInBounds_toArray, List.set_cons_zero, List.set_cons_succ] at ha
          subst ha
          refine wl_pure (.int .i64 ((k + 1 : Nat) : Int)) rfl (fun _ => by kernel_rfl) ?_
          intro a' ha
          simp only [Act.put, List.setIfInBounds_toArray, List.set_cons_zero, List.set_cons_succ] at ha
          subst ha
          exact wl_end ⟨m, Nat.lt_succ_self _, k + 1, by omega, _, _, _, _, _, _, _, _, _, _, _, _, _, _, _, _, _, _, _, _, _, _, _, _, _, _, _, _, _, _, _, _, _, _, _, _, _, _, _, _, _, _, _, _, _, _, rfl, S57.pop⟩
end Go.Proofs.YtpdagpjjlnncbaaDoor
