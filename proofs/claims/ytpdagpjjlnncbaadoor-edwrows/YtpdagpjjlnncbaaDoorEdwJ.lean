/-
  The document's base point (pharosref09): its walk. No statement is proved here.
-/
import Derived.Test.YtpdagpjjlnncbaaDoorEdwI
import Derived.Maps.AppendAt
import Derived.Lib.SlBytesConst
namespace Go.Proofs.YtpdagpjjlnncbaaDoor
open Go.RowKit Go.Lib Go.BigFrame
set_option linter.unusedVariables false
set_option linter.unusedSimpArgs false
set_option maxRecDepth 1000000
set_option maxHeartbeats 4000000

theorem wl_step {ops : Array Oper} {rest : List Oper} {o : Oper} {a : Act} {Q : Exit → Act → World → Prop} {V : World} (v : Value) (V' : World) (hw : Region.wanted o (yielded ops a.tmps) = true) (he : (execOp a.eval o).run Tryd.prog V = .ok (.value v) V') (h : ∀ a', a' = a.put o.dst v → Wl ops Q rest a' V') : Wl ops Q (o :: rest) a V :=
  wl_want hw fun K hK => by unfold Oper.wp; rw [he]; exact hK _ _ (h _ rfl)
theorem wl_eq {ops : Array Oper} {rest : List Oper} {a : Act} {Q : Exit → Act → World → Prop} {V : World} (h : ∀ a', a' = a → Wl ops Q rest a' V) : Wl ops Q rest a V := h a rfl
theorem exec_conv {o : Oper} {a : Act} {x : Operand} {p v : Value} {V : World} (ho : o.op = .convert 61 9 x) (hx : a.eval x = p) (h : (convert 61 9 p).run Tryd.prog V = .ok v V) : (execOp a.eval o).run Tryd.prog V = .ok (.value v) V := by
  unfold execOp
  simp only [ho, hx, Sem.run_bind, h, Result.andThen_ok, Sem.run_pure]
/-- The bytes of the base point so far. -/
def bxi (k : Nat) : List Int := 88 :: List.replicate k 102
def bxs (k : Nat) : List Value := (bxi k).map (Value.int .u8)
theorem bxs_succ (k : Nat) : bxs (k + 1) = bxs k ++ [.int .u8 102] := by
  unfold bxs bxi
  rw [List.replicate_succ']
  simp
def bbs : ByteArray := ⟨#[88, 102, 102, 102, 102, 102, 102, 102, 102, 102, 102, 102, 102, 102, 102, 102, 102, 102, 102, 102, 102, 102, 102, 102, 102, 102, 102, 102, 102, 102, 102, 102]⟩
theorem bbs_eq : (bxi 31).foldl (fun r n => r.push (UInt8.ofNat n.toNat)) ByteArray.empty = bbs := by decide +kernel
theorem conv_bbs {V : World} {g cap : Nat} {cur : Array Value} (h : V.heap[g]? = some (.cells cur 5 (0, 0))) (hc : cur.toList.take ((31 + 1) * 1) = bxs 31) : (convert 61 9 (.slice (some ⟨g, 0, none⟩) (31 + 1) cap)).run Tryd.prog V = .ok (.string bbs) V := by
  rw [run_convert_bytes_string V 61 9 5 _ _ _ (by kernel_rfl) (by kernel_rfl) (by kernel_rfl), ← bbs_eq]
  refine run_bytesToString V _ 32 cap (bxi 31) ?_
  have hl : ((bxi 31).map (Value.int .u8)).length = 32 := rfl
  have := run_loadCells_list (P := Tryd.prog) (w := V) ⟨g, 0, none⟩ ((bxi 31).map (Value.int .u8)) (fun j u hu => by
    have hadd : (⟨g, 0, none⟩ : Addr).add j = ⟨g, j, none⟩ := by unfold Addr.add; split <;> simp_all
    rw [hadd]
    refine cell_of_heap h ?_
    have h1 : (bxs 31)[j]? = some u := hu
    rw [← hc, List.getElem?_take] at h1
    split at h1
    · simpa using h1
    · cases h1)
  rw [hl] at this
  exact this
/-- The row of bytes that grows: as the text lays it, or its own. -/
def Own (W : World) (base : Nat) (v : Value) (k : Nat) : Prop := (k = 0 ∧ ∃ g, v = .slice (some ⟨g, 0, none⟩) 1 1 ∧ base ≤ g ∧ W.heap[g]? = some (.cells #[.int .u8 88] 5 (1, 2))) ∨ W.ownsRow base 5 1 v (k + 1) (bxs k)
theorem Own.slice {W : World} {base : Nat} {v : Value} {k : Nat} (h : Own W base v k) : ∃ g cap, v = .slice (some ⟨g, 0, none⟩) (k + 1) cap := by
  rcases h with ⟨rfl, g, rfl, -, -⟩ | ⟨-, ⟨-, h⟩ | ⟨g, cap, cur, rfl, -⟩⟩
  · exact ⟨g, 1, rfl⟩
  · omega
  · exact ⟨g, cap, rfl⟩
theorem conv_own {W : World} {base g cap : Nat} (h : Own W base (.slice (some ⟨g, 0, none⟩) (31 + 1) cap) 31) : (convert 61 9 (.slice (some ⟨g, 0, none⟩) (31 + 1) cap)).run Tryd.prog W = .ok (.string bbs) W := by
  rcases h with ⟨h, -⟩ | ⟨-, ⟨h, -⟩ | ⟨g', cap', cur, h, -, h2, -, -, -, h4⟩⟩
  · omega
  · cases h
  · cases h; exact conv_bbs h2 h4
theorem exec_conv2 {o : Oper} {a : Act} {x : Operand} {p v : Value} {V V' : World} (ho : o.op = .convert 61 61 x) (hx : a.eval x = p) (h : (convert 61 61 p).run Tryd.prog V = .ok v V') : (execOp a.eval o).run Tryd.prog V = .ok (.value v) V' := by
  unfold execOp
  simp only [ho, hx, Sem.run_bind, h, Result.andThen_ok, Sem.run_pure]
theorem own_append {W : World} {base k : Nat} {v : Value} (h : Own W base v k) (hk : k < 31) (hb : base ≤ W.heap.size) (ty : Nat) : ∃ v' W', (Builtin.append_ #[61, 61] ty #[v, .slice (some ⟨W.heap.size, 0, none⟩) 1 1]).run Tryd.prog (W.alloc (.cells #[.int .u8 102] 5)) = .ok v' W' ∧ Own W' base v' (k + 1) ∧ (∃ S, Fr S (W.alloc (.cells #[.int .u8 102] 5)) W' ∧ ∀ t ∈ S, base ≤ t) ∧ base ≤ W'.heap.size := by
  obtain ⟨i5, hi5, hz5, hs5, hb5⟩ : ∃ i, Tryd.prog.info? 5 = some i ∧ i.zero = some (.int .u8 0) ∧ i.size = 1 ∧ i.bytes = 1 := infoOf (by kernel_rfl)
  rcases h with ⟨rfl, g, rfl, hg, hG⟩ | hO
  · have hG1 := ((Fr.refl [] W).alloc (.cells #[.int .u8 102] 5)).heap hG (by simp)
    have hadd : ∀ (b j : Nat), (⟨b, 0, none⟩ : Addr).add j = ⟨b, j, none⟩ := fun b j => by unfold Addr.add; split <;> simp_all
    have hr := run_append_grow (P := Tryd.prog) (W.alloc (.cells #[.int .u8 102] 5)) 61 ty 5 i5 (.int .u8 0) Tryd.underlying61 hi5 hz5 ⟨g, 0, none⟩ 1 1 [.int .u8 88] (by rw [hs5]; rfl) (fun j u hu => by rw [hadd]; exact cell_of_heap hG1 (by simpa using hu)) ⟨W.heap.size, 0, none⟩ 1 1 [.int .u8 102] (by rw [hs5]; rfl) (cell_one_new W _ _) (by decide) (by decide) (by rw [hb5]; decide)
    refine ⟨_, _, hr, .inr ⟨rfl, .inr ⟨_, _, _, rfl, ?_, (MapKept.heap_alloc _ _).1, grownCap_ge _ _ _ _, grownCap_le_maxLen _ _ _ _ (by decide), ?_, ?_⟩⟩, ⟨[], ((Fr.refl [] _).drew.alloc _), fun t ht => by cases ht⟩, ?_⟩
    · simp; omega
    · have := grownCap_ge (W.alloc (.cells #[.int .u8 102] 5)) 2 1 5
      simp [size_zeroCells, Value.cells]
      omega
    · simp [bxs, bxi]
    · simp; omega
  · have hO1 : (W.alloc (.cells #[.int .u8 102] 5)).ownsRow base 5 1 v (k + 1) (bxs k) := by
      refine ⟨hO.1, ?_⟩
      rcases hO.2 with q | ⟨g, cap, cur, e, h1, h2, r⟩
      · exact .inl q
      · exact .inr ⟨g, cap, cur, e, h1, ((Fr.refl [] W).alloc _).heap h2 (by simp), r⟩
    obtain ⟨v', W', hr, h2, h3, h4, h5⟩ := run_append_own_at (P := Tryd.prog) (W.alloc (.cells #[.int .u8 102] 5)) base 61 ty 5 i5 (.int .u8 0) 1 1 Tryd.underlying61 hi5 hz5 hs5 hb5 rfl (by decide) v (k + 1) (bxs k) hO1 ⟨W.heap.size, 0, none⟩ 1 1 [.int .u8 102] rfl (cell_one_new W _ _) (by simp [Value.oneCell']) (by unfold maxLen; omega) (by omega) (by simp; omega)
    refine ⟨v', W', hr, .inr (by rw [bxs_succ]; exact h2), ⟨_, Fr.ofGrown h3, fun t ht => ?_⟩, ?_⟩
    · rcases hO.2 with ⟨rfl, -⟩ | ⟨g, cap, cur, rfl, h1, -⟩
      · simp [Value.ownBlock] at ht
      · simp [Value.ownBlock] at ht; omega
    · have := (Fr.ofGrown h3).size; simp at this; omega
theorem wl_append {ops : Array Oper} {rest : List Oper} {o : Oper} {a : Act} {Q : Exit → Act → World → Prop} {W : World} {base k : Nat} {v : Value} (O : Own W base v k) (hk : k < 31) (hb : base ≤ W.heap.size) (hw : Region.wanted o (yielded ops a.tmps) = true) (ho : o.op = .call { callee := .builtin .append, args := #[.tmp 9, .tmp 10], argTypes := #[61, 61] }) (hx : a.eval (.tmp 9) = v ∧ a.eval (.tmp 10) = .slice (some ⟨W.heap.size, 0, none⟩) 1 1)
    (h : ∀ v' W' a', Own W' base v' (k + 1) → (∃ S, Fr S (W.alloc (.cells #[.int .u8 102] 5)) W' ∧ ∀ t ∈ S, base ≤ t) → base ≤ W'.heap.size → a' = a.put o.dst v' → Wl ops Q rest a' W') : Wl ops Q (o :: rest) a (W.alloc (.cells #[.int .u8 102] 5)) :=
  wl_want hw fun K hK => by
    obtain ⟨v', W', hr, h1, h2, h3⟩ := own_append O hk hb o.type
    unfold Oper.wp execOp
    simp only [ho, resolve, invoke, builtin, Sem.run_bind, Sem.run_pure, Result.andThen_ok, List.map_toArray, List.map_cons, List.map_nil, hx.1, hx.2, hr]
    exact hK _ _ (h v' W' _ h1 h2 h3 rfl)
theorem St.away {Z : World → Prop} {w V V' : World} {M : Mem} {S : List Nat} (h : St Z w V M) (hF : Fr S V V') (ho : ∀ x ∈ M, ∀ t ∈ S, x.1 ≠ t) (hl : ∀ t ∈ S, w.heap.size ≤ t) : St Z w V' M :=
  ⟨h.fr.trans hF (fun t ht => .inr (hl t ht)), h.z, fun x hx => Cont.same (hF.block x.1 (Cont.lt (h.all x hx)) (fun c => ho x hx _ c rfl)) (h.all x hx), h.lo, h.dis⟩
theorem rbase_r {Z : World → Prop} (hZ : Keeps Z) {x y z : Nat} (HD : Ret Z 10 #[.string bbs] (.tuple #[rp x y z, .int .i64 0])) : Ret Z 28 #[] (rp x y z) := by
  intro w hw
  have S := St.refl hw
  go_enter Tryd.func28, Tryd.ntmps28
  refine wp_seq_k fun K hK => ?_
  refine wr_list ?_
  refine wl_alloc S (n27 0 0 0) 36 rfl (fun _ => by kernel_rfl) ?_
  intro b1 W2 a' S3 ha
  simp only [Act.put, List.setIfInBounds_toArray, List.set_cons_zero, List.set_cons_succ] at ha
  subst ha
  refine wl_nil (hK _ _ ?_)
  clear hK K
  refine wp_seq_k fun K hK => ?_
  refine wr_list ?_
  refine wl_step (.slice (some ⟨W2.heap.size, 0, none⟩) 1 1) (W2.alloc (.cells #[.int .u8 88] 5)) rfl (by kernel_rfl) ?_
  intro a' ha
  simp only [Act.put, List.setIfInBounds_toArray, List.set_cons_zero, List.set_cons_succ] at ha
  subst ha
  refine wl_step (.slice (some ⟨W2.heap.size, 0, none⟩) 1 1) (W2.alloc (.cells #[.int .u8 88] 5 (1, 2))) rfl (exec_conv2 rfl rfl (run_convert_bytes_const W2 61 5 #[.int .u8 88] 1 1 Tryd.underlying61 Tryd.underlying5)) ?_
  intro a' ha
  simp only [Act.put, List.setIfInBounds_toArray, List.set_cons_zero, List.set_cons_succ] at ha
  subst ha
  refine wl_pure (.slice (some ⟨W2.heap.size, 0, none⟩) 1 1) rfl (fun _ => (by kernel_rfl)) ?_
  intro a' ha
  simp only [Act.put, List.setIfInBounds_toArray, List.set_cons_zero, List.set_cons_succ] at ha
  subst ha
  refine wl_nil (hK _ _ ?_)
  clear hK K
  have hb0 : b1 < W2.heap.size := lt_of_heap (S3.nth 0 rfl)
  have SA := S3.step ((Fr.refl [] W2).alloc (.cells #[.int .u8 88] 5 (1, 2)))
  have OA : Own (W2.alloc (.cells #[.int .u8 88] 5 (1, 2))) W2.heap.size (.slice (some ⟨W2.heap.size, 0, none⟩) 1 1) 0 := .inl ⟨rfl, _, rfl, Nat.le_refl _, (MapKept.heap_alloc W2 _).1⟩
  have hsz : W2.heap.size ≤ (W2.alloc (.cells #[.int .u8 88] 5 (1, 2))).heap.size := by simp
  generalize W2.alloc (.cells #[.int .u8 88] 5 (1, 2)) = WA at *
  refine wp_seq_k fun K hK => ?_
  refine wp_block ?_
  refine wp_loop_ghost (fun n ac W => ∃ (k : Nat) (v : Value), n + k = 31 ∧ (∃ c6 c7 c8 c9 c10 c11 : Value, ac = ⟨#[.pointer (some ⟨b1, 0, none⟩), v, undef, undef, .slice (some ⟨W2.heap.size, 0, none⟩) 1 1, .slice (some ⟨W2.heap.size, 0, none⟩) 1 1, c6, c7, c8, c9, c10, c11, undef, undef, undef, undef, undef, undef, undef], []⟩) ∧ St Z w W [(b1, .row (n27 0 0 0) 36)] ∧ Own W W2.heap.size v k ∧ W2.heap.size ≤ W.heap.size) 31 ?_ ?_
  · exact ⟨0, _, rfl, ⟨undef, undef, undef, undef, undef, undef, rfl⟩, SA, OA, hsz⟩
  · clear SA OA hsz
    rintro n _ W ⟨k, v, hk, ⟨c6, c7, c8, c9, c10, c11, rfl⟩, S, O, hz⟩
    obtain ⟨gb, cap, rfl⟩ := O.slice
    rcases n with _ | n
    · obtain rfl : k = 31 := by omega
      refine wp_seq_k fun K2 hK2 => ?_
      clear hK2
      refine wp_seq_k fun K3 hK3 => ?_
      refine wr_list ?_
      refine wl_pure (.slice (some ⟨gb, 0, none⟩) (31 + 1) cap) rfl (fun _ => (by kernel_rfl)) ?_
      intro a' ha
      simp only [Act.put, List.setIfInBounds_toArray, List.set_cons_zero, List.set_cons_succ] at ha
      subst ha
      refine wl_pure (.int .i64 32) rfl (fun _ => (by kernel_rfl)) ?_
      intro a' ha
      simp only [Act.put, List.setIfInBounds_toArray, List.set_cons_zero, List.set_cons_succ] at ha
      subst ha
      refine wl_pure (.bool false) rfl (fun _ => (by kernel_rfl)) ?_
      intro a' ha
      simp only [Act.put, List.setIfInBounds_toArray, List.set_cons_zero, List.set_cons_succ] at ha
      subst ha
      refine wl_nil (hK3 _ _ ?_)
      clear hK3 K3
      refine wp_cond_false rfl ?_
      refine wp_exit ?_
      refine hK _ _ ?_
      clear hK K
      refine wp_seq_k fun K hK => ?_
      refine wr_list ?_
      refine wl_pure (.slice (some ⟨gb, 0, none⟩) (31 + 1) cap) rfl (fun _ => (by kernel_rfl)) ?_
      intro a' ha
      simp only [Act.put, List.setIfInBounds_toArray, List.set_cons_zero, List.set_cons_succ] at ha
      subst ha
      refine wl_step (.string bbs) W rfl (exec_conv rfl rfl (conv_own O)) ?_
      intro a' ha
      simp only [Act.put, List.setIfInBounds_toArray, List.set_cons_zero, List.set_cons_succ] at ha
      subst ha
      refine wl_call hZ S HD rfl (fun _ => by kernel_rfl) ?_
      intro W4 a' S5 ha
      simp only [Act.put, List.setIfInBounds_toArray, List.set_cons_zero, List.set_cons_succ] at ha
      subst ha
      refine wl_pure (.tuple #[rp x y z, .int .i64 0]) rfl (fun _ => by kernel_rfl) ?_
      intro a' ha
      simp only [Act.put, List.setIfInBounds_toArray, List.set_cons_zero, List.set_cons_succ] at ha
      subst ha
      refine wl_pure (rp x y z) rfl (fun _ => by kernel_rfl) ?_
      intro a' ha
      simp only [Act.put, List.setIfInBounds_toArray, List.set_cons_zero, List.set_cons_succ] at ha
      subst ha
      refine wl_pure (.int .i64 0) rfl (fun _ => by kernel_rfl) ?_
      intro a' ha
      simp only [Act.put, List.setIfInBounds_toArray, List.set_cons_zero, List.set_cons_succ] at ha
      subst ha
      refine wl_alloc S5 (n27 0 0 0) 36 rfl (fun _ => by kernel_rfl) ?_
      intro b6 W7 a' S8 ha
      simp only [Act.put, List.setIfInBounds_toArray, List.set_cons_zero, List.set_cons_succ] at ha
      subst ha
      refine wl_store S8 0 b6 36 27 (.tmp 2) (.tmp 16) (n27 0 0 0) (n27 x y z) rfl rfl rfl rfl rfl row36 (n27_size _ _ _) (n27_size _ _ _) (n27_one _ _ _) ?_
      intro W9 a' S10 ha
      simp only [Act.put, List.setIfInBounds_toArray, List.set_cons_zero, List.set_cons_succ] at ha
      subst ha
      refine wl_pure (.int .i64 0) rfl (fun _ => by kernel_rfl) ?_
      intro a' ha
      simp only [Act.put, List.setIfInBounds_toArray, List.set_cons_zero, List.set_cons_succ] at ha
      subst ha
      refine wl_nil (hK _ _ ?_)
      clear hK K
      refine wp_seq_k fun K hK => ?_
      refine wr_list ?_
      refine wl_load S10 0 b6 0 36 27 (.tmp 2) (n27 x y z) (n27 x y z) rfl rfl rfl rfl (Sub.self _) row36 (n27_size _ _ _) ?_
      intro a' ha
      simp only [Act.put, List.setIfInBounds_toArray, List.set_cons_zero, List.set_cons_succ] at ha
      subst ha
      refine wl_store S10 1 b1 36 27 (.tmp 0) (.tmp 18) (n27 0 0 0) (n27 x y z) rfl rfl rfl rfl rfl row36 (n27_size _ _ _) (n27_size _ _ _) (n27_one _ _ _) ?_
      intro W11 a' S12 ha
      simp only [Act.put, List.setIfInBounds_toArray, List.set_cons_zero, List.set_cons_succ] at ha
      subst ha
      refine wl_nil (hK _ _ ?_)
      clear hK K
      refine wp_ret ?_
      exact fin_cell (k := 1) S12 rfl rfl rfl row36 (n27_size _ _ _) rfl
    · have hkk : k < 31 := by omega
      refine wp_seq_k fun K2 hK2 => ?_
      refine wp_seq_k fun K3 hK3 => ?_
      refine wr_list ?_
      refine wl_pure (.slice (some ⟨gb, 0, none⟩) (k + 1) cap) rfl (fun _ => (by kernel_rfl)) ?_
      intro a' ha
      simp only [Act.put, List.setIfInBounds_toArray, List.set_cons_zero, List.set_cons_succ] at ha
      subst ha
      refine wl_pure (.int .i64 ((k + 1 : Nat) : Int)) rfl (fun _ => (by kernel_rfl)) ?_
      intro a' ha
      simp only [Act.put, List.setIfInBounds_toArray, List.set_cons_zero, List.set_cons_succ] at ha
      subst ha
      refine wl_pure (.bool true) rfl (fun _ => ((show (execOp _ _).run Tryd.prog _ = .ok (.value (.bool (decide (((k + 1 : Nat) : Int) < 32)))) _ from by kernel_rfl).trans (by rw [decide_eq_true (by omega)]))) ?_
      intro a' ha
      simp only [Act.put, List.setIfInBounds_toArray, List.set_cons_zero, List.set_cons_succ] at ha
      subst ha
      refine wl_nil (hK3 _ _ ?_)
      clear hK3 K3
      refine wp_cond_true rfl ?_
      refine wp_skip (hK2 _ _ ?_)
      clear hK2 K2
      refine wp_block ?_
      refine wr_list ?_
      refine wl_pure (.slice (some ⟨gb, 0, none⟩) (k + 1) cap) rfl (fun _ => (by kernel_rfl)) ?_
      intro a' ha
      simp only [Act.put, List.setIfInBounds_toArray, List.set_cons_zero, List.set_cons_succ] at ha
      subst ha
      refine wl_step (.slice (some ⟨W.heap.size, 0, none⟩) 1 1) (W.alloc (.cells #[.int .u8 102] 5)) rfl (by kernel_rfl) ?_
      intro a' ha
      simp only [Act.put, List.setIfInBounds_toArray, List.set_cons_zero, List.set_cons_succ] at ha
      subst ha
      refine wl_append O hkk hz rfl rfl ⟨rfl, rfl⟩ ?_
      intro v' W' a' hO ⟨SS, hF, hB⟩ hz' ha
      simp only [Act.put, List.setIfInBounds_toArray, List.set_cons_zero, List.set_cons_succ] at ha
      subst ha
      have SC : St Z w W' [(b1, .row (n27 0 0 0) 36)] := (S.step ((Fr.refl [] W).alloc (.cells #[.int .u8 102] 5))).away hF (fun x hx t ht => by simp at hx; subst hx; have := hB t ht; show b1 ≠ t; omega) (fun t ht => Nat.le_trans S3.fr.size (hB t ht))
      refine wl_pure v' rfl (fun _ => (by kernel_rfl)) ?_
      intro a' ha
      simp only [Act.put, List.setIfInBounds_toArray, List.set_cons_zero, List.set_cons_succ] at ha
      subst ha
      exact wl_end ⟨n, Nat.lt_succ_self _, k + 1, v', by omega, ⟨_, _, _, _, _, _, rfl⟩, SC, hO, hz'⟩
end Go.Proofs.YtpdagpjjlnncbaaDoor
