/-
  The document's points (pharosref08): sum. No statement is proved here.
-/
import Derived.Test.YthbkhbfcocbnoaaDoorDocB
import Derived.Test.YthbkhbfcocbnoaaDoorEdD
namespace Go.Proofs.YthbkhbfcocbnoaaDoor
open Go.RowKit Go.Lib Go.BigFrame
set_option linter.unusedVariables false
set_option linter.unusedSimpArgs false
set_option maxRecDepth 1000000
set_option maxHeartbeats 4000000

theorem ad_comm (a b : Nat) : ad a b = ad b a := by unfold ad; rw [Nat.add_comm]
theorem sq_neg (x y : Ed.F) : (y - x) * (y - x) = (x - y) * (x - y) := by grind -lia
theorem neg_sq (x y : Nat) (hx : x < Nt.P) (hy : y < Nt.P) : mq (sb y x) (sb y x) = mq (sb x y) (sb x y) := by
  refine Ed.fe_inj (ml_lt _ _) (ml_lt _ _) ?_
  rw [Ed.fe_mul, Ed.fe_mul, Ed.fe_sub _ _ hx, Ed.fe_sub _ _ hy]
  exact sq_neg _ _
theorem alloc35 (W : World) : (Instr.alloc 35 true (.tuple #[])).run Tryd.prog W = .ok (.pointer (some ⟨W.heap.size, 0, none⟩)) (W.alloc (.cells #[.int .u64 0, .int .u64 0, .int .u64 0, .int .u64 0, .int .u64 0, .int .u64 0, .int .u64 0, .int .u64 0, .int .u64 0] 35)) := by kernel_rfl
theorem news1_ty {d t : Nat} {z : Array Value} : ∀ x ∈ [(d, t, z)], ∀ y ∈ [(d, t, z)], x.1 = y.1 → x = y := by
  intro x hx y hy _
  simp only [List.mem_cons, List.not_mem_nil, or_false] at hx hy
  rw [hx, hy]
theorem news1_run {d t : Nat} {z : Array Value} (h : ∀ W : World, (Instr.alloc t true (.tuple #[])).run Tryd.prog W = .ok (.pointer (some ⟨W.heap.size, 0, none⟩)) (W.alloc (.cells z t))) : ∀ x ∈ [(d, t, z)], ∀ W : World, (Instr.alloc x.2.1 true (.tuple #[])).run Tryd.prog W = .ok (.pointer (some ⟨W.heap.size, 0, none⟩)) (W.alloc (.cells x.2.2 x.2.1)) := by
  intro x hx W
  simp only [List.mem_cons, List.not_mem_nil, or_false] at hx
  rw [hx]; exact h W
theorem wp_store_nd {w : World} {o : Oper} {a : Act} {K : Act → World → Prop} {Q : Exit → Act → World → Prop} (x y : Operand) (ho : o.op = .store 35 x y) (g v : Nat) (hx : a.eval x = .pointer (some ⟨g, 0, none⟩)) (hy : a.eval y = nd v) (hg : w.heap[g]? = some (.cells #[.int .u64 0, .int .u64 0, .int .u64 0, .int .u64 0, .int .u64 0, .int .u64 0, .int .u64 0, .int .u64 0, .int .u64 0] 35))
    (h : K (a.put o.dst undef) (w.setRow g (wc (dts v)))) : o.wp Tryd.prog a w K Q :=
  wp_store_row 35 x y ho g (wc (dts v)) hx hy 35 #[.int .u64 0, .int .u64 0, .int .u64 0, .int .u64 0, .int .u64 0, .int .u64 0, .int .u64 0, .int .u64 0, .int .u64 0] hg (by rw [wc_size, dts_len]; exact info36) (by rw [wc_size, dts_len]; rfl) (wc_one _) h
theorem rsum_any (A B C E X : Nat) (hA : A < Nt.P) (hB : B < Nt.P) (hC : C < Nt.P) (hE : E < Nt.P) (hX : X < Nt.P) (w : World) : Calls Tryd.prog 33 #[pn A B, pn C E, nd X] w fun e w' => e = .returned (pn (sx A B C E) (sz X A B C E)) ∧ Fr [] w w' := by
  have K1 := fun W => rsub_sb A B hA hB W
  have K2 := fun W => radd_ad C E hC hE W
  have K3 : ∀ W : World, Calls Tryd.prog 35 #[nd (sb A B), nd (ad C E)] W fun e w' => e = .returned (nd (s2 A B C E)) ∧ Fr [] W w' := fun W => by
    have := rmul_mq (sb A B) (ad C E) (sb_lt _ _) (ad_lt _ _) W
    rw [mq_comm] at this
    exact this
  have K4 := fun W => radd_ad A B hA hB W
  have K5 := fun W => rsub_sb C E hC hE W
  have K6 : ∀ W : World, Calls Tryd.prog 35 #[nd (ad A B), nd (sb C E)] W fun e w' => e = .returned (nd (s1 A B C E)) ∧ Fr [] W w' := fun W => by
    have := rmul_mq (ad A B) (sb C E) (ad_lt _ _) (sb_lt _ _) W
    rw [mq_comm] at this
    exact this
  have K7 := fun W => radd_ad (s2 A B C E) (s1 A B C E) (s2_lt _ _ _ _) (s1_lt _ _ _ _) W
  rw [ad_comm (s2 A B C E)] at K7
  have K8 := fun W => rsub_sb (s2 A B C E) (s1 A B C E) (s2_lt _ _ _ _) (s1_lt _ _ _ _) W
  have K9 : ∀ W : World, Calls Tryd.prog 35 #[nd (ad (s1 A B C E) (s2 A B C E)), nd (ad (s1 A B C E) (s2 A B C E))] W fun e w' => e = .returned (nd (sx A B C E)) ∧ Fr [] W w' := fun W => rmul_mq _ _ (ad_lt _ _) (ad_lt _ _) W
  have K10 : ∀ W : World, Calls Tryd.prog 35 #[nd (sb (s2 A B C E) (s1 A B C E)), nd (sb (s2 A B C E) (s1 A B C E))] W fun e w' => e = .returned (nd (sy A B C E)) ∧ Fr [] W w' := fun W => by
    have := rmul_mq (sb (s2 A B C E) (s1 A B C E)) (sb (s2 A B C E) (s1 A B C E)) (sb_lt _ _) (sb_lt _ _) W
    rw [neg_sq _ _ (s1_lt _ _ _ _) (s2_lt _ _ _ _)] at this
    exact this
  have K11 : ∀ W : World, Calls Tryd.prog 35 #[nd X, nd (sy A B C E)] W fun e w' => e = .returned (nd (sz X A B C E)) ∧ Fr [] W w' := fun W => by
    have := rmul_mq X (sy A B C E) hX (sy_lt _ _ _ _) W
    rw [mq_comm] at this
    exact this
  generalize sz X A B C E = vz at *
  generalize sx A B C E = vx at *
  generalize sy A B C E = vy at *
  generalize ad (s1 A B C E) (s2 A B C E) = vs at *
  generalize sb (s2 A B C E) (s1 A B C E) = vd at *
  generalize s1 A B C E = vb' at *
  generalize s2 A B C E = va at *
  generalize sb A B = u1 at *
  generalize ad A B = u2 at *
  generalize sb C E = u3 at *
  generalize ad C E = u4 at *
  have H1 := hid (p := _) K1
  have H2 := hid (p := _) K2
  have H3 := hid (p := _) K3
  have H4 := hid (p := _) K4
  have H5 := hid (p := _) K5
  have H6 := hid (p := _) K6
  have H7 := hid (p := _) K7
  have H8 := hid (p := _) K8
  have H9 := hid (p := _) K9
  have H10 := hid (p := _) K10
  have H11 := hid (p := _) K11
  clear K1 K2 K3 K4 K5 K6 K7 K8 K9 K10 K11 hA hB hC hE hX
  have HZ := hid (p := _) (show ∀ V : World, RW (V.alloc (.cells #[.int .u64 0, .int .u64 0, .int .u64 0, .int .u64 0, .int .u64 0, .int .u64 0, .int .u64 0, .int .u64 0, .int .u64 0] 35)) V.heap.size 35 [0, 0, 0, 0, 0, 0, 0, 0, 0] from fun V => (MapKept.heap_alloc V _).1)
  unfold pn nd
  go_enter Tryd.func33, Tryd.ntmps33
  go_wp2_with fail
  have P0 := hid (p := _) (show PT ((((w.alloc (.cells (wc (dts A ++ dts B)) 66)).alloc (.cells (wc (dts C ++ dts E)) 66)).alloc (.cells (wc (dts X)) 35)).alloc (.cells #[.int .u64 0, .int .u64 0, .int .u64 0, .int .u64 0, .int .u64 0, .int .u64 0, .int .u64 0, .int .u64 0, .int .u64 0, .int .u64 0, .int .u64 0, .int .u64 0, .int .u64 0, .int .u64 0, .int .u64 0, .int .u64 0, .int .u64 0, .int .u64 0] 66)) w.heap.size A B from ((PT.alloc (MapKept.heap_alloc w _).1 _).alloc _).alloc _)
  have Q0 := hid (p := _) (show PT ((((w.alloc (.cells (wc (dts A ++ dts B)) 66)).alloc (.cells (wc (dts C ++ dts E)) 66)).alloc (.cells (wc (dts X)) 35)).alloc (.cells #[.int .u64 0, .int .u64 0, .int .u64 0, .int .u64 0, .int .u64 0, .int .u64 0, .int .u64 0, .int .u64 0, .int .u64 0, .int .u64 0, .int .u64 0, .int .u64 0, .int .u64 0, .int .u64 0, .int .u64 0, .int .u64 0, .int .u64 0, .int .u64 0] 66)) (w.heap.size + 1) C E from PT.alloc (PT.alloc (heap_new1 w _ _) _) _)
  have X0 := hid (p := _) (show RW ((((w.alloc (.cells (wc (dts A ++ dts B)) 66)).alloc (.cells (wc (dts C ++ dts E)) 66)).alloc (.cells (wc (dts X)) 35)).alloc (.cells #[.int .u64 0, .int .u64 0, .int .u64 0, .int .u64 0, .int .u64 0, .int .u64 0, .int .u64 0, .int .u64 0, .int .u64 0, .int .u64 0, .int .u64 0, .int .u64 0, .int .u64 0, .int .u64 0, .int .u64 0, .int .u64 0, .int .u64 0, .int .u64 0] 66)) (w.heap.size + 2) 35 (dts X) from RW.alloc (heap_new2 w _ _ _) _)
  have R0 := hid (p := _) (show (((((w.alloc (.cells (wc (dts A ++ dts B)) 66)).alloc (.cells (wc (dts C ++ dts E)) 66)).alloc (.cells (wc (dts X)) 35)).alloc (.cells #[.int .u64 0, .int .u64 0, .int .u64 0, .int .u64 0, .int .u64 0, .int .u64 0, .int .u64 0, .int .u64 0, .int .u64 0, .int .u64 0, .int .u64 0, .int .u64 0, .int .u64 0, .int .u64 0, .int .u64 0, .int .u64 0, .int .u64 0, .int .u64 0] 66))).heap[w.heap.size + 3]? = some (.cells #[.int .u64 0, .int .u64 0, .int .u64 0, .int .u64 0, .int .u64 0, .int .u64 0, .int .u64 0, .int .u64 0, .int .u64 0, .int .u64 0, .int .u64 0, .int .u64 0, .int .u64 0, .int .u64 0, .int .u64 0, .int .u64 0, .int .u64 0, .int .u64 0] 66) from heap_new3 w _ _ _ _)
  have F0 := hid (p := _) (((((Fr.refl [] w).alloc (.cells (wc (dts A ++ dts B)) 66)).alloc (.cells (wc (dts C ++ dts E)) 66)).alloc (.cells (wc (dts X)) 35)).alloc (.cells #[.int .u64 0, .int .u64 0, .int .u64 0, .int .u64 0, .int .u64 0, .int .u64 0, .int .u64 0, .int .u64 0, .int .u64 0, .int .u64 0, .int .u64 0, .int .u64 0, .int .u64 0, .int .u64 0, .int .u64 0, .int .u64 0, .int .u64 0, .int .u64 0] 66))
  generalize ((((w.alloc (.cells (wc (dts A ++ dts B)) 66)).alloc (.cells (wc (dts C ++ dts E)) 66)).alloc (.cells (wc (dts X)) 35)).alloc (.cells #[.int .u64 0, .int .u64 0, .int .u64 0, .int .u64 0, .int .u64 0, .int .u64 0, .int .u64 0, .int .u64 0, .int .u64 0, .int .u64 0, .int .u64 0, .int .u64 0, .int .u64 0, .int .u64 0, .int .u64 0, .int .u64 0, .int .u64 0, .int .u64 0] 66)) = U at *
  apply wp_region_news [(7, 35, #[.int .u64 0, .int .u64 0, .int .u64 0, .int .u64 0, .int .u64 0, .int .u64 0, .int .u64 0, .int .u64 0, .int .u64 0])] [_, _, _, _, _, _, _, _, _, _, _, _] [_] (by simp) (by kernel_rfl) (by kernel_rfl) (by kernel_rfl) (by kernel_rfl) (by kernel_rfl) (by kernel_rfl) news1_ty (news1_run alloc35)
  · intro V0 hV0
    have HA := hid (p := _) (show ∀ W, (∃ x, W = ext V0 x) → NR W w.heap.size 0 A from fun W h => by obtain ⟨x, rfl⟩ := h; exact (P0.out.x.fr hV0).fr (ext_fr _ x))
    have HB := hid (p := _) (show ∀ W, (∃ x, W = ext V0 x) → NR W w.heap.size 9 B from fun W h => by obtain ⟨x, rfl⟩ := h; exact (P0.out.z.fr hV0).fr (ext_fr _ x))
    have HC := hid (p := _) (show ∀ W, (∃ x, W = ext V0 x) → NR W (w.heap.size + 1) 0 C from fun W h => by obtain ⟨x, rfl⟩ := h; exact (Q0.out.x.fr hV0).fr (ext_fr _ x))
    have HE := hid (p := _) (show ∀ W, (∃ x, W = ext V0 x) → NR W (w.heap.size + 1) 9 E from fun W h => by obtain ⟨x, rfl⟩ := h; exact (Q0.out.z.fr hV0).fr (ext_fr _ x))
    simp only [List.cons_append, List.nil_append, List.map_cons, List.map_nil, still, isNew, idle, if_true, Bool.false_eq_true, if_false]
    go_big_quiet_step (fail)
    refine wpQuiet_load_nd rfl (.tmp 11) rfl w.heap.size 0 A rfl HA.out ?_
    simp only [Act.put, List.setIfInBounds_toArray, List.set_cons_zero, List.set_cons_succ]
    go_big_quiet_step (fail)
    refine wpQuiet_load_nd rfl (.tmp 13) rfl w.heap.size 9 B rfl HB.out ?_
    simp only [Act.put, List.setIfInBounds_toArray, List.set_cons_zero, List.set_cons_succ]
    go_big_quiet_step (with_reducible exact Calls.ext_of (H1.out _))
    go_big_quiet_step (fail)
    refine wpQuiet_load_nd rfl (.tmp 16) rfl (w.heap.size + 1) 0 C rfl HC.out ?_
    simp only [Act.put, List.setIfInBounds_toArray, List.set_cons_zero, List.set_cons_succ]
    go_big_quiet_step (fail)
    refine wpQuiet_load_nd rfl (.tmp 18) rfl (w.heap.size + 1) 9 E rfl HE.out ?_
    simp only [Act.put, List.setIfInBounds_toArray, List.set_cons_zero, List.set_cons_succ]
    go_big_quiet_step (with_reducible exact Calls.ext_of (H2.out _))
    go_big_quiet_step (with_reducible exact Calls.ext_of (H3.out _))
    go_big_quiet_step (fail)
    refine wpQuiet_nil ?_
    rfl
  · intro W p hW hb hd
    have Z7 : W.heap[p 7]? = some (.cells #[.int .u64 0, .int .u64 0, .int .u64 0, .int .u64 0, .int .u64 0, .int .u64 0, .int .u64 0, .int .u64 0, .int .u64 0] 35) := (hb (7, 35, #[.int .u64 0, .int .u64 0, .int .u64 0, .int .u64 0, .int .u64 0, .int .u64 0, .int .u64 0, .int .u64 0, .int .u64 0]) (by simp)).1
    have g7 : U.heap.size ≤ p 7 := (hb (7, 35, #[.int .u64 0, .int .u64 0, .int .u64 0, .int .u64 0, .int .u64 0, .int .u64 0, .int .u64 0, .int .u64 0, .int .u64 0]) (by simp)).2
    simp only [putAll, Act.put, List.setIfInBounds_toArray, List.set_cons_zero, List.set_cons_succ, tailWp]
    refine wp_store_nd (.tmp 7) (.tmp 21) rfl (p 7) va rfl rfl Z7 ?_
    have hP0 := P0.out.lt
    have hQ0 := Q0.out.lt
    have hX0 := X0.out.lt
    have hR0 := lt_of_heap R0.out
    have hF0 := F0.out.size
    have P1 := hid (p := _) ((P0.out.fr hW).setRow_other (b' := p 7) (by omega) (wc (dts va)))
    have Q1 := hid (p := _) ((Q0.out.fr hW).setRow_other (b' := p 7) (by omega) (wc (dts va)))
    have X1 := hid (p := _) ((X0.out.fr hW).setRow_other (b' := p 7) (by omega) (wc (dts va)))
    have R1 := hid (p := _) ((Go.setRow_other W (p 7) (w.heap.size + 3) (wc (dts va)) (by omega)).trans (hW.heap R0.out (by simp)))
    have F1 := hid (p := _) ((F0.out.trans0 hW).setRow (g := p 7) (.inr (by omega)) (wc (dts va)))
    have A1 := hid (p := _) (show RW (W.setRow (p 7) (wc (dts va))) (p 7) 35 (dts va) from setRow_heap W (p 7) _ _ _ _ Z7)
    generalize W.setRow (p 7) (wc (dts va)) = U1 at *
    clear hb hd hW Z7 g7 hP0 hQ0 hX0 hR0 hF0 P0 Q0 X0 R0 F0
    generalize p 7 = s7 at *
    simp only [Act.put, List.setIfInBounds_toArray, List.set_cons_zero, List.set_cons_succ]
    go_simp
    go_wp2_with fail
    apply wp_region_news [(8, 35, #[.int .u64 0, .int .u64 0, .int .u64 0, .int .u64 0, .int .u64 0, .int .u64 0, .int .u64 0, .int .u64 0, .int .u64 0])] [_, _, _, _, _, _, _, _, _, _, _, _] [_] (by simp) (by kernel_rfl) (by kernel_rfl) (by kernel_rfl) (by kernel_rfl) (by kernel_rfl) (by kernel_rfl) news1_ty (news1_run alloc35)
    · intro V0 hV0
      have HA := hid (p := _) (show ∀ W, (∃ x, W = ext V0 x) → NR W w.heap.size 0 A from fun W h => by obtain ⟨x, rfl⟩ := h; exact (P1.out.x.fr hV0).fr (ext_fr _ x))
      have HB := hid (p := _) (show ∀ W, (∃ x, W = ext V0 x) → NR W w.heap.size 9 B from fun W h => by obtain ⟨x, rfl⟩ := h; exact (P1.out.z.fr hV0).fr (ext_fr _ x))
      have HC := hid (p := _) (show ∀ W, (∃ x, W = ext V0 x) → NR W (w.heap.size + 1) 0 C from fun W h => by obtain ⟨x, rfl⟩ := h; exact (Q1.out.x.fr hV0).fr (ext_fr _ x))
      have HE := hid (p := _) (show ∀ W, (∃ x, W = ext V0 x) → NR W (w.heap.size + 1) 9 E from fun W h => by obtain ⟨x, rfl⟩ := h; exact (Q1.out.z.fr hV0).fr (ext_fr _ x))
      simp only [List.cons_append, List.nil_append, List.map_cons, List.map_nil, still, isNew, idle, if_true, Bool.false_eq_true, if_false]
      go_big_quiet_step (fail)
      refine wpQuiet_load_nd rfl (.tmp 22) rfl w.heap.size 0 A rfl HA.out ?_
      simp only [Act.put, List.setIfInBounds_toArray, List.set_cons_zero, List.set_cons_succ]
      go_big_quiet_step (fail)
      refine wpQuiet_load_nd rfl (.tmp 24) rfl w.heap.size 9 B rfl HB.out ?_
      simp only [Act.put, List.setIfInBounds_toArray, List.set_cons_zero, List.set_cons_succ]
      go_big_quiet_step (with_reducible exact Calls.ext_of (H4.out _))
      go_big_quiet_step (fail)
      refine wpQuiet_load_nd rfl (.tmp 27) rfl (w.heap.size + 1) 0 C rfl HC.out ?_
      simp only [Act.put, List.setIfInBounds_toArray, List.set_cons_zero, List.set_cons_succ]
      go_big_quiet_step (fail)
      refine wpQuiet_load_nd rfl (.tmp 29) rfl (w.heap.size + 1) 9 E rfl HE.out ?_
      simp only [Act.put, List.setIfInBounds_toArray, List.set_cons_zero, List.set_cons_succ]
      go_big_quiet_step (with_reducible exact Calls.ext_of (H5.out _))
      go_big_quiet_step (with_reducible exact Calls.ext_of (H6.out _))
      go_big_quiet_step (fail)
      refine wpQuiet_nil ?_
      rfl
    · intro W p hW hb hd
      have Z8 : W.heap[p 8]? = some (.cells #[.int .u64 0, .int .u64 0, .int .u64 0, .int .u64 0, .int .u64 0, .int .u64 0, .int .u64 0, .int .u64 0, .int .u64 0] 35) := (hb (8, 35, #[.int .u64 0, .int .u64 0, .int .u64 0, .int .u64 0, .int .u64 0, .int .u64 0, .int .u64 0, .int .u64 0, .int .u64 0]) (by simp)).1
      have g8 : U1.heap.size ≤ p 8 := (hb (8, 35, #[.int .u64 0, .int .u64 0, .int .u64 0, .int .u64 0, .int .u64 0, .int .u64 0, .int .u64 0, .int .u64 0, .int .u64 0]) (by simp)).2
      simp only [putAll, Act.put, List.setIfInBounds_toArray, List.set_cons_zero, List.set_cons_succ, tailWp]
      refine wp_store_nd (.tmp 8) (.tmp 32) rfl (p 8) vb' rfl rfl Z8 ?_
      have hX0 := X1.out.lt
      have hA0 := A1.out.lt
      have hR0 := lt_of_heap R1.out
      have hF0 := F1.out.size
      have X2 := hid (p := _) ((X1.out.fr hW).setRow_other (b' := p 8) (by omega) (wc (dts vb')))
      have A2 := hid (p := _) ((A1.out.fr hW).setRow_other (b' := p 8) (by omega) (wc (dts vb')))
      have R2 := hid (p := _) ((Go.setRow_other W (p 8) (w.heap.size + 3) (wc (dts vb')) (by omega)).trans (hW.heap R1.out (by simp)))
      have F2 := hid (p := _) ((F1.out.trans0 hW).setRow (g := p 8) (.inr (by omega)) (wc (dts vb')))
      have B2 := hid (p := _) (show RW (W.setRow (p 8) (wc (dts vb'))) (p 8) 35 (dts vb') from setRow_heap W (p 8) _ _ _ _ Z8)
      generalize W.setRow (p 8) (wc (dts vb')) = U2 at *
      clear hb hd hW Z8 g8 hX0 hA0 hR0 hF0 P1 Q1 X1 A1 R1 F1
      generalize p 8 = s8 at *
      simp only [Act.put, List.setIfInBounds_toArray, List.set_cons_zero, List.set_cons_succ]
      go_simp
      go_wp2_with (first | (refine wpList_load_nd rfl (.tmp 7) rfl s7 0 va rfl (NR.row A2.out) ?_) | (refine wpList_load_nd rfl (.tmp 8) rfl s8 0 vb' rfl (NR.row B2.out) ?_) | (go_at_call 48; with_reducible refine (H7.out _).mono ?_; rintro e V3 ⟨rfl, hF⟩; have R3v := hid (p := _) (hF.heap R2.out (by simp)); have F3v := hid (p := _) (F2.out.trans0 hF); have A3v := hid (p := _) (A2.out.fr hF); have B3v := hid (p := _) (B2.out.fr hF); have X3v := hid (p := _) (X2.out.fr hF); clear hF H7) | (refine wpList_store_36 rfl (.tmp 9) (.tmp 35) rfl V3.heap.size [0, 0, 0, 0, 0, 0, 0, 0, 0] (dts vs) 35 rfl rfl rfl (dts_len _) (HZ.out V3) ?_; intro W3 hW; have R3 := hid (p := _) (show W3.heap[w.heap.size + 3]? = some (.cells #[.int .u64 0, .int .u64 0, .int .u64 0, .int .u64 0, .int .u64 0, .int .u64 0, .int .u64 0, .int .u64 0, .int .u64 0, .int .u64 0, .int .u64 0, .int .u64 0, .int .u64 0, .int .u64 0, .int .u64 0, .int .u64 0, .int .u64 0, .int .u64 0] 66) from hW ▸ ((Go.setRow_other (V3.alloc (.cells #[.int .u64 0, .int .u64 0, .int .u64 0, .int .u64 0, .int .u64 0, .int .u64 0, .int .u64 0, .int .u64 0, .int .u64 0] 35)) V3.heap.size (w.heap.size + 3) _ (Nat.ne_of_lt (lt_of_heap R3v.out))).trans (((Fr.refl [] V3).alloc (.cells #[.int .u64 0, .int .u64 0, .int .u64 0, .int .u64 0, .int .u64 0, .int .u64 0, .int .u64 0, .int .u64 0, .int .u64 0] 35)).heap R3v.out (by simp)))); have F3 := hid (p := _) (show Fr [] w W3 from hW ▸ (F3v.out.alloc (.cells #[.int .u64 0, .int .u64 0, .int .u64 0, .int .u64 0, .int .u64 0, .int .u64 0, .int .u64 0, .int .u64 0, .int .u64 0] 35)).setRow (.inr F3v.out.size) _); have A3 := hid (p := _) (show RW W3 s7 35 (dts va) from hW ▸ (A3v.out.alloc (.cells #[.int .u64 0, .int .u64 0, .int .u64 0, .int .u64 0, .int .u64 0, .int .u64 0, .int .u64 0, .int .u64 0, .int .u64 0] 35)).setRow_other (Nat.ne_of_lt A3v.out.lt) _); have B3 := hid (p := _) (show RW W3 s8 35 (dts vb') from hW ▸ (B3v.out.alloc (.cells #[.int .u64 0, .int .u64 0, .int .u64 0, .int .u64 0, .int .u64 0, .int .u64 0, .int .u64 0, .int .u64 0, .int .u64 0] 35)).setRow_other (Nat.ne_of_lt B3v.out.lt) _); have X3 := hid (p := _) (show RW W3 (w.heap.size + 2) 35 (dts X) from hW ▸ (X3v.out.alloc (.cells #[.int .u64 0, .int .u64 0, .int .u64 0, .int .u64 0, .int .u64 0, .int .u64 0, .int .u64 0, .int .u64 0, .int .u64 0] 35)).setRow_other (Nat.ne_of_lt X3v.out.lt) _); have S3 := hid (p := _) (show RW W3 V3.heap.size 35 (dts vs) from hW ▸ (HZ.out V3).setRow _); clear hW) | (refine wpList_load_nd rfl (.tmp 7) rfl s7 0 va rfl (NR.row A3.out) ?_) | (refine wpList_load_nd rfl (.tmp 8) rfl s8 0 vb' rfl (NR.row B3.out) ?_) | (go_at_call 47; with_reducible refine (H8.out _).mono ?_; rintro e V4 ⟨rfl, hF⟩; have R4v := hid (p := _) (hF.heap R3.out (by simp)); have F4v := hid (p := _) (F3.out.trans0 hF); have A4v := hid (p := _) (A3.out.fr hF); have B4v := hid (p := _) (B3.out.fr hF); have X4v := hid (p := _) (X3.out.fr hF); have S4v := hid (p := _) (S3.out.fr hF); clear hF H8) | (refine wpList_store_36 rfl (.tmp 10) (.tmp 38) rfl V4.heap.size [0, 0, 0, 0, 0, 0, 0, 0, 0] (dts vd) 35 rfl rfl rfl (dts_len _) (HZ.out V4) ?_; intro W4 hW; have R4 := hid (p := _) (show W4.heap[w.heap.size + 3]? = some (.cells #[.int .u64 0, .int .u64 0, .int .u64 0, .int .u64 0, .int .u64 0, .int .u64 0, .int .u64 0, .int .u64 0, .int .u64 0, .int .u64 0, .int .u64 0, .int .u64 0, .int .u64 0, .int .u64 0, .int .u64 0, .int .u64 0, .int .u64 0, .int .u64 0] 66) from hW ▸ ((Go.setRow_other (V4.alloc (.cells #[.int .u64 0, .int .u64 0, .int .u64 0, .int .u64 0, .int .u64 0, .int .u64 0, .int .u64 0, .int .u64 0, .int .u64 0] 35)) V4.heap.size (w.heap.size + 3) _ (Nat.ne_of_lt (lt_of_heap R4v.out))).trans (((Fr.refl [] V4).alloc (.cells #[.int .u64 0, .int .u64 0, .int .u64 0, .int .u64 0, .int .u64 0, .int .u64 0, .int .u64 0, .int .u64 0, .int .u64 0] 35)).heap R4v.out (by simp)))); have F4 := hid (p := _) (show Fr [] w W4 from hW ▸ (F4v.out.alloc (.cells #[.int .u64 0, .int .u64 0, .int .u64 0, .int .u64 0, .int .u64 0, .int .u64 0, .int .u64 0, .int .u64 0, .int .u64 0] 35)).setRow (.inr F4v.out.size) _); have A4 := hid (p := _) (show RW W4 s7 35 (dts va) from hW ▸ (A4v.out.alloc (.cells #[.int .u64 0, .int .u64 0, .int .u64 0, .int .u64 0, .int .u64 0, .int .u64 0, .int .u64 0, .int .u64 0, .int .u64 0] 35)).setRow_other (Nat.ne_of_lt A4v.out.lt) _); have B4 := hid (p := _) (show RW W4 s8 35 (dts vb') from hW ▸ (B4v.out.alloc (.cells #[.int .u64 0, .int .u64 0, .int .u64 0, .int .u64 0, .int .u64 0, .int .u64 0, .int .u64 0, .int .u64 0, .int .u64 0] 35)).setRow_other (Nat.ne_of_lt B4v.out.lt) _); have X4 := hid (p := _) (show RW W4 (w.heap.size + 2) 35 (dts X) from hW ▸ (X4v.out.alloc (.cells #[.int .u64 0, .int .u64 0, .int .u64 0, .int .u64 0, .int .u64 0, .int .u64 0, .int .u64 0, .int .u64 0, .int .u64 0] 35)).setRow_other (Nat.ne_of_lt X4v.out.lt) _); have S4 := hid (p := _) (show RW W4 V3.heap.size 35 (dts vs) from hW ▸ (S4v.out.alloc (.cells #[.int .u64 0, .int .u64 0, .int .u64 0, .int .u64 0, .int .u64 0, .int .u64 0, .int .u64 0, .int .u64 0, .int .u64 0] 35)).setRow_other (Nat.ne_of_lt S4v.out.lt) _); have D4 := hid (p := _) (show RW W4 V4.heap.size 35 (dts vd) from hW ▸ (HZ.out V4).setRow _); clear hW))
      have HX := hid (p := _) (show ∀ W, (∃ x, W = ext W4 x) → NR W (w.heap.size + 2) 0 X from fun W h => by obtain ⟨x, rfl⟩ := h; exact (NR.row X4.out).fr (ext_fr _ x))
      have HS := hid (p := _) (show ∀ W, (∃ x, W = ext W4 x) → NR W V3.heap.size 0 vs from fun W h => by obtain ⟨x, rfl⟩ := h; exact (NR.row S4.out).fr (ext_fr _ x))
      have HD := hid (p := _) (show ∀ W, (∃ x, W = ext W4 x) → NR W V4.heap.size 0 vd from fun W h => by obtain ⟨x, rfl⟩ := h; exact (NR.row D4.out).fr (ext_fr _ x))
      refine wp_region_tail_ext [_, _, _, _, _, _, _, _, _] [_] (by simp) (by kernel_rfl) (by kernel_rfl) (by kernel_rfl) (by kernel_rfl) (by kernel_rfl) ?_
      simp only [List.cons_append, List.nil_append, List.map_cons, List.map_nil, idle]
      refine wpQuiet_load_nd rfl (.tmp 9) rfl V3.heap.size 0 vs rfl HS.out ?_
      simp only [Act.put, List.setIfInBounds_toArray, List.set_cons_zero, List.set_cons_succ]
      refine wpQuiet_load_nd rfl (.tmp 9) rfl V3.heap.size 0 vs rfl HS.out ?_
      simp only [Act.put, List.setIfInBounds_toArray, List.set_cons_zero, List.set_cons_succ]
      go_big_quiet_step (with_reducible exact Calls.ext_of (H9.out _))
      refine wpQuiet_load_nd rfl (.tmp 5) rfl (w.heap.size + 2) 0 X rfl HX.out ?_
      simp only [Act.put, List.setIfInBounds_toArray, List.set_cons_zero, List.set_cons_succ]
      refine wpQuiet_load_nd rfl (.tmp 10) rfl V4.heap.size 0 vd rfl HD.out ?_
      simp only [Act.put, List.setIfInBounds_toArray, List.set_cons_zero, List.set_cons_succ]
      refine wpQuiet_load_nd rfl (.tmp 10) rfl V4.heap.size 0 vd rfl HD.out ?_
      simp only [Act.put, List.setIfInBounds_toArray, List.set_cons_zero, List.set_cons_succ]
      go_big_quiet_step (with_reducible exact Calls.ext_of (H10.out _))
      go_big_quiet_step (with_reducible exact Calls.ext_of (H11.out _))
      refine wpQuiet_build_pn rfl (.tmp 41) (.tmp 46) rfl vx vz rfl rfl ?_
      simp only [Act.put, List.setIfInBounds_toArray, List.set_cons_zero, List.set_cons_succ]
      refine wpQuiet_nil ?_
      rintro _ ⟨xr, rfl⟩
      have F6 := hid (p := _) (F4.out.ext xr)
      have R6 := hid (p := _) ((ext_fr W4 xr).heap R4.out (by simp))
      generalize ext W4 xr = Y at *
      simp only [tailWp]
      refine wp_store_pn (.tmp 6) (.tmp 47) rfl (w.heap.size + 3) vx vz #[.int .u64 0, .int .u64 0, .int .u64 0, .int .u64 0, .int .u64 0, .int .u64 0, .int .u64 0, .int .u64 0, .int .u64 0, .int .u64 0, .int .u64 0, .int .u64 0, .int .u64 0, .int .u64 0, .int .u64 0, .int .u64 0, .int .u64 0, .int .u64 0] 66 rfl rfl R6.out rfl ?_
      have HH := hid (p := _) (row_heap (A := vx) (B := vz) (t := 0) R6.out)
      have F7 := hid (p := _) (F6.out.setRow (g := w.heap.size + 3) (.inr (by omega)) (wc (dts vx ++ dts vz)))
      generalize Y.setRow (w.heap.size + 3) (wc (dts vx ++ dts vz)) = Y2 at *
      simp only [Act.put]
      go_simp
      go_wp2_with fail
      refine bodyPost_ret (results_cell66 Tryd.results33 rfl (pn_loadVar HH.out)) rfl ⟨rfl, F7.out⟩
end Go.Proofs.YthbkhbfcocbnoaaDoor
