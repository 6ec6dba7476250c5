/-
  Package mont: sum. No statement is proved here.
-/
import Derived.Test.YthbkhbfcocbnoaaDoorMonB
import Derived.Test.YthbkhbfcocbnoaaDoorNews
namespace Go.Proofs.YthbkhbfcocbnoaaDoor
open Go.RowKit Go.Lib Go.BigFrame
set_option linter.unusedVariables false
set_option linter.unusedSimpArgs false
set_option maxRecDepth 1000000
set_option maxHeartbeats 4000000

/-- The sum of two points, which differ by that of X. -/
def s1 (A B C E : Nat) : Nat := mq (sb C E) (ad A B)
def s2 (A B C E : Nat) : Nat := mq (ad C E) (sb A B)
def sx (A B C E : Nat) : Nat := mq (ad (s1 A B C E) (s2 A B C E)) (ad (s1 A B C E) (s2 A B C E))
def sy (A B C E : Nat) : Nat := mq (sb (s1 A B C E) (s2 A B C E)) (sb (s1 A B C E) (s2 A B C E))
def sz (X A B C E : Nat) : Nat := mq (sy A B C E) X
theorem s1_lt (A B C E : Nat) : s1 A B C E < Nt.P := ml_lt _ _
theorem s2_lt (A B C E : Nat) : s2 A B C E < Nt.P := ml_lt _ _
theorem sx_lt (A B C E : Nat) : sx A B C E < Nt.P := ml_lt _ _
theorem sy_lt (A B C E : Nat) : sy A B C E < Nt.P := ml_lt _ _
theorem sz_lt (X A B C E : Nat) : sz X A B C E < Nt.P := ml_lt _ _
theorem L8.set8 {V : World} {b t : Nat} {v0 v1 v2 v3 v4 v5 v6 v7 : Value} (h : L8 V b t v0 v1 v2 v3 v4 v5 v6 v7) (u0 u1 u2 u3 u4 u5 u6 u7 : Value) : L8 ((((((((V.setCell ⟨b, 0, none⟩ u0).setCell ⟨b, 1, none⟩ u1).setCell ⟨b, 2, none⟩ u2).setCell ⟨b, 3, none⟩ u3).setCell ⟨b, 4, none⟩ u4).setCell ⟨b, 5, none⟩ u5).setCell ⟨b, 6, none⟩ u6).setCell ⟨b, 7, none⟩ u7) b t u0 u1 u2 u3 u4 u5 u6 u7 := by
  unfold L8 at h ⊢
  have h0 := cells_set (i := 0) h u0
  simp only [List.setIfInBounds_toArray, List.set_cons_zero, List.set_cons_succ] at h0
  have h1 := cells_set (i := 1) h0 u1
  simp only [List.setIfInBounds_toArray, List.set_cons_zero, List.set_cons_succ] at h1
  have h2 := cells_set (i := 2) h1 u2
  simp only [List.setIfInBounds_toArray, List.set_cons_zero, List.set_cons_succ] at h2
  have h3 := cells_set (i := 3) h2 u3
  simp only [List.setIfInBounds_toArray, List.set_cons_zero, List.set_cons_succ] at h3
  have h4 := cells_set (i := 4) h3 u4
  simp only [List.setIfInBounds_toArray, List.set_cons_zero, List.set_cons_succ] at h4
  have h5 := cells_set (i := 5) h4 u5
  simp only [List.setIfInBounds_toArray, List.set_cons_zero, List.set_cons_succ] at h5
  have h6 := cells_set (i := 6) h5 u6
  simp only [List.setIfInBounds_toArray, List.set_cons_zero, List.set_cons_succ] at h6
  have h7 := cells_set (i := 7) h6 u7
  simp only [List.setIfInBounds_toArray, List.set_cons_zero, List.set_cons_succ] at h7
  exact h7
theorem alloc43 (W : World) : (Instr.alloc 43 true (.tuple #[])).run Tryd.prog W = .ok (.pointer (some ⟨W.heap.size, 0, none⟩)) (W.alloc (.cells #[.int .u64 0, .int .u64 0, .int .u64 0, .int .u64 0] 43)) := by kernel_rfl
theorem news2_ty {d e t : Nat} {z : Array Value} (h : d ≠ e) : ∀ x ∈ [(d, t, z), (e, t, z)], ∀ y ∈ [(d, t, z), (e, t, z)], x.1 = y.1 → x = y := by
  intro x hx y hy hxy
  simp only [List.mem_cons, List.not_mem_nil, or_false] at hx hy
  rcases hx with rfl | rfl <;> rcases hy with rfl | rfl
  · rfl
  · exact absurd hxy h
  · exact absurd hxy.symm h
  · rfl
theorem news2_run {d e t : Nat} {z : Array Value} (h : ∀ W : World, (Instr.alloc t true (.tuple #[])).run Tryd.prog W = .ok (.pointer (some ⟨W.heap.size, 0, none⟩)) (W.alloc (.cells z t))) : ∀ x ∈ [(d, t, z), (e, t, z)], ∀ W : World, (Instr.alloc x.2.1 true (.tuple #[])).run Tryd.prog W = .ok (.pointer (some ⟨W.heap.size, 0, none⟩)) (W.alloc (.cells x.2.2 x.2.1)) := by
  intro x hx W
  simp only [List.mem_cons, List.not_mem_nil, or_false] at hx
  rcases hx with rfl | rfl <;> exact h W
theorem L8.other4 {V : World} {b t p : Nat} {v0 v1 v2 v3 v4 v5 v6 v7 : Value} (h : L8 V b t v0 v1 v2 v3 v4 v5 v6 v7) (hne : b ≠ p) (u0 u1 u2 u3 : Value) : L8 ((((V.setCell ⟨p, 0, none⟩ u0).setCell ⟨p, 1, none⟩ u1).setCell ⟨p, 2, none⟩ u2).setCell ⟨p, 3, none⟩ u3) b t v0 v1 v2 v3 v4 v5 v6 v7 := by
  unfold L8
  rw [heap_setCell_other _ _ _ _ hne, heap_setCell_other _ _ _ _ hne, heap_setCell_other _ _ _ _ hne, heap_setCell_other _ _ _ _ hne]; exact h
theorem sum_any (b' X A B C E tt : Nat) (hX : X < Nt.P) (hA : A < Nt.P) (hB : B < Nt.P) (hC : C < Nt.P) (hE : E < Nt.P) (w : World) (hP : PV w) (hL : LD w b' X A B C E tt) : Calls Tryd.prog 43 #[.pointer (some ⟨b', 0, none⟩)] w fun e w' => e = .returned (pv (sx A B C E) (sz X A B C E)) ∧ Fr [] w w' := by
  have hP2 := hid (p := _) hP
  have Ke := fun W hW => ends_any A B hA hB W hW
  have Kf := fun W hW => ends_any C E hC hE W hW
  have K1 : ∀ W, PV W → Calls Tryd.prog 27 #[wd (sb C E), wd (ad A B)] W fun e w' => e = .returned (wd (s1 A B C E)) ∧ Fr [] W w' := fun W hW => mul_ml _ _ (sb_lt _ _) (ad_lt _ _) W hW
  have K2 : ∀ W, PV W → Calls Tryd.prog 27 #[wd (ad C E), wd (sb A B)] W fun e w' => e = .returned (wd (s2 A B C E)) ∧ Fr [] W w' := fun W hW => mul_ml _ _ (ad_lt _ _) (sb_lt _ _) W hW
  have K3 := fun W hW => add_ad (s1 A B C E) (s2 A B C E) (s1_lt _ _ _ _) (s2_lt _ _ _ _) W hW
  have K4 : ∀ W, PV W → Calls Tryd.prog 55 #[wd (ad (s1 A B C E) (s2 A B C E))] W fun e w' => e = .returned (wd (sx A B C E)) ∧ Fr [] W w' := fun W hW => square_any _ (ad_lt _ _) W hW
  have K5 := fun W hW => sub_sb (s1 A B C E) (s2 A B C E) (s1_lt _ _ _ _) (s2_lt _ _ _ _) W hW
  have K6 : ∀ W, PV W → Calls Tryd.prog 55 #[wd (sb (s1 A B C E) (s2 A B C E))] W fun e w' => e = .returned (wd (sy A B C E)) ∧ Fr [] W w' := fun W hW => square_any _ (sb_lt _ _) W hW
  have K7 : ∀ W, PV W → Calls Tryd.prog 27 #[wd (sy A B C E), wd X] W fun e w' => e = .returned (wd (sz X A B C E)) ∧ Fr [] W w' := fun W hW => mul_ml _ _ (sy_lt _ _ _ _) hX W hW
  have l1 := s1_lt A B C E
  have l2 := s2_lt A B C E
  have l3 := sx_lt A B C E
  have l4 := sz_lt X A B C E
  obtain ⟨x0, x1, x2, x3, -, -, -, -, -, wx⟩ := wd_open X (lt4 hX)
  obtain ⟨a0, a1, a2, a3, -, -, -, -, -, wa⟩ := wd_open A (lt4 hA)
  obtain ⟨b0, b1, b2, b3, -, -, -, -, -, wb⟩ := wd_open B (lt4 hB)
  obtain ⟨c0, c1, c2, c3, -, -, -, -, -, wc⟩ := wd_open C (lt4 hC)
  obtain ⟨e0, e1, e2, e3, -, -, -, -, -, we⟩ := wd_open E (lt4 hE)
  obtain ⟨p0, p1, p2, p3, -, -, -, -, -, wp⟩ := wd_open (ad A B) (lt4 (ad_lt _ _))
  obtain ⟨m0, m1, m2, m3, -, -, -, -, -, wm⟩ := wd_open (sb A B) (lt4 (sb_lt _ _))
  obtain ⟨q0, q1, q2, q3, -, -, -, -, -, wq⟩ := wd_open (ad C E) (lt4 (ad_lt _ _))
  obtain ⟨n0, n1, n2, n3, -, -, -, -, -, wn⟩ := wd_open (sb C E) (lt4 (sb_lt _ _))
  obtain ⟨r0, r1, r2, r3, -, -, -, -, -, wr⟩ := wd_open (s1 A B C E) (lt4 l1)
  obtain ⟨k0, k1, k2, k3, -, -, -, -, -, wk⟩ := wd_open (s2 A B C E) (lt4 l2)
  obtain ⟨y0, y1, y2, y3, -, -, -, -, -, wy⟩ := wd_open (sx A B C E) (lt4 l3)
  obtain ⟨z0, z1, z2, z3, -, -, -, -, -, wz⟩ := wd_open (sz X A B C E) (lt4 l4)
  have hL2 := (LD.iff wx wa wb wc we).1 hL
  rw [pv_of wy wz]
  rw [pv_of wa wb, wp, wm] at Ke
  rw [pv_of wc we, wq, wn] at Kf
  rw [wn, wp, wr] at K1
  rw [wq, wm, wk] at K2
  rw [wr, wk] at K3 K5
  rw [wy] at K4
  rw [wx, wz] at K7
  generalize wd (ad (s1 A B C E) (s2 A B C E)) = g1 at *
  generalize wd (sb (s1 A B C E) (s2 A B C E)) = g2 at *
  generalize wd (sy A B C E) = g3 at *
  have He := hid (p := _) Ke
  have Hf := hid (p := _) Kf
  have H1 := hid (p := _) K1
  have H2 := hid (p := _) K2
  have H3 := hid (p := _) K3
  have H4 := hid (p := _) K4
  have H5 := hid (p := _) K5
  have H6 := hid (p := _) K6
  have H7 := hid (p := _) K7
  have HL := hid (p := _) (hL2.alloc (.cells #[.int .u64 0, .int .u64 0, .int .u64 0, .int .u64 0, .int .u64 0, .int .u64 0, .int .u64 0, .int .u64 0] 55))
  have hlt := hL2.lt
  obtain ⟨_, _, _, _, _, _, _, _, _, _, _, _, _, _, _, _⟩ := HL.out.low
  clear Ke Kf K1 K2 K3 K4 K5 K6 K7 wx wa wb wc we wp wm wq wn wr wk wy wz hX hA hB hC hE l1 l2 l3 l4 hP hL hL2
  have F0 := hid (p := _) ((Fr.refl [] w).alloc (.cells #[.int .u64 0, .int .u64 0, .int .u64 0, .int .u64 0, .int .u64 0, .int .u64 0, .int .u64 0, .int .u64 0] 55))
  have R0 := hid (p := _) (L8.new w 55 (.int .u64 0) (.int .u64 0) (.int .u64 0) (.int .u64 0) (.int .u64 0) (.int .u64 0) (.int .u64 0) (.int .u64 0))
  go_enter Tryd.func43, Tryd.ntmps43
  go_wp2_with (go_at_call 54; first | (with_reducible refine (He.out _ (hP2.out.fr F0.out)).mono ?_; rintro e V ⟨rfl, hF⟩; have L1 := HL.out.fr hF; have F1 := hid (p := _) (F0.out.trans0 hF); have R1 := hid (p := _) (R0.out.fr hF); have hlt1 := L1.lt; have hw1 := R1.out.all.2.2.2.2.2.2.2.2.2.2.2.2.2.2.2.2.1; obtain ⟨_, _, _, _, _, _, _, _, _, _, _, _, _, _, _, _⟩ := L1.high; have HL1 := hid (p := _) L1; clear hF He L1) | (with_reducible refine (Hf.out _ (hP2.out.fr ((F1.out.alloc _).alloc _))).mono ?_; rintro e V2 ⟨rfl, hF⟩; have L2 := hid (p := _) (((HL1.out.alloc _).alloc _).fr hF); have F2 := hid (p := _) (((F1.out.alloc _).alloc _).trans0 hF); have R2 := hid (p := _) (((R1.out.alloc _).alloc _).fr hF); have P2 := hid (p := _) (((L4.new V 43 _ _ _ _).alloc _).fr hF); have M2 := hid (p := _) ((L4.new1 V _ 43 _ _ _ _).fr hF); clear hF Hf))
  have F3 := hid (p := _) ((F2.out.alloc (.cells #[.int .u64 (q0 : Nat), .int .u64 (q1 : Nat), .int .u64 (q2 : Nat), .int .u64 (q3 : Nat)] 43)).alloc (.cells #[.int .u64 (n0 : Nat), .int .u64 (n1 : Nat), .int .u64 (n2 : Nat), .int .u64 (n3 : Nat)] 43))
  have L3 := hid (p := _) ((L2.out.alloc (.cells #[.int .u64 (q0 : Nat), .int .u64 (q1 : Nat), .int .u64 (q2 : Nat), .int .u64 (q3 : Nat)] 43)).alloc (.cells #[.int .u64 (n0 : Nat), .int .u64 (n1 : Nat), .int .u64 (n2 : Nat), .int .u64 (n3 : Nat)] 43))
  have R3 := hid (p := _) ((R2.out.alloc (.cells #[.int .u64 (q0 : Nat), .int .u64 (q1 : Nat), .int .u64 (q2 : Nat), .int .u64 (q3 : Nat)] 43)).alloc (.cells #[.int .u64 (n0 : Nat), .int .u64 (n1 : Nat), .int .u64 (n2 : Nat), .int .u64 (n3 : Nat)] 43))
  have P3 := (P2.out.alloc (.cells #[.int .u64 (q0 : Nat), .int .u64 (q1 : Nat), .int .u64 (q2 : Nat), .int .u64 (q3 : Nat)] 43)).alloc (.cells #[.int .u64 (n0 : Nat), .int .u64 (n1 : Nat), .int .u64 (n2 : Nat), .int .u64 (n3 : Nat)] 43)
  have M3 := (M2.out.alloc (.cells #[.int .u64 (q0 : Nat), .int .u64 (q1 : Nat), .int .u64 (q2 : Nat), .int .u64 (q3 : Nat)] 43)).alloc (.cells #[.int .u64 (n0 : Nat), .int .u64 (n1 : Nat), .int .u64 (n2 : Nat), .int .u64 (n3 : Nat)] 43)
  have Q3 := (L4.new V2 43 (.int .u64 (q0 : Nat)) (.int .u64 (q1 : Nat)) (.int .u64 (q2 : Nat)) (.int .u64 (q3 : Nat))).alloc (.cells #[.int .u64 (n0 : Nat), .int .u64 (n1 : Nat), .int .u64 (n2 : Nat), .int .u64 (n3 : Nat)] 43)
  have N3 := L4.new1 V2 (.cells #[.int .u64 (q0 : Nat), .int .u64 (q1 : Nat), .int .u64 (q2 : Nat), .int .u64 (q3 : Nat)] 43) 43 (.int .u64 (n0 : Nat)) (.int .u64 (n1 : Nat)) (.int .u64 (n2 : Nat)) (.int .u64 (n3 : Nat))
  generalize (V2.alloc (.cells #[.int .u64 (q0 : Nat), .int .u64 (q1 : Nat), .int .u64 (q2 : Nat), .int .u64 (q3 : Nat)] 43)).alloc (.cells #[.int .u64 (n0 : Nat), .int .u64 (n1 : Nat), .int .u64 (n2 : Nat), .int .u64 (n3 : Nat)] 43) = U at *
  generalize V2.heap.size = ub at *
  generalize V.heap.size = pb at *
  clear F1 F2 HL1 L2 R1 R2 P2 M2 HL F0 R0
  obtain ⟨_, _, _, _, _, _, _, _, hs1, _⟩ := P3.all
  obtain ⟨_, _, _, _, _, _, _, _, hs2, _⟩ := M3.all
  obtain ⟨_, _, _, _, _, _, _, _, hs3, _⟩ := Q3.all
  obtain ⟨_, _, _, _, _, _, _, _, hs4, _⟩ := N3.all
  have HP3 := hid (p := _) P3
  have HM3 := hid (p := _) M3
  have HQ3 := hid (p := _) Q3
  have HN3 := hid (p := _) N3
  clear P3 M3 Q3 N3
  apply wp_region_news [(7, 43, #[.int .u64 0, .int .u64 0, .int .u64 0, .int .u64 0]), (8, 43, #[.int .u64 0, .int .u64 0, .int .u64 0, .int .u64 0])] [_, _, _, _, _, _, _, _] [_, _] (by simp) (by kernel_rfl) (by kernel_rfl) (by kernel_rfl) (by kernel_rfl) (by kernel_rfl) (by kernel_rfl) (news2_ty (by decide)) (news2_run alloc43)
  · intro V0 hV0
    obtain ⟨_, _, _, _, _, _, _, _, _, _⟩ := (HP3.out.fr hV0).all
    obtain ⟨_, _, _, _, _, _, _, _, _, _⟩ := (HM3.out.fr hV0).all
    obtain ⟨_, _, _, _, _, _, _, _, _, _⟩ := (HQ3.out.fr hV0).all
    obtain ⟨_, _, _, _, _, _, _, _, _, _⟩ := (HN3.out.fr hV0).all
    have FV := hid (p := _) (F3.out.trans0 hV0)
    clear hV0
    simp only [List.cons_append, List.nil_append, List.map_cons, List.map_nil, still, isNew, idle, if_true, Bool.false_eq_true, if_false]
    repeat (go_big_quiet_step (first | with_reducible exact Calls.ext_of (H1.out _ (hP2.out.fr (FV.out.ext _))) | with_reducible exact Calls.ext_of (H2.out _ (hP2.out.fr (FV.out.ext _)))))
    exact wpQuiet_nil rfl
  · intro W p hW hb hd
    have Z7 : L4 W (p 7) 43 (.int .u64 0) (.int .u64 0) (.int .u64 0) (.int .u64 0) := (hb (7, 43, #[.int .u64 0, .int .u64 0, .int .u64 0, .int .u64 0]) (by simp)).1
    have Z8 : L4 W (p 8) 43 (.int .u64 0) (.int .u64 0) (.int .u64 0) (.int .u64 0) := (hb (8, 43, #[.int .u64 0, .int .u64 0, .int .u64 0, .int .u64 0]) (by simp)).1
    have g7 : U.heap.size ≤ p 7 := (hb (7, 43, #[.int .u64 0, .int .u64 0, .int .u64 0, .int .u64 0]) (by simp)).2
    have g8 : U.heap.size ≤ p 8 := (hb (8, 43, #[.int .u64 0, .int .u64 0, .int .u64 0, .int .u64 0]) (by simp)).2
    have hne : p 7 ≠ p 8 := hd (7, 43, #[.int .u64 0, .int .u64 0, .int .u64 0, .int .u64 0]) (by simp) (8, 43, #[.int .u64 0, .int .u64 0, .int .u64 0, .int .u64 0]) (by simp) (by decide)
    have FW := hid (p := _) (F3.out.trans0 hW)
    have LW := hid (p := _) (L3.out.fr hW)
    have RW := hid (p := _) (R3.out.fr hW)
    have hUw := F3.out.size
    have hUl := L3.out.lt
    have hUr := lt_of_heap R3.out
    simp only [putAll, Act.put, List.setIfInBounds_toArray, List.set_cons_zero, List.set_cons_succ, tailWp]
    clear hb hd hW HP3 HM3 HQ3 HN3
    generalize p 7 = s7 at *
    generalize p 8 = s8 at *
    have F5 := hid (p := _) ((FW.out.set4 (b := s7) (by omega) (.int .u64 (r0 : Nat)) (.int .u64 (r1 : Nat)) (.int .u64 (r2 : Nat)) (.int .u64 (r3 : Nat))).set4 (b := s8) (by omega) (.int .u64 (k0 : Nat)) (.int .u64 (k1 : Nat)) (.int .u64 (k2 : Nat)) (.int .u64 (k3 : Nat)))
    have L5 := (LW.out.other4 (p := s7) (by omega) (.int .u64 (r0 : Nat)) (.int .u64 (r1 : Nat)) (.int .u64 (r2 : Nat)) (.int .u64 (r3 : Nat))).other4 (p := s8) (by omega) (.int .u64 (k0 : Nat)) (.int .u64 (k1 : Nat)) (.int .u64 (k2 : Nat)) (.int .u64 (k3 : Nat))
    have R5 := hid (p := _) ((RW.out.other4 (p := s7) (by omega) (.int .u64 (r0 : Nat)) (.int .u64 (r1 : Nat)) (.int .u64 (r2 : Nat)) (.int .u64 (r3 : Nat))).other4 (p := s8) (by omega) (.int .u64 (k0 : Nat)) (.int .u64 (k1 : Nat)) (.int .u64 (k2 : Nat)) (.int .u64 (k3 : Nat)))
    have A5 := (Z7.set4 (.int .u64 (r0 : Nat)) (.int .u64 (r1 : Nat)) (.int .u64 (r2 : Nat)) (.int .u64 (r3 : Nat))).other4 (p := s8) hne (.int .u64 (k0 : Nat)) (.int .u64 (k1 : Nat)) (.int .u64 (k2 : Nat)) (.int .u64 (k3 : Nat))
    have B5 := (Z8.other4 (p := s7) (Ne.symm hne) (.int .u64 (r0 : Nat)) (.int .u64 (r1 : Nat)) (.int .u64 (r2 : Nat)) (.int .u64 (r3 : Nat))).set4 (.int .u64 (k0 : Nat)) (.int .u64 (k1 : Nat)) (.int .u64 (k2 : Nat)) (.int .u64 (k3 : Nat))
    obtain ⟨_, _, _, _, _, _, _, _, _, _⟩ := Z7.all
    obtain ⟨_, _, _, _, _, _, _, _, _, _⟩ := Z8.all
    go_simp
    go_wp2_with fail
    clear Z7 Z8 FW LW RW F3 L3 R3
    generalize ((((((((W.setCell ⟨s7, 0, none⟩ (.int .u64 (r0 : Nat))).setCell ⟨s7, 1, none⟩ (.int .u64 (r1 : Nat))).setCell ⟨s7, 2, none⟩ (.int .u64 (r2 : Nat))).setCell ⟨s7, 3, none⟩ (.int .u64 (r3 : Nat))).setCell ⟨s8, 0, none⟩ (.int .u64 (k0 : Nat))).setCell ⟨s8, 1, none⟩ (.int .u64 (k1 : Nat))).setCell ⟨s8, 2, none⟩ (.int .u64 (k2 : Nat))).setCell ⟨s8, 3, none⟩ (.int .u64 (k3 : Nat))) = X at *
    obtain ⟨_, _, _, _, _, _, _, _, _, _⟩ := A5.all
    obtain ⟨_, _, _, _, _, _, _, _, _, _⟩ := B5.all
    obtain ⟨_, _, _, _, _, _, _, _⟩ := L5.xs
    have hl5 := L5.lt
    clear A5 B5 L5
    refine wp_region_tail_ext [_, _, _, _, _, _, _, _, _, _, _, _, _, _] [_] (by simp) (by kernel_rfl) (by kernel_rfl) (by kernel_rfl) (by kernel_rfl) (by kernel_rfl) ?_
    simp only [List.cons_append, List.nil_append, List.map_cons, List.map_nil, idle]
    repeat (go_big_quiet_step (first | with_reducible exact Calls.ext_of (H3.out _ (hP2.out.fr (F5.out.ext _))) | with_reducible exact Calls.ext_of (H4.out _ (hP2.out.fr (F5.out.ext _))) | with_reducible exact Calls.ext_of (H5.out _ (hP2.out.fr (F5.out.ext _))) | with_reducible exact Calls.ext_of (H6.out _ (hP2.out.fr (F5.out.ext _))) | with_reducible exact Calls.ext_of (H7.out _ (hP2.out.fr (F5.out.ext _)))))
    refine wpQuiet_nil ?_
    rintro _ ⟨xr, rfl⟩
    have F6 := hid (p := _) (F5.out.ext xr)
    have R6 := R5.out.fr (ext_fr X xr)
    have R7 := R6.set8 (.int .u64 (y0 : Nat)) (.int .u64 (y1 : Nat)) (.int .u64 (y2 : Nat)) (.int .u64 (y3 : Nat)) (.int .u64 (z0 : Nat)) (.int .u64 (z1 : Nat)) (.int .u64 (z2 : Nat)) (.int .u64 (z3 : Nat))
    obtain ⟨_, _, _, _, _, _, _, _, _, _, _, _, _, _, _, _, _, _⟩ := R6.all
    simp only [tailWp]
    go_simp
    go_wp2
    simp [bodyPost, results, Tryd.results43, go_sem, *]
    exact F6.out.set8 (b' := w.heap.size) (.inr (Nat.le_refl _)) _ _ _ _ _ _ _ _ _ _ _ _ _ _ _ _
end Go.Proofs.YthbkhbfcocbnoaaDoor
