/-
  The document's Root; NumInverts' walk. No statement is proved here.
-/
import Derived.Test.YtjaocjnefopdfaaDoorRootB
import Derived.Test.YtjaocjnefopdfaaDoorNumP
namespace Go.Proofs.YtjaocjnefopdfaaDoor
open Go.RowKit Go.Lib Go.BigFrame
set_option linter.unusedVariables false
set_option linter.unusedSimpArgs false
set_option maxRecDepth 1000000
set_option maxHeartbeats 4000000

theorem rq_hit {a : Nat} {odd : Bool} (h : Nt.rt a * Nt.rt a % Nt.P = a) : rq a odd = rs a odd := by unfold rq; rw [decide_eq_true h, cond_true]
theorem rq_miss {a : Nat} {odd : Bool} (h : Nt.rt a * Nt.rt a % Nt.P ≠ a) : rq a odd = 0 := by unfold rq; rw [decide_eq_false h, cond_false]
theorem ry_miss {a : Nat} {odd : Bool} (h : Nt.rt a * Nt.rt a % Nt.P ≠ a) : ry a odd = false := by unfold ry; rw [decide_eq_false h, Bool.false_and]
theorem ry_hit {a : Nat} {odd : Bool} (h : Nt.rt a * Nt.rt a % Nt.P = a) {x : Nat} (hx : rs a odd = x) : ry a odd = (decide (x % 2 = 1) == odd) := by unfold ry; rw [decide_eq_true h, Bool.true_and, hx]
theorem rs_turn {a : Nat} {odd : Bool} (h : (decide (Nt.rt a % 2 = 1) != odd) = true) : rs a odd = (0 + Nt.P - Nt.rt a) % Nt.P := by unfold rs; rw [h, cond_true]
theorem rs_stay {a : Nat} {odd : Bool} (h : (decide (Nt.rt a % 2 = 1) != odd) = false) : rs a odd = Nt.rt a := by unfold rs; rw [h, cond_false]
theorem rroot_any (a : Nat) (ha : a < Nt.P) (odd : Bool) (w : World) : Calls Tryd.prog 26 #[nd a, .bool odd] w fun e w' => e = .returned (.tuple #[nd (rq a odd), .bool (ry a odd)]) ∧ Fr [] w w' := by
  have K := fun W => rpower_any a ha tRt (by decide) W
  rw [px_rt] at K
  have K1 : ∀ W : World, Calls Tryd.prog 50 #[nd a, .int .i64 250, .string ⟨#[49, 48]⟩] W fun e w' => e = .returned (nd (Nt.c1 a)) ∧ Fr [] W w' := K
  have cP := c1_ltP a
  have rP := rt_ltP a
  have nP : (0 + Nt.P - Nt.rt a) % Nt.P < Nt.P := Nat.mod_lt _ P_pos
  by_cases h1 : Nt.c1 a * Nt.c1 a % Nt.P = a
  · have hc : Nt.rt a = Nt.c1 a := by unfold Nt.rt; rw [if_pos h1]
    have hr : Nt.rt a * Nt.rt a % Nt.P = a := by rw [hc]; exact h1
    rw [rq_hit hr]
    rcases Nat.mod_two_eq_zero_or_one (Nt.rt a) with hp | hp
    · cases odd
      · have e := rs_stay (a := a) (odd := false) (by rw [decide_eq_false (by omega)]; rfl)
        rw [ry_hit hr e, e, decide_eq_false (by omega)]
        exact root_A_0_f a _ _ 0 ha cP rP P_pos K1 hc hr hp w
      · have e := rs_turn (a := a) (odd := true) (by rw [decide_eq_false (by omega)]; rfl)
        rw [ry_hit hr e, e]
        rcases Nat.mod_two_eq_zero_or_one ((0 + Nt.P - Nt.rt a) % Nt.P) with hm | hm
        · rw [decide_eq_false (by omega)]
          exact root_A_0_t_0 a _ _ _ ha cP rP nP K1 hc hr hp rfl hm w
        · rw [decide_eq_true hm]
          exact root_A_0_t_1 a _ _ _ ha cP rP nP K1 hc hr hp rfl hm w
    · cases odd
      · have e := rs_turn (a := a) (odd := false) (by rw [decide_eq_true hp]; rfl)
        rw [ry_hit hr e, e]
        rcases Nat.mod_two_eq_zero_or_one ((0 + Nt.P - Nt.rt a) % Nt.P) with hm | hm
        · rw [decide_eq_false (by omega)]
          exact root_A_1_f_0 a _ _ _ ha cP rP nP K1 hc hr hp rfl hm w
        · rw [decide_eq_true hm]
          exact root_A_1_f_1 a _ _ _ ha cP rP nP K1 hc hr hp rfl hm w
      · have e := rs_stay (a := a) (odd := true) (by rw [decide_eq_true hp]; rfl)
        rw [ry_hit hr e, e, decide_eq_true hp]
        exact root_A_1_t a _ _ 0 ha cP rP P_pos K1 hc hr hp w
  · have hI : Nt.c1 a * Nt.I % Nt.P = Nt.rt a := by unfold Nt.rt; rw [if_neg h1]
    by_cases hr : Nt.rt a * Nt.rt a % Nt.P = a
    · rw [rq_hit hr]
      rcases Nat.mod_two_eq_zero_or_one (Nt.rt a) with hp | hp
      · cases odd
        · have e := rs_stay (a := a) (odd := false) (by rw [decide_eq_false (by omega)]; rfl)
          rw [ry_hit hr e, e, decide_eq_false (by omega)]
          exact root_B_0_f a _ _ 0 ha cP rP P_pos K1 h1 hI hr hp w
        · have e := rs_turn (a := a) (odd := true) (by rw [decide_eq_false (by omega)]; rfl)
          rw [ry_hit hr e, e]
          rcases Nat.mod_two_eq_zero_or_one ((0 + Nt.P - Nt.rt a) % Nt.P) with hm | hm
          · rw [decide_eq_false (by omega)]
            exact root_B_0_t_0 a _ _ _ ha cP rP nP K1 h1 hI hr hp rfl hm w
          · rw [decide_eq_true hm]
            exact root_B_0_t_1 a _ _ _ ha cP rP nP K1 h1 hI hr hp rfl hm w
      · cases odd
        · have e := rs_turn (a := a) (odd := false) (by rw [decide_eq_true hp]; rfl)
          rw [ry_hit hr e, e]
          rcases Nat.mod_two_eq_zero_or_one ((0 + Nt.P - Nt.rt a) % Nt.P) with hm | hm
          · rw [decide_eq_false (by omega)]
            exact root_B_1_f_0 a _ _ _ ha cP rP nP K1 h1 hI hr hp rfl hm w
          · rw [decide_eq_true hm]
            exact root_B_1_f_1 a _ _ _ ha cP rP nP K1 h1 hI hr hp rfl hm w
        · have e := rs_stay (a := a) (odd := true) (by rw [decide_eq_true hp]; rfl)
          rw [ry_hit hr e, e, decide_eq_true hp]
          exact root_B_1_t a _ _ 0 ha cP rP P_pos K1 h1 hI hr hp w
    · rw [rq_miss hr, ry_miss hr]
      exact root_C a _ _ 0 ha cP rP P_pos K1 h1 hI hr odd w

theorem inverts_no (s : ByteArray) (hs : s.size ≠ 32) (odd : Bool) (w : World) (hP : PV w) : Calls Tryd.prog 5 #[.string s, .bool odd] w fun e w' => e = .returned (.bool true) ∧ Fr [] w w' := by
  have hP2 := hid (p := _) hP
  have K1 := fun W => of_no s hs W
  have K10 := fun W (h : PV W) => alive_any W h
  rw [← wd_0] at K1
  have H1 := hid (p := _) K1
  have H10 := hid (p := _) K10
  clear K1 K10 hs hP
  have F0 := hid (p := _) (Fr.refl [] w)
  go_enter Tryd.func5, Tryd.ntmps5
  go_wp2_with (first | (go_at_call 9; with_reducible refine (H1.out _).mono ?_; rintro e V1 ⟨rfl, hF⟩; have F1 := hid (p := _) (F0.out.trans0 hF); clear hF) | (go_at_call 8; with_reducible refine (H10.out _ (hP2.out.fr (F1.out.alloc _))).mono ?_; rintro e V2 ⟨rfl, hF⟩; have F2 := hid (p := _) ((F1.out.alloc _).trans0 hF); clear hF))
  go_ret
  exact ⟨rfl, F2.out⟩
theorem inverts_yes (s : ByteArray) (hs : s.size = 32) (odd : Bool) (w : World) (hP : PV w) : Calls Tryd.prog 5 #[.string s, .bool odd] w fun e w' => e = .returned (.bool true) ∧ Fr [] w w' := by
  have hP2 := hid (p := _) hP
  have aP := of_ltP s
  have K1 := fun W (h : PV W) => of_yes s hs W h
  have K2 := fun W => rof_any s hs W
  generalize of s = a at *
  have K3 := fun W (h : PV W) => root_any a odd aP W h
  have K4 := fun W => rroot_any a aP odd W
  rw [← rq_ro a aP odd, ← ry_ok] at K4
  have K5 := fun W (h : PV W) => inv_any a aP W h
  have K6 := fun W => rinv_any a aP W
  have K7 := fun W => is_yes (iv a) (lt4 (iv_ltP a)) W
  have K8 := fun W => is_yes (ro a odd) (lt4 (ro_ltP a odd)) W
  have K9 := fun W (h : PV W) => alive_any W h
  generalize ok a odd = q at *
  have rP := ro_ltP a odd
  generalize ro a odd = r at *
  obtain ⟨c0, c1, c2, c3, -, -, -, -, -, wc'⟩ := wd_open a (lt4 aP)
  obtain ⟨a0, a1, a2, a3, a4, a5, a6, a7, a8, ea, wa⟩ := nd_open a
  obtain ⟨d0, d1, d2, d3, -, -, -, -, -, wd'⟩ := wd_open r (lt4 rP)
  obtain ⟨r0, r1, r2, r3, r4, r5, r6, r7, r8, er, wr⟩ := nd_open r
  generalize wd (iv a) = x1 at *
  generalize nd (iv a) = y1 at *
  rw [wc'] at K1 K3 K5
  rw [wa] at K2 K4 K6
  rw [wd'] at K3 K8
  rw [wr] at K4 K8
  have H1 := hid (p := _) K1
  have H2 := hid (p := _) K2
  have H3 := hid (p := _) K3
  have H4 := hid (p := _) K4
  have H5 := hid (p := _) K5
  have H6 := hid (p := _) K6
  have H7 := hid (p := _) K7
  have H8 := hid (p := _) K8
  have H9 := hid (p := _) K9
  clear K1 K2 K3 K4 K5 K6 K7 K8 K9 wc' wa wd' wr ea er aP rP hs hP
  have F0 := hid (p := _) (Fr.refl [] w)
  go_enter Tryd.func5, Tryd.ntmps5
  go_wp2_with (first | (go_at_call 9; with_reducible refine (H1.out _ hP2.out).mono ?_; rintro e V1 ⟨rfl, hF⟩; have F1 := hid (p := _) (F0.out.trans0 hF); clear hF) | (go_at_call 16; with_reducible refine (H2.out _).mono ?_; rintro e V2 ⟨rfl, hF⟩; have F2 := hid (p := _) ((F1.out.alloc _).trans0 hF); have A2 := (L4.new V1 28 _ _ _ _).fr hF; obtain ⟨_, _, _, _, _, _, _, _, _, _⟩ := A2.all; have HA2 := hid (p := _) A2; clear hF A2) | (go_at_call 25; with_reducible refine (H3.out _ (hP2.out.fr (F2.out.alloc _))).mono ?_; rintro e V3 ⟨rfl, hF⟩; have F3 := hid (p := _) ((F2.out.alloc _).trans0 hF); have A3 := hid (p := _) ((HA2.out.alloc _).fr hF); have B3 := (RW.of9 (t := 36) (heap_new0 V2 _)).fr hF; obtain ⟨_, _, _, _, _, _, _, _, _, _, _, _, _, _, _, _, _, _, _, _⟩ := B3.all; have HB3 := hid (p := _) B3; clear hF B3) | (go_at_call 26; with_reducible refine (H4.out _).mono ?_; rintro e V4 ⟨rfl, hF⟩; have F4 := hid (p := _) ((F3.out.alloc _).trans0 hF); have A4 := hid (p := _) ((A3.out.alloc _).fr hF); have B4 := hid (p := _) ((HB3.out.alloc _).fr hF); have C4 := hid (p := _) ((L4.new V3 28 _ _ _ _).fr hF); clear hF))
  have G := F4.out.alloc (.cells #[.int .u64 (r0 : Nat), .int .u64 (r1 : Nat), .int .u64 (r2 : Nat), .int .u64 (r3 : Nat), .int .u64 (r4 : Nat), .int .u64 (r5 : Nat), .int .u64 (r6 : Nat), .int .u64 (r7 : Nat), .int .u64 (r8 : Nat)] 36)
  have A5 := A4.out.alloc (.cells #[.int .u64 (r0 : Nat), .int .u64 (r1 : Nat), .int .u64 (r2 : Nat), .int .u64 (r3 : Nat), .int .u64 (r4 : Nat), .int .u64 (r5 : Nat), .int .u64 (r6 : Nat), .int .u64 (r7 : Nat), .int .u64 (r8 : Nat)] 36)
  have B5 := B4.out.alloc (.cells #[.int .u64 (r0 : Nat), .int .u64 (r1 : Nat), .int .u64 (r2 : Nat), .int .u64 (r3 : Nat), .int .u64 (r4 : Nat), .int .u64 (r5 : Nat), .int .u64 (r6 : Nat), .int .u64 (r7 : Nat), .int .u64 (r8 : Nat)] 36)
  have C5 := C4.out.alloc (.cells #[.int .u64 (r0 : Nat), .int .u64 (r1 : Nat), .int .u64 (r2 : Nat), .int .u64 (r3 : Nat), .int .u64 (r4 : Nat), .int .u64 (r5 : Nat), .int .u64 (r6 : Nat), .int .u64 (r7 : Nat), .int .u64 (r8 : Nat)] 36)
  have D5 := RW.of9 (t := 36) (heap_new0 V4 (.cells #[.int .u64 (r0 : Nat), .int .u64 (r1 : Nat), .int .u64 (r2 : Nat), .int .u64 (r3 : Nat), .int .u64 (r4 : Nat), .int .u64 (r5 : Nat), .int .u64 (r6 : Nat), .int .u64 (r7 : Nat), .int .u64 (r8 : Nat)] 36))
  generalize V4.alloc (.cells #[.int .u64 (r0 : Nat), .int .u64 (r1 : Nat), .int .u64 (r2 : Nat), .int .u64 (r3 : Nat), .int .u64 (r4 : Nat), .int .u64 (r5 : Nat), .int .u64 (r6 : Nat), .int .u64 (r7 : Nat), .int .u64 (r8 : Nat)] 36) = U at *
  generalize V4.heap.size = db at *
  generalize V3.heap.size = cb at *
  generalize V2.heap.size = bb at *
  generalize V1.heap.size = ab at *
  have HG := hid (p := _) G
  obtain ⟨_, _, _, _, _, _, _, _, _, _⟩ := A5.all
  obtain ⟨_, _, _, _, _, _, _, _, _, _, _, _, _, _, _, _, _, _, _, _⟩ := B5.all
  obtain ⟨_, _, _, _, _, _, _, _, _, _⟩ := C5.all
  obtain ⟨_, _, _, _, _, _, _, _, _, _, _, _, _, _, _, _, _, _, _, _⟩ := D5.all
  clear G A5 B5 C5 D5 F1 F2 F3 F4 HA2 A3 A4 HB3 B4 C4
  cases q
  all_goals
    refine wp_region_ext (by kernel_rfl) (by kernel_rfl) ?_
    repeat (go_big_quiet_step (first | with_reducible exact Calls.ext_of (H5.out _ (hP2.out.fr (HG.out.ext _))) | with_reducible exact Calls.ext_of (H6.out _) | with_reducible exact Calls.ext_of (H7.out _) | with_reducible exact Calls.ext_of (H8.out _) | with_reducible exact Calls.ext_of (H9.out _ (hP2.out.fr (HG.out.ext _)))))
    refine wpQuiet_nil ?_
    rintro _ ⟨xq, rfl⟩
    go_wp2
    go_ret
    exact ⟨rfl, HG.out.ext xq⟩
theorem inverts_any (s : ByteArray) (odd : Bool) (w : World) (hP : PV w) : Calls Tryd.prog 5 #[.string s, .bool odd] w fun e w' => e = .returned (.bool true) ∧ Fr [] w w' := by
  by_cases h : s.size = 32
  · exact inverts_yes s h odd w hP
  · exact inverts_no s h odd w hP
end Go.Proofs.YtjaocjnefopdfaaDoor

