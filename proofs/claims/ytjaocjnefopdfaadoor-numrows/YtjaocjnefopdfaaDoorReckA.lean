/-
  NumReckons: its walk. No statement is proved here.
-/
import Derived.Test.YtjaocjnefopdfaaDoorReadA
import Derived.ChangeKeysEq
namespace Go.Proofs.YtjaocjnefopdfaaDoor
open Go.RowKit Go.Lib Go.BigFrame
set_option linter.unusedVariables false
set_option linter.unusedSimpArgs false
set_option maxRecDepth 1000000
set_option maxHeartbeats 4000000

theorem eqItems9 (w : World) (xs ys : List Nat) : ∀ is : List Nat, (∀ i ∈ is, i < xs.length ∧ i < ys.length) → (Op.eqItems 9999 24 1 (wc xs) (wc ys) is).run Tryd.prog w = .ok (is.all fun i => decide (xs.getD i 0 = ys.getD i 0)) w
  | [], _ => by simp [Op.eqItems]
  | i :: is, h => by
    obtain ⟨h1, h2⟩ := h i (by simp)
    have ih := eqItems9 w xs ys is (fun j hj => h j (by simp [hj]))
    have hp : Tryd.prog.plainKey 24 = true := by kernel_rfl
    have p1 := run_part_plain (P := Tryd.prog) w hp (xs := wc xs) (off := i * 1) (v := .int .u64 ((xs.getD i 0 : Nat) : Int)) (by simp [wc, h1])
    have p2 := run_part_plain (P := Tryd.prog) w hp (xs := wc ys) (off := i * 1) (v := .int .u64 ((ys.getD i 0 : Nat) : Int)) (by simp [wc, h2])
    have p3 := run_equalIn_int (P := Tryd.prog) w 9998 24 .u64 .u64 ((xs.getD i 0 : Nat) : Int) ((ys.getD i 0 : Nat) : Int) Tryd.underlying24
    simp only [Op.eqItems, Sem.run_bind, p1, p2, p3, Result.andThen_ok, List.all_cons]
    by_cases he : xs.getD i 0 = ys.getD i 0
    · simp only [he, beq_self_eq_true, Bool.not_true, decide_true, Bool.true_and, Bool.false_eq_true, if_false]
      exact ih
    · have hn : (((xs.getD i 0 : Nat) : Int) == ((ys.getD i 0 : Nat) : Int)) = false := by rw [beq_eq_false_iff_ne]; omega
      simp only [hn, he, Bool.not_false, decide_false, Bool.false_and, if_true, Sem.run_pure]
theorem all_get (xs ys : List Nat) (h : xs.length = ys.length) : (List.range xs.length).all (fun i => decide (xs.getD i 0 = ys.getD i 0)) = decide (xs = ys) := by
  rw [Bool.eq_iff_iff, List.all_eq_true]
  simp only [decide_eq_true_eq, List.mem_range]
  constructor
  · intro hi
    apply List.ext_getElem h
    intro i h1 h2
    have := hi i h1
    simpa [h1, h2] using this
  · rintro rfl _ _; rfl
theorem eql_nd (xs ys : List Nat) (hx : xs.length = 9) (hy : ys.length = 9) (w : World) : (Op.equalIn 10000 36 (.agg (wc xs)) (.agg (wc ys))).run Tryd.prog w = .ok (decide (xs = ys)) w := by
  obtain ⟨i, hi, -, -, -⟩ : ∃ i, Tryd.prog.info? 24 = some i ∧ i.zero = some (.int .u64 0) ∧ i.size = 1 ∧ i.bytes = 8 := infoOf (by kernel_rfl)
  have hc : Tryd.prog.cellsOf 24 = 1 := by kernel_rfl
  rw [run_equalIn_array (P := Tryd.prog) w 9999 (t := 36) (e := 24) (n := 9) _ _ Tryd.underlying36 hi, hc, eqItems9 w xs ys _ (fun j hj => by simp at hj; omega), ← hx, all_get xs ys (by omega)]
theorem prod_K19 {A B : Nat} (hA : A < 115792089237316195423570985008687907853269984665640564039457584007913129639936) (hB : B < 115792089237316195423570985008687907853269984665640564039457584007913129639936) : A * B < 3864537523017258344695351890931987344298927329706434998657235251451519142289560424536193766581922577962463616031502177177365078661042987655742908673467080748696980814823424 := by
  have h := Nat.mul_le_mul (Nat.le_of_lt hA) (Nat.le_of_lt hB)
  exact Nat.lt_of_le_of_lt h (by decide)
theorem big_lt {A : Nat} (h : A < Nt.P) : A / 2 ^ (30 * 9) = 0 := big_of (Nat.le_of_lt h)
theorem mod_lt4 (x : Nat) : x % Nt.P < 115792089237316195423570985008687907853269984665640564039457584007913129639936 := lt4 (Nat.mod_lt _ P_pos)
theorem sel_no (A B : Nat) (hA : A < 115792089237316195423570985008687907853269984665640564039457584007913129639936) (hB : B < 115792089237316195423570985008687907853269984665640564039457584007913129639936) (w : World) : Calls Tryd.prog 24 #[.bool false, wd A, wd B] w fun e w' => e = .returned (wd A) ∧ Fr [] w w' := select_any false A B hA hB w
theorem sel_yes (A B : Nat) (hA : A < 115792089237316195423570985008687907853269984665640564039457584007913129639936) (hB : B < 115792089237316195423570985008687907853269984665640564039457584007913129639936) (w : World) : Calls Tryd.prog 24 #[.bool true, wd A, wd B] w fun e w' => e = .returned (wd B) ∧ Fr [] w w' := select_any true A B hA hB w
theorem reck_no (s t : ByteArray) (h : s.size ≠ 32 ∨ t.size ≠ 32) (b : Bool) (w : World) (hP : PV w) : Calls Tryd.prog 4 #[.string s, .string t, .bool b] w fun e w' => e = .returned (.bool true) ∧ Fr [] w w' := by
  have hP2 := hid (p := _) hP
  have K3 := hid (p := _) (fun W (h : PV W) => alive_any W h)
  obtain ⟨c0, c1, c2, c3, e1, K1, he1⟩ : ∃ (c0 c1 c2 c3 : Nat) (e1 : Int), (∀ W, PV W → Calls Tryd.prog 9 #[.string s] W fun e w' => e = .returned (.tuple #[.agg #[.int .u64 (c0 : Nat), .int .u64 (c1 : Nat), .int .u64 (c2 : Nat), .int .u64 (c3 : Nat)], .int .i64 e1]) ∧ Fr [] W w') ∧ (e1 = 0 ∧ s.size = 32 ∨ e1 = 2) := by
    by_cases hs : s.size = 32
    · obtain ⟨z0, z1, z2, z3, -, -, -, -, -, wz⟩ := wd_open (of s) (lt4 (of_ltP s))
      have K := fun W (hW : PV W) => of_yes s hs W hW
      rw [wz] at K
      exact ⟨z0, z1, z2, z3, 0, K, .inl ⟨rfl, hs⟩⟩
    · have K := fun W (hW : PV W) => of_no s hs W
      rw [← wd_0] at K
      exact ⟨0, 0, 0, 0, 2, K, .inr rfl⟩
  obtain ⟨d0, d1, d2, d3, e2, K2, he2⟩ : ∃ (c0 c1 c2 c3 : Nat) (e1 : Int), (∀ W, PV W → Calls Tryd.prog 9 #[.string t] W fun e w' => e = .returned (.tuple #[.agg #[.int .u64 (c0 : Nat), .int .u64 (c1 : Nat), .int .u64 (c2 : Nat), .int .u64 (c3 : Nat)], .int .i64 e1]) ∧ Fr [] W w') ∧ (e1 = 0 ∧ t.size = 32 ∨ e1 = 2) := by
    by_cases hs : t.size = 32
    · obtain ⟨z0, z1, z2, z3, -, -, -, -, -, wz⟩ := wd_open (of t) (lt4 (of_ltP t))
      have K := fun W (hW : PV W) => of_yes t hs W hW
      rw [wz] at K
      exact ⟨z0, z1, z2, z3, 0, K, .inl ⟨rfl, hs⟩⟩
    · have K := fun W (hW : PV W) => of_no t hs W
      rw [← wd_0] at K
      exact ⟨0, 0, 0, 0, 2, K, .inr rfl⟩
  have H1 := hid (p := _) K1
  have H2 := hid (p := _) K2
  clear K1 K2 hP
  have F0 := hid (p := _) (Fr.refl [] w)
  rcases he1 with ⟨rfl, h1⟩ | rfl
  · rcases he2 with ⟨rfl, h2⟩ | rfl
    · exact absurd h (by simp [h1, h2])
    · clear h h1
      go_enter Tryd.func4, Tryd.ntmps4
      go_wp2_with (first | (go_at_call 9; first | (with_reducible refine (H1.out _ (by with_reducible exact hP2.out)).mono ?_; rintro e V1 ⟨rfl, hF⟩; have F1 := hid (p := _) (F0.out.trans0 hF); clear hF H1) | (with_reducible refine (H2.out _ (hP2.out.fr (F1.out.alloc _))).mono ?_; rintro e V2 ⟨rfl, hF⟩; have F2 := hid (p := _) ((F1.out.alloc _).trans0 hF); clear hF)) | (go_at_call 8; with_reducible refine (K3.out _ (hP2.out.fr (F2.out.alloc _))).mono ?_; rintro e V3 ⟨rfl, hF⟩; have F3 := hid (p := _) ((F2.out.alloc _).trans0 hF); clear hF))
      go_ret
      exact ⟨rfl, F3.out⟩
  · clear h he2
    go_enter Tryd.func4, Tryd.ntmps4
    go_wp2_with (first | (go_at_call 9; first | (with_reducible refine (H1.out _ (by with_reducible exact hP2.out)).mono ?_; rintro e V1 ⟨rfl, hF⟩; have F1 := hid (p := _) (F0.out.trans0 hF); clear hF H1) | (with_reducible refine (H2.out _ (hP2.out.fr (F1.out.alloc _))).mono ?_; rintro e V2 ⟨rfl, hF⟩; have F2 := hid (p := _) ((F1.out.alloc _).trans0 hF); clear hF)) | (go_at_call 8; with_reducible refine (K3.out _ (hP2.out.fr (F2.out.alloc _))).mono ?_; rintro e V3 ⟨rfl, hF⟩; have F3 := hid (p := _) ((F2.out.alloc _).trans0 hF); clear hF))
    go_ret
    exact ⟨rfl, F3.out⟩

theorem reck_yes (s t : ByteArray) (hs : s.size = 32) (ht : t.size = 32) (b : Bool) (w : World) (hP : PV w) : Calls Tryd.prog 4 #[.string s, .string t, .bool b] w fun e w' => e = .returned (.bool true) ∧ Fr [] w w' := by
  have hP2 := hid (p := _) hP
  have hA := of_ltP s
  have hB := of_ltP t
  have K1 := fun W (h : PV W) => of_yes s hs W h
  have K2 := fun W (h : PV W) => of_yes t ht W h
  have K3 := fun W => rof_any s hs W
  have K4 := fun W => rof_any t ht W
  generalize of s = A at *
  generalize of t = B at *
  have Ka := fun W (h : PV W) => add_any A B hA hB W h
  have Kra := fun W => radd_any A B (big_lt hA) (big_lt hB) (sum_K19 (Nat.le_of_lt hA) (Nat.le_of_lt hB)) W
  have Kia := fun W => is_yes ((A + B) % Nt.P) (mod_lt4 _) W
  have Ks := fun W (h : PV W) => sub_any A B hA hB W h
  have Krs := fun W => rsub_any A B hA hB W
  have Kis := fun W => is_yes ((A + Nt.P - B) % Nt.P) (mod_lt4 _) W
  have Km := fun W (h : PV W) => mul_any A B (lt4 hA) (lt4 hB) W h
  have Krm := fun W => rmul_any A B (big_lt hA) (big_lt hB) (prod_K19 (lt4 hA) (lt4 hB)) W
  have Kim := fun W => is_yes (A * B % Nt.P) (mod_lt4 _) W
  have Ke := fun W => same_any A B (lt4 hA) (lt4 hB) W
  have Kl0 := fun W => sel_no A B (lt4 hA) (lt4 hB) W
  have Kl1 := fun W => sel_yes A B (lt4 hA) (lt4 hB) W
  have KiA := fun W => is_yes A (lt4 hA) W
  have KiB := fun W => is_yes B (lt4 hB) W
  have Kv := fun W (h : PV W) => alive_any W h
  obtain ⟨c0, c1, c2, c3, -, -, -, -, -, wc⟩ := wd_open A (lt4 hA)
  obtain ⟨d0, d1, d2, d3, -, -, -, -, -, wd'⟩ := wd_open B (lt4 hB)
  obtain ⟨a0, a1, a2, a3, a4, a5, a6, a7, a8, ea, wa⟩ := nd_open A
  obtain ⟨b0, b1, b2, b3, b4, b5, b6, b7, b8, eb, wb⟩ := nd_open B
  generalize wd ((A + B) % Nt.P) = x1 at *
  generalize nd ((A + B) % Nt.P) = y1 at *
  generalize wd ((A + Nt.P - B) % Nt.P) = x2 at *
  generalize nd ((A + Nt.P - B) % Nt.P) = y2 at *
  generalize wd (A * B % Nt.P) = x3 at *
  generalize nd (A * B % Nt.P) = y3 at *
  have hab : decide (A = B) = decide (dts A = dts B) := by
    have : A = B ↔ dts A = dts B := ⟨fun h => by rw [h], fun h => by rw [← vl_dts (big_lt hA), ← vl_dts (big_lt hB), h]⟩
    simp [this]
  have hEq := fun W => eql_nd (dts A) (dts B) (dts_len A) (dts_len B) W
  rw [ea, eb] at hab hEq
  rw [hab] at Ke
  clear hab
  generalize decide ([a0, a1, a2, a3, a4, a5, a6, a7, a8] = [b0, b1, b2, b3, b4, b5, b6, b7, b8]) = r at *
  have hEq : ∀ W : World, (Op.equalIn 10000 36 (.agg #[.int .u64 (a0 : Nat), .int .u64 (a1 : Nat), .int .u64 (a2 : Nat), .int .u64 (a3 : Nat), .int .u64 (a4 : Nat), .int .u64 (a5 : Nat), .int .u64 (a6 : Nat), .int .u64 (a7 : Nat), .int .u64 (a8 : Nat)]) (.agg #[.int .u64 (b0 : Nat), .int .u64 (b1 : Nat), .int .u64 (b2 : Nat), .int .u64 (b3 : Nat), .int .u64 (b4 : Nat), .int .u64 (b5 : Nat), .int .u64 (b6 : Nat), .int .u64 (b7 : Nat), .int .u64 (b8 : Nat)])).run Tryd.prog W = .ok r W := hEq
  rw [wc] at K1 Ka Ks Km Ke Kl0 Kl1 KiA
  rw [wd'] at K2 Ka Ks Km Ke Kl0 Kl1 KiB
  rw [wa] at K3 Kra Krs Krm KiA
  rw [wb] at K4 Kra Krs Krm KiB
  have H1 := hid (p := _) K1
  have H2 := hid (p := _) K2
  have H3 := hid (p := _) K3
  have H4 := hid (p := _) K4
  have Ha := hid (p := _) Ka
  have Hra := hid (p := _) Kra
  have Hia := hid (p := _) Kia
  have Hs := hid (p := _) Ks
  have Hrs := hid (p := _) Krs
  have His := hid (p := _) Kis
  have Hm := hid (p := _) Km
  have Hrm := hid (p := _) Krm
  have Him := hid (p := _) Kim
  have He := hid (p := _) Ke
  have Hv := hid (p := _) Kv
  have F0 := hid (p := _) (Fr.refl [] w)
  cases b
  · have Hl := hid (p := _) Kl0
    have Hi := hid (p := _) KiA
    clear K1 K2 K3 K4 Ka Kra Kia Ks Krs Kis Km Krm Kim Ke Kl0 Kl1 KiA KiB Kv wc wd' wa wb ea eb hA hB hP hs ht
    go_enter Tryd.func4, Tryd.ntmps4
    go_wp2_with (first | (go_at_call 9; first | (with_reducible refine (H1.out _ (by with_reducible exact hP2.out)).mono ?_; rintro e V1 ⟨rfl, hF⟩; have F1 := hid (p := _) (F0.out.trans0 hF); clear hF H1) | (with_reducible refine (H2.out _ (hP2.out.fr (F1.out.alloc _))).mono ?_; rintro e V2 ⟨rfl, hF⟩; have F2 := hid (p := _) ((F1.out.alloc _).trans0 hF); have A2 := hid (p := _) ((L4.new V1 28 _ _ _ _).fr hF); clear hF)) | (go_at_call 16; first | (with_reducible refine (H3.out _).mono ?_; rintro e V3 ⟨rfl, hF⟩; have F3 := hid (p := _) ((F2.out.alloc _).trans0 hF); have A3 := hid (p := _) ((A2.out.alloc _).fr hF); have B3 := hid (p := _) ((L4.new V2 28 _ _ _ _).fr hF); clear hF H3) | (with_reducible refine (H4.out _).mono ?_; rintro e V4 ⟨rfl, hF⟩; have F4 := hid (p := _) ((F3.out.alloc _).trans0 hF); have A4 := hid (p := _) ((A3.out.alloc _).fr hF); have B4 := hid (p := _) ((B3.out.alloc _).fr hF); have C4 := ((RW.of9 (t := 36) (heap_new0 V3 _)).fr hF); obtain ⟨_, _, _, _, _, _, _, _, _, _, _, _, _, _, _, _, _, _, _, _⟩ := C4.all; clear hF)))
    have G := F4.out.alloc (.cells #[.int .u64 (b0 : Nat), .int .u64 (b1 : Nat), .int .u64 (b2 : Nat), .int .u64 (b3 : Nat), .int .u64 (b4 : Nat), .int .u64 (b5 : Nat), .int .u64 (b6 : Nat), .int .u64 (b7 : Nat), .int .u64 (b8 : Nat)] 36) |>.alloc (.cells #[.int .u64 (a0 : Nat), .int .u64 (a1 : Nat), .int .u64 (a2 : Nat), .int .u64 (a3 : Nat), .int .u64 (a4 : Nat), .int .u64 (a5 : Nat), .int .u64 (a6 : Nat), .int .u64 (a7 : Nat), .int .u64 (a8 : Nat)] 36)
    have A8 := (A4.out.alloc (.cells #[.int .u64 (b0 : Nat), .int .u64 (b1 : Nat), .int .u64 (b2 : Nat), .int .u64 (b3 : Nat), .int .u64 (b4 : Nat), .int .u64 (b5 : Nat), .int .u64 (b6 : Nat), .int .u64 (b7 : Nat), .int .u64 (b8 : Nat)] 36)).alloc (.cells #[.int .u64 (a0 : Nat), .int .u64 (a1 : Nat), .int .u64 (a2 : Nat), .int .u64 (a3 : Nat), .int .u64 (a4 : Nat), .int .u64 (a5 : Nat), .int .u64 (a6 : Nat), .int .u64 (a7 : Nat), .int .u64 (a8 : Nat)] 36)
    have B8 := (B4.out.alloc (.cells #[.int .u64 (b0 : Nat), .int .u64 (b1 : Nat), .int .u64 (b2 : Nat), .int .u64 (b3 : Nat), .int .u64 (b4 : Nat), .int .u64 (b5 : Nat), .int .u64 (b6 : Nat), .int .u64 (b7 : Nat), .int .u64 (b8 : Nat)] 36)).alloc (.cells #[.int .u64 (a0 : Nat), .int .u64 (a1 : Nat), .int .u64 (a2 : Nat), .int .u64 (a3 : Nat), .int .u64 (a4 : Nat), .int .u64 (a5 : Nat), .int .u64 (a6 : Nat), .int .u64 (a7 : Nat), .int .u64 (a8 : Nat)] 36)
    have C8 := (C4.alloc (.cells #[.int .u64 (b0 : Nat), .int .u64 (b1 : Nat), .int .u64 (b2 : Nat), .int .u64 (b3 : Nat), .int .u64 (b4 : Nat), .int .u64 (b5 : Nat), .int .u64 (b6 : Nat), .int .u64 (b7 : Nat), .int .u64 (b8 : Nat)] 36)).alloc (.cells #[.int .u64 (a0 : Nat), .int .u64 (a1 : Nat), .int .u64 (a2 : Nat), .int .u64 (a3 : Nat), .int .u64 (a4 : Nat), .int .u64 (a5 : Nat), .int .u64 (a6 : Nat), .int .u64 (a7 : Nat), .int .u64 (a8 : Nat)] 36)
    have D8 := (RW.of9 (t := 36) (heap_new0 V4 (.cells #[.int .u64 (b0 : Nat), .int .u64 (b1 : Nat), .int .u64 (b2 : Nat), .int .u64 (b3 : Nat), .int .u64 (b4 : Nat), .int .u64 (b5 : Nat), .int .u64 (b6 : Nat), .int .u64 (b7 : Nat), .int .u64 (b8 : Nat)] 36))).alloc (.cells #[.int .u64 (a0 : Nat), .int .u64 (a1 : Nat), .int .u64 (a2 : Nat), .int .u64 (a3 : Nat), .int .u64 (a4 : Nat), .int .u64 (a5 : Nat), .int .u64 (a6 : Nat), .int .u64 (a7 : Nat), .int .u64 (a8 : Nat)] 36)
    have E8 := RW.of9 (t := 36) (heap_new1 V4 (.cells #[.int .u64 (b0 : Nat), .int .u64 (b1 : Nat), .int .u64 (b2 : Nat), .int .u64 (b3 : Nat), .int .u64 (b4 : Nat), .int .u64 (b5 : Nat), .int .u64 (b6 : Nat), .int .u64 (b7 : Nat), .int .u64 (b8 : Nat)] 36) (.cells #[.int .u64 (a0 : Nat), .int .u64 (a1 : Nat), .int .u64 (a2 : Nat), .int .u64 (a3 : Nat), .int .u64 (a4 : Nat), .int .u64 (a5 : Nat), .int .u64 (a6 : Nat), .int .u64 (a7 : Nat), .int .u64 (a8 : Nat)] 36))
    generalize (V4.alloc (.cells #[.int .u64 (b0 : Nat), .int .u64 (b1 : Nat), .int .u64 (b2 : Nat), .int .u64 (b3 : Nat), .int .u64 (b4 : Nat), .int .u64 (b5 : Nat), .int .u64 (b6 : Nat), .int .u64 (b7 : Nat), .int .u64 (b8 : Nat)] 36)).alloc (.cells #[.int .u64 (a0 : Nat), .int .u64 (a1 : Nat), .int .u64 (a2 : Nat), .int .u64 (a3 : Nat), .int .u64 (a4 : Nat), .int .u64 (a5 : Nat), .int .u64 (a6 : Nat), .int .u64 (a7 : Nat), .int .u64 (a8 : Nat)] 36) = U at *
    generalize V4.heap.size = eb at *
    generalize V3.heap.size = kb at *
    generalize V2.heap.size = bb at *
    generalize V1.heap.size = ab at *
    have HG := hid (p := _) G
    clear F1 F2 F3 F4 A2 A3 A4 B3 B4 C4
    obtain ⟨_, _, _, _, _, _, _, _, _, _⟩ := A8.all
    obtain ⟨_, _, _, _, _, _, _, _, _, _⟩ := B8.all
    obtain ⟨_, _, _, _, _, _, _, _, _, _, _, _, _, _, _, _, _, _, _, _⟩ := C8.all
    obtain ⟨_, _, _, _, _, _, _, _, _, _, _, _, _, _, _, _, _, _, _, _⟩ := D8.all
    obtain ⟨_, _, _, _, _, _, _, _, _, _, _, _, _, _, _, _, _, _, _, _⟩ := E8.all
    clear A8 B8 C8 D8 E8 G
    refine wp_region_ext (by kernel_rfl) (by kernel_rfl) ?_
    repeat (go_big_quiet_step (first | with_reducible exact Calls.ext_of (Ha.out _ (hP2.out.fr (HG.out.ext _))) | with_reducible exact Calls.ext_of (Hra.out _) | with_reducible exact Calls.ext_of (Hia.out _) | with_reducible exact Calls.ext_of (Hs.out _ (hP2.out.fr (HG.out.ext _))) | with_reducible exact Calls.ext_of (Hrs.out _) | with_reducible exact Calls.ext_of (His.out _) | with_reducible exact Calls.ext_of (Hm.out _ (hP2.out.fr (HG.out.ext _))) | with_reducible exact Calls.ext_of (Hrm.out _) | with_reducible exact Calls.ext_of (Him.out _) | with_reducible exact Calls.ext_of (He.out _) | with_reducible exact Calls.ext_of (Hl.out _) | with_reducible exact Calls.ext_of (Hi.out _) | with_reducible exact Calls.ext_of (Hv.out _ (hP2.out.fr (HG.out.ext _)))))
    refine wpQuiet_nil ?_
    rintro _ ⟨xq, rfl⟩
    go_wp2
    go_ret
    exact ⟨rfl, HG.out.ext xq⟩
  · have Hl := hid (p := _) Kl1
    have Hi := hid (p := _) KiB
    clear K1 K2 K3 K4 Ka Kra Kia Ks Krs Kis Km Krm Kim Ke Kl0 Kl1 KiA KiB Kv wc wd' wa wb ea eb hA hB hP hs ht
    go_enter Tryd.func4, Tryd.ntmps4
    go_wp2_with (first | (go_at_call 9; first | (with_reducible refine (H1.out _ (by with_reducible exact hP2.out)).mono ?_; rintro e V1 ⟨rfl, hF⟩; have F1 := hid (p := _) (F0.out.trans0 hF); clear hF H1) | (with_reducible refine (H2.out _ (hP2.out.fr (F1.out.alloc _))).mono ?_; rintro e V2 ⟨rfl, hF⟩; have F2 := hid (p := _) ((F1.out.alloc _).trans0 hF); have A2 := hid (p := _) ((L4.new V1 28 _ _ _ _).fr hF); clear hF)) | (go_at_call 16; first | (with_reducible refine (H3.out _).mono ?_; rintro e V3 ⟨rfl, hF⟩; have F3 := hid (p := _) ((F2.out.alloc _).trans0 hF); have A3 := hid (p := _) ((A2.out.alloc _).fr hF); have B3 := hid (p := _) ((L4.new V2 28 _ _ _ _).fr hF); clear hF H3) | (with_reducible refine (H4.out _).mono ?_; rintro e V4 ⟨rfl, hF⟩; have F4 := hid (p := _) ((F3.out.alloc _).trans0 hF); have A4 := hid (p := _) ((A3.out.alloc _).fr hF); have B4 := hid (p := _) ((B3.out.alloc _).fr hF); have C4 := ((RW.of9 (t := 36) (heap_new0 V3 _)).fr hF); obtain ⟨_, _, _, _, _, _, _, _, _, _, _, _, _, _, _, _, _, _, _, _⟩ := C4.all; clear hF)))
    have G := F4.out.alloc (.cells #[.int .u64 (b0 : Nat), .int .u64 (b1 : Nat), .int .u64 (b2 : Nat), .int .u64 (b3 : Nat), .int .u64 (b4 : Nat), .int .u64 (b5 : Nat), .int .u64 (b6 : Nat), .int .u64 (b7 : Nat), .int .u64 (b8 : Nat)] 36) |>.alloc (.cells #[.int .u64 (b0 : Nat), .int .u64 (b1 : Nat), .int .u64 (b2 : Nat), .int .u64 (b3 : Nat), .int .u64 (b4 : Nat), .int .u64 (b5 : Nat), .int .u64 (b6 : Nat), .int .u64 (b7 : Nat), .int .u64 (b8 : Nat)] 36)
    have A8 := (A4.out.alloc (.cells #[.int .u64 (b0 : Nat), .int .u64 (b1 : Nat), .int .u64 (b2 : Nat), .int .u64 (b3 : Nat), .int .u64 (b4 : Nat), .int .u64 (b5 : Nat), .int .u64 (b6 : Nat), .int .u64 (b7 : Nat), .int .u64 (b8 : Nat)] 36)).alloc (.cells #[.int .u64 (b0 : Nat), .int .u64 (b1 : Nat), .int .u64 (b2 : Nat), .int .u64 (b3 : Nat), .int .u64 (b4 : Nat), .int .u64 (b5 : Nat), .int .u64 (b6 : Nat), .int .u64 (b7 : Nat), .int .u64 (b8 : Nat)] 36)
    have B8 := (B4.out.alloc (.cells #[.int .u64 (b0 : Nat), .int .u64 (b1 : Nat), .int .u64 (b2 : Nat), .int .u64 (b3 : Nat), .int .u64 (b4 : Nat), .int .u64 (b5 : Nat), .int .u64 (b6 : Nat), .int .u64 (b7 : Nat), .int .u64 (b8 : Nat)] 36)).alloc (.cells #[.int .u64 (b0 : Nat), .int .u64 (b1 : Nat), .int .u64 (b2 : Nat), .int .u64 (b3 : Nat), .int .u64 (b4 : Nat), .int .u64 (b5 : Nat), .int .u64 (b6 : Nat), .int .u64 (b7 : Nat), .int .u64 (b8 : Nat)] 36)
    have C8 := (C4.alloc (.cells #[.int .u64 (b0 : Nat), .int .u64 (b1 : Nat), .int .u64 (b2 : Nat), .int .u64 (b3 : Nat), .int .u64 (b4 : Nat), .int .u64 (b5 : Nat), .int .u64 (b6 : Nat), .int .u64 (b7 : Nat), .int .u64 (b8 : Nat)] 36)).alloc (.cells #[.int .u64 (b0 : Nat), .int .u64 (b1 : Nat), .int .u64 (b2 : Nat), .int .u64 (b3 : Nat), .int .u64 (b4 : Nat), .int .u64 (b5 : Nat), .int .u64 (b6 : Nat), .int .u64 (b7 : Nat), .int .u64 (b8 : Nat)] 36)
    have D8 := (RW.of9 (t := 36) (heap_new0 V4 (.cells #[.int .u64 (b0 : Nat), .int .u64 (b1 : Nat), .int .u64 (b2 : Nat), .int .u64 (b3 : Nat), .int .u64 (b4 : Nat), .int .u64 (b5 : Nat), .int .u64 (b6 : Nat), .int .u64 (b7 : Nat), .int .u64 (b8 : Nat)] 36))).alloc (.cells #[.int .u64 (b0 : Nat), .int .u64 (b1 : Nat), .int .u64 (b2 : Nat), .int .u64 (b3 : Nat), .int .u64 (b4 : Nat), .int .u64 (b5 : Nat), .int .u64 (b6 : Nat), .int .u64 (b7 : Nat), .int .u64 (b8 : Nat)] 36)
    have E8 := RW.of9 (t := 36) (heap_new1 V4 (.cells #[.int .u64 (b0 : Nat), .int .u64 (b1 : Nat), .int .u64 (b2 : Nat), .int .u64 (b3 : Nat), .int .u64 (b4 : Nat), .int .u64 (b5 : Nat), .int .u64 (b6 : Nat), .int .u64 (b7 : Nat), .int .u64 (b8 : Nat)] 36) (.cells #[.int .u64 (b0 : Nat), .int .u64 (b1 : Nat), .int .u64 (b2 : Nat), .int .u64 (b3 : Nat), .int .u64 (b4 : Nat), .int .u64 (b5 : Nat), .int .u64 (b6 : Nat), .int .u64 (b7 : Nat), .int .u64 (b8 : Nat)] 36))
    generalize (V4.alloc (.cells #[.int .u64 (b0 : Nat), .int .u64 (b1 : Nat), .int .u64 (b2 : Nat), .int .u64 (b3 : Nat), .int .u64 (b4 : Nat), .int .u64 (b5 : Nat), .int .u64 (b6 : Nat), .int .u64 (b7 : Nat), .int .u64 (b8 : Nat)] 36)).alloc (.cells #[.int .u64 (b0 : Nat), .int .u64 (b1 : Nat), .int .u64 (b2 : Nat), .int .u64 (b3 : Nat), .int .u64 (b4 : Nat), .int .u64 (b5 : Nat), .int .u64 (b6 : Nat), .int .u64 (b7 : Nat), .int .u64 (b8 : Nat)] 36) = U at *
    generalize V4.heap.size = eb at *
    generalize V3.heap.size = kb at *
    generalize V2.heap.size = bb at *
    generalize V1.heap.size = ab at *
    have HG := hid (p := _) G
    clear F1 F2 F3 F4 A2 A3 A4 B3 B4 C4
    obtain ⟨_, _, _, _, _, _, _, _, _, _⟩ := A8.all
    obtain ⟨_, _, _, _, _, _, _, _, _, _⟩ := B8.all
    obtain ⟨_, _, _, _, _, _, _, _, _, _, _, _, _, _, _, _, _, _, _, _⟩ := C8.all
    obtain ⟨_, _, _, _, _, _, _, _, _, _, _, _, _, _, _, _, _, _, _, _⟩ := D8.all
    obtain ⟨_, _, _, _, _, _, _, _, _, _, _, _, _, _, _, _, _, _, _, _⟩ := E8.all
    clear A8 B8 C8 D8 E8 G
    refine wp_region_ext (by kernel_rfl) (by kernel_rfl) ?_
    repeat (go_big_quiet_step (first | with_reducible exact Calls.ext_of (Ha.out _ (hP2.out.fr (HG.out.ext _))) | with_reducible exact Calls.ext_of (Hra.out _) | with_reducible exact Calls.ext_of (Hia.out _) | with_reducible exact Calls.ext_of (Hs.out _ (hP2.out.fr (HG.out.ext _))) | with_reducible exact Calls.ext_of (Hrs.out _) | with_reducible exact Calls.ext_of (His.out _) | with_reducible exact Calls.ext_of (Hm.out _ (hP2.out.fr (HG.out.ext _))) | with_reducible exact Calls.ext_of (Hrm.out _) | with_reducible exact Calls.ext_of (Him.out _) | with_reducible exact Calls.ext_of (He.out _) | with_reducible exact Calls.ext_of (Hl.out _) | with_reducible exact Calls.ext_of (Hi.out _) | with_reducible exact Calls.ext_of (Hv.out _ (hP2.out.fr (HG.out.ext _)))))
    refine wpQuiet_nil ?_
    rintro _ ⟨xq, rfl⟩
    go_wp2
    go_ret
    exact ⟨rfl, HG.out.ext xq⟩
theorem reck_any (s t : ByteArray) (b : Bool) (w : World) (hP : PV w) : Calls Tryd.prog 4 #[.string s, .string t, .bool b] w fun e w' => e = .returned (.bool true) ∧ Fr [] w w' := by
  by_cases h : s.size = 32
  · by_cases h2 : t.size = 32
    · exact reck_yes s t h h2 b w hP
    · exact reck_no s t (.inr h2) b w hP
  · exact reck_no s t (.inl h) b w hP
end Go.Proofs.YtjaocjnefopdfaaDoor

