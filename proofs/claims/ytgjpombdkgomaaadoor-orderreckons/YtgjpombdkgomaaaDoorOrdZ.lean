/-
  OrderReckons: its walk. No statement is proved here.
-/
import Derived.Test.YtgjpombdkgomaaaDoorOrdY
import Derived.ChangeKeysEq
namespace Go.Proofs.YtgjpombdkgomaaaDoor
open Go.RowKit Go.Lib Go.BigFrame
set_option linter.unusedVariables false
set_option linter.unusedSimpArgs false
set_option maxRecDepth 1000000
set_option maxHeartbeats 4000000

theorem eqItems32 (w : World) (xs ys : List Nat) : ∀ is : List Nat, (∀ i ∈ is, i < xs.length ∧ i < ys.length) → (Op.eqItems 9999 5 1 (bc xs) (bc ys) is).run Tryd.prog w = .ok (is.all fun i => decide (xs.getD i 0 = ys.getD i 0)) w
  | [], _ => by simp [Op.eqItems]
  | i :: is, h => by
    obtain ⟨h1, h2⟩ := h i (by simp)
    have ih := eqItems32 w xs ys is (fun j hj => h j (by simp [hj]))
    have hp : Tryd.prog.plainKey 5 = true := by kernel_rfl
    have p1 := run_part_plain (P := Tryd.prog) w hp (xs := bc xs) (off := i * 1) (v := .int .u8 ((xs.getD i 0 : Nat) : Int)) (by simp [bc, h1])
    have p2 := run_part_plain (P := Tryd.prog) w hp (xs := bc ys) (off := i * 1) (v := .int .u8 ((ys.getD i 0 : Nat) : Int)) (by simp [bc, h2])
    have p3 := run_equalIn_int (P := Tryd.prog) w 9998 5 .u8 .u8 ((xs.getD i 0 : Nat) : Int) ((ys.getD i 0 : Nat) : Int) Tryd.underlying5
    simp only [Op.eqItems, Sem.run_bind, p1, p2, p3, Result.andThen_ok, List.all_cons]
    by_cases he : xs.getD i 0 = ys.getD i 0
    · simp only [he, beq_self_eq_true, Bool.not_true, decide_true, Bool.true_and, Bool.false_eq_true, if_false]
      exact ih
    · have hn : (((xs.getD i 0 : Nat) : Int) == ((ys.getD i 0 : Nat) : Int)) = false := by rw [beq_eq_false_iff_ne]; omega
      simp only [hn, he, Bool.not_false, decide_false, Bool.false_and, if_true, Sem.run_pure]
theorem all_get (xs ys : List Nat) (h : xs.length = ys.length) : (List.range xs.length).all (fun i => decide (xs.getD i 0 = ys.getD i 0)) = decide (xs = ys) := by
  rw [Bool.eq_iff_iff, List.all_eq_true]
  simp only [decide_eq_true_eq, List.mem_range]
  constructor
  · intro hi
    apply List.ext_getElem h
    intro i h1 h2
    have := hi i h1
    simpa [h1, h2] using this
  · rintro rfl _ _; rfl
theorem vbl_inj {A B : Nat} (hA : A < 115792089237316195423570985008687907853269984665640564039457584007913129639936) (hB : B < 115792089237316195423570985008687907853269984665640564039457584007913129639936) : vbl A = vbl B ↔ A = B := by
  refine ⟨fun h => ?_, fun h => by rw [h]⟩
  have e : by32 A = by32 B := by
    have : (by32 A).data = (by32 B).data := by
      rw [by32_data, by32_data]
      congr 1
      apply List.map_congr_left
      intro j hj
      have h1 := vbl_get A j (by simpa using hj)
      have h2 := vbl_get B j (by simpa using hj)
      rw [← h1, ← h2, h]
    cases hx : by32 A; cases hy : by32 B
    rw [hx, hy] at this
    simp at this
    rw [this]
  rw [← rd_by32 A hA, ← rd_by32 B hB, e]
theorem eql_nb (A B : Nat) (hA : A < 115792089237316195423570985008687907853269984665640564039457584007913129639936) (hB : B < 115792089237316195423570985008687907853269984665640564039457584007913129639936) (w : World) : (Op.equalIn 10000 38 (nb A) (nb B)).run Tryd.prog w = .ok (decide (A = B)) w := by
  obtain ⟨i, hi, -, -, -⟩ := info5
  have hc : Tryd.prog.cellsOf 5 = 1 := by kernel_rfl
  have h := run_equalIn_array (P := Tryd.prog) w 9999 (t := 38) (e := 5) (n := 32) (bc (vbl A)) (bc (vbl B)) Tryd.underlying38 hi
  rw [hc, eqItems32 w (vbl A) (vbl B) _ (fun j hj => by simp at hj; rw [vbl_len, vbl_len]; omega)] at h
  have h2 := all_get (vbl A) (vbl B) (by rw [vbl_len, vbl_len])
  rw [vbl_len] at h2
  rw [h2] at h
  have h3 : decide (vbl A = vbl B) = decide (A = B) := by simp [vbl_inj hA hB]
  rw [h3] at h
  exact h
/-- The load of a whole number in a region that draws its order, its guard being met. -/
theorem wpQuiet_load_38w {ops : Array Oper} {C : World → Prop} {Q : Act → Prop} {a : Act} {o : Oper} {rest : List Oper} (hw : Region.wanted o (yielded ops a.tmps) = true) (x : Operand) (ho : o.op = .load 38 x) (b v t : Nat) (hx : a.eval x = .pointer (some ⟨b, 0, none⟩)) (hC : ∀ w, C w → RB w b t (vbl v))
    (h : wpQuiet Tryd.prog ops C Q rest (a.put o.dst (nb v))) : wpQuiet Tryd.prog ops C Q (o :: rest) a := by
  show if _ then _ else _
  rw [if_pos hw]
  refine ⟨nb v, fun w hw => ?_, h⟩
  unfold Oper.quietAt execOp
  simp only [ho, hx, Sem.run_bind, (hC w hw).loadAt, Result.andThen_ok, Sem.run_pure]
  exact ⟨rfl, rfl⟩
theorem of_any (s : ByteArray) : ∃ (c0 c1 c2 c3 : Nat) (e1 : Int), (∀ W, PV W → Calls Tryd.prog 7 #[.string s] W fun e w' => e = .returned (.tuple #[.agg #[.int .u64 (c0 : Nat), .int .u64 (c1 : Nat), .int .u64 (c2 : Nat), .int .u64 (c3 : Nat)], .int .i64 e1]) ∧ Fr [] W w') ∧ (e1 = 0 ∧ fits s ∨ e1 = 2) := by
  by_cases hs : fits s
  · obtain ⟨z0, z1, z2, z3, -, -, -, -, -, wz⟩ := wd_open (of s) (lt4 (of_ltL s))
    have K := fun W (hW : PV W) => of_yes s hs W hW
    rw [wz] at K
    exact ⟨z0, z1, z2, z3, 0, K, .inl ⟨rfl, hs⟩⟩
  · have K := fun W (hW : PV W) => of_no s hs W
    rw [← wd_0] at K
    exact ⟨0, 0, 0, 0, 2, K, .inr rfl⟩
theorem reck_no (s t u : ByteArray) (h : ¬ (fits s ∧ fits t ∧ fits u)) (w : World) (hP : PV w) : Calls Tryd.prog 4 #[.string s, .string t, .string u] w fun e w' => e = .returned (.bool true) ∧ Fr [] w w' := by
  have hP2 := hid (p := _) hP
  have K4 := hid (p := _) (fun W (h : PV W) => alive_any W h)
  obtain ⟨c0, c1, c2, c3, e1, K1, he1⟩ := of_any s
  obtain ⟨d0, d1, d2, d3, e2, K2, he2⟩ := of_any t
  obtain ⟨g0, g1, g2, g3, e3, K3, he3⟩ := of_any u
  have H1 := hid (p := _) K1
  have H2 := hid (p := _) K2
  have H3 := hid (p := _) K3
  clear K1 K2 K3 hP
  have F0 := hid (p := _) (Fr.refl [] w)
  rcases he1 with ⟨rfl, h1⟩ | rfl
  · rcases he2 with ⟨rfl, h2⟩ | rfl
    · rcases he3 with ⟨rfl, h3⟩ | rfl
      · exact absurd ⟨h1, h2, h3⟩ h
      · clear h h1 h2
        go_enter Tryd.func4, Tryd.ntmps4
        go_wp2_with (first | (go_at_call 7; first | (with_reducible refine (H1.out _ (by with_reducible exact hP2.out)).mono ?_; rintro e V1 ⟨rfl, hF⟩; have F1 := hid (p := _) (F0.out.trans0 hF); clear hF H1) | (with_reducible refine (H2.out _ (hP2.out.fr (F1.out.alloc _) (by simp))).mono ?_; rintro e V2 ⟨rfl, hF⟩; have F2 := hid (p := _) ((F1.out.alloc _).trans0 hF); clear hF H2) | (with_reducible refine (H3.out _ (hP2.out.fr (F2.out.alloc _) (by simp))).mono ?_; rintro e V3 ⟨rfl, hF⟩; have F3 := hid (p := _) ((F2.out.alloc _).trans0 hF); clear hF)) | (go_at_call 6; with_reducible refine (K4.out _ (hP2.out.fr (F3.out.alloc _) (by simp))).mono ?_; rintro e V4 ⟨rfl, hF⟩; have F4 := hid (p := _) ((F3.out.alloc _).trans0 hF); clear hF))
        go_ret
        exact ⟨rfl, F4.out⟩
    · clear h h1 he3
      go_enter Tryd.func4, Tryd.ntmps4
      go_wp2_with (first | (go_at_call 7; first | (with_reducible refine (H1.out _ (by with_reducible exact hP2.out)).mono ?_; rintro e V1 ⟨rfl, hF⟩; have F1 := hid (p := _) (F0.out.trans0 hF); clear hF H1) | (with_reducible refine (H2.out _ (hP2.out.fr (F1.out.alloc _) (by simp))).mono ?_; rintro e V2 ⟨rfl, hF⟩; have F2 := hid (p := _) ((F1.out.alloc _).trans0 hF); clear hF H2) | (with_reducible refine (H3.out _ (hP2.out.fr (F2.out.alloc _) (by simp))).mono ?_; rintro e V3 ⟨rfl, hF⟩; have F3 := hid (p := _) ((F2.out.alloc _).trans0 hF); clear hF)) | (go_at_call 6; with_reducible refine (K4.out _ (hP2.out.fr (F3.out.alloc _) (by simp))).mono ?_; rintro e V4 ⟨rfl, hF⟩; have F4 := hid (p := _) ((F3.out.alloc _).trans0 hF); clear hF))
      go_ret
      exact ⟨rfl, F4.out⟩
  · clear h he2 he3
    go_enter Tryd.func4, Tryd.ntmps4
    go_wp2_with (first | (go_at_call 7; first | (with_reducible refine (H1.out _ (by with_reducible exact hP2.out)).mono ?_; rintro e V1 ⟨rfl, hF⟩; have F1 := hid (p := _) (F0.out.trans0 hF); clear hF H1) | (with_reducible refine (H2.out _ (hP2.out.fr (F1.out.alloc _) (by simp))).mono ?_; rintro e V2 ⟨rfl, hF⟩; have F2 := hid (p := _) ((F1.out.alloc _).trans0 hF); clear hF H2) | (with_reducible refine (H3.out _ (hP2.out.fr (F2.out.alloc _) (by simp))).mono ?_; rintro e V3 ⟨rfl, hF⟩; have F3 := hid (p := _) ((F2.out.alloc _).trans0 hF); clear hF)) | (go_at_call 6; with_reducible refine (K4.out _ (hP2.out.fr (F3.out.alloc _) (by simp))).mono ?_; rintro e V4 ⟨rfl, hF⟩; have F4 := hid (p := _) ((F3.out.alloc _).trans0 hF); clear hF))
    go_ret
    exact ⟨rfl, F4.out⟩
theorem reck_yes (s t u : ByteArray) (hs : fits s) (ht : fits t) (hu : fits u) (w : World) (hP : PV w) : Calls Tryd.prog 4 #[.string s, .string t, .string u] w fun e w' => e = .returned (.bool true) ∧ Fr [] w w' := by
  have hP2 := hid (p := _) hP
  have fit100 : ∀ x, fits x → x.size ≤ 100 := fun x hx => by rcases hx with h | h <;> omega
  have hA := lt4 (of_ltL s)
  have hB := lt4 (of_ltL t)
  have hC := lt4 (of_ltL u)
  have K1 := fun W (h : PV W) => of_yes s hs W h
  have K2 := fun W (h : PV W) => of_yes t ht W h
  have K3 := fun W (h : PV W) => of_yes u hu W h
  have K4 : ∀ W : World, Calls Tryd.prog 14 #[.string s] W fun e w' => e = .returned (nb (of s)) ∧ Fr [] W w' := fun W => rof_any s (fit100 s hs) W
  have K5 : ∀ W : World, Calls Tryd.prog 14 #[.string t] W fun e w' => e = .returned (nb (of t)) ∧ Fr [] W w' := fun W => rof_any t (fit100 t ht) W
  have K6 : ∀ W : World, Calls Tryd.prog 14 #[.string u] W fun e w' => e = .returned (nb (of u)) ∧ Fr [] W w' := fun W => rof_any u (fit100 u hu) W
  generalize of s = A at *
  generalize of t = B at *
  generalize of u = C at *
  have Km := fun W (h : PV W) => muladd_any A B C hA hB hC W h
  have Krm := fun W => rmuladd_any A B C hA hB hC W
  have Kim := fun W => is_yes ((A * B + C) % Lq) (lt4 (mod_ltL _)) W
  have Ke := fun W => same_any A B hA hB W
  have hEq := fun W => eql_nb A B hA hB W
  have Kv := fun W (h : PV W) => alive_any W h
  obtain ⟨c0, c1, c2, c3, -, -, -, -, -, wc⟩ := wd_open A hA
  obtain ⟨d0, d1, d2, d3, -, -, -, -, -, wd'⟩ := wd_open B hB
  obtain ⟨g0, g1, g2, g3, -, -, -, -, -, wg⟩ := wd_open C hC
  generalize wd ((A * B + C) % Lq) = x3 at *
  generalize nb ((A * B + C) % Lq) = y3 at *
  generalize decide (A = B) = r at *
  have hEq : ∀ W : World, (Op.equalIn 10000 38 (.agg (bc (vbl A))) (.agg (bc (vbl B)))).run Tryd.prog W = .ok r W := hEq
  rw [wc] at K1 Km Ke
  rw [wd'] at K2 Km Ke
  rw [wg] at K3 Km
  have H1 := hid (p := _) K1
  have H2 := hid (p := _) K2
  have H3 := hid (p := _) K3
  have H4 := hid (p := _) K4
  have H5 := hid (p := _) K5
  have H6 := hid (p := _) K6
  have Hm := hid (p := _) Km
  have Hrm := hid (p := _) Krm
  have Him := hid (p := _) Kim
  have He := hid (p := _) Ke
  have Hv := hid (p := _) Kv
  have F0 := hid (p := _) (Fr.refl [] w)
  have hz : ∀ V : World, RB (V.alloc (.cells (bc (vbl 0)) 38)) V.heap.size 38 (vbl 0) := fun V => (MapKept.heap_alloc V _).1
  rw [← z38] at hz
  have HZ := hid (p := _) hz
  clear K1 K2 K3 K4 K5 K6 Km Krm Kim Ke Kv wc wd' wg hA hB hC hP hs ht hu hz fit100
  go_enter Tryd.func4, Tryd.ntmps4
  go_wp2_with (first | (go_at_call 7; first | (with_reducible refine (H1.out _ (by with_reducible exact hP2.out)).mono ?_; rintro e V1 ⟨rfl, hF⟩; have F1 := hid (p := _) (F0.out.trans0 hF); clear hF H1) | (with_reducible refine (H2.out _ (hP2.out.fr (F1.out.alloc _) (by simp))).mono ?_; rintro e V2 ⟨rfl, hF⟩; have F2 := hid (p := _) ((F1.out.alloc _).trans0 hF); have A2 := hid (p := _) ((L4.new V1 27 _ _ _ _).fr hF); clear hF H2) | (with_reducible refine (H3.out _ (hP2.out.fr (F2.out.alloc _) (by simp))).mono ?_; rintro e V3 ⟨rfl, hF⟩; have F3 := hid (p := _) ((F2.out.alloc _).trans0 hF); have A3 := hid (p := _) ((A2.out.alloc _).fr hF); have B3 := hid (p := _) ((L4.new V2 27 _ _ _ _).fr hF); clear hF H3)) | (go_at_call 14; first | (with_reducible refine (H4.out _).mono ?_; rintro e V4 ⟨rfl, hF⟩; have F4 := hid (p := _) ((F3.out.alloc _).trans0 hF); have A4 := hid (p := _) ((A3.out.alloc _).fr hF); have B4 := hid (p := _) ((B3.out.alloc _).fr hF); have C4 := hid (p := _) ((L4.new V3 27 _ _ _ _).fr hF); clear hF H4) ) | (refine wpList_store_38 rfl (.tmp 13) (.tmp 42) rfl V4.heap.size A 38 rfl rfl (vbl 0) (vbl_len _) (HZ.out V4) ?_))
  with_reducible refine (H5.out _).mono ?_
  rintro e V5 ⟨rfl, hF⟩
  have hlA := lt_of_heap A4.out
  have hlB := lt_of_heap B4.out
  have hlC := lt_of_heap C4.out
  have F5 := hid (p := _) (((F4.out.alloc _).setRow (.inr (by have := F4.out.size; omega)) _).trans0 hF)
  have A5 := hid (p := _) (((A4.out.alloc _).setRow_other (Nat.ne_of_lt hlA) _).fr hF)
  have B5 := hid (p := _) (((B4.out.alloc _).setRow_other (Nat.ne_of_lt hlB) _).fr hF)
  have C5 := hid (p := _) (((C4.out.alloc _).setRow_other (Nat.ne_of_lt hlC) _).fr hF)
  have X5 := hid (p := _) (((HZ.out V4).setRow (vbl A)).fr hF)
  clear hlA hlB hlC
  clear hF H5
  go_wp2_with (refine wpList_store_38 rfl (.tmp 14) (.tmp 44) rfl V5.heap.size B 38 rfl rfl (vbl 0) (vbl_len _) (HZ.out V5) ?_)
  have hl1 := lt_of_heap A5.out
  have hl2 := lt_of_heap B5.out
  have hl3 := lt_of_heap C5.out
  have hl4 := X5.out.lt
  have hle := F5.out.size
  have HG := hid (p := _) ((F5.out.alloc (.cells #[.int .u8 0, .int .u8 0, .int .u8 0, .int .u8 0, .int .u8 0, .int .u8 0, .int .u8 0, .int .u8 0, .int .u8 0, .int .u8 0, .int .u8 0, .int .u8 0, .int .u8 0, .int .u8 0, .int .u8 0, .int .u8 0, .int .u8 0, .int .u8 0, .int .u8 0, .int .u8 0, .int .u8 0, .int .u8 0, .int .u8 0, .int .u8 0, .int .u8 0, .int .u8 0, .int .u8 0, .int .u8 0, .int .u8 0, .int .u8 0, .int .u8 0, .int .u8 0] 38)).setRow (g := V5.heap.size) (.inr hle) (bc (vbl B)))
  have A8 := (A5.out.alloc (.cells #[.int .u8 0, .int .u8 0, .int .u8 0, .int .u8 0, .int .u8 0, .int .u8 0, .int .u8 0, .int .u8 0, .int .u8 0, .int .u8 0, .int .u8 0, .int .u8 0, .int .u8 0, .int .u8 0, .int .u8 0, .int .u8 0, .int .u8 0, .int .u8 0, .int .u8 0, .int .u8 0, .int .u8 0, .int .u8 0, .int .u8 0, .int .u8 0, .int .u8 0, .int .u8 0, .int .u8 0, .int .u8 0, .int .u8 0, .int .u8 0, .int .u8 0, .int .u8 0] 38)).setRow_other (Nat.ne_of_lt hl1) (bc (vbl B))
  have B8 := (B5.out.alloc (.cells #[.int .u8 0, .int .u8 0, .int .u8 0, .int .u8 0, .int .u8 0, .int .u8 0, .int .u8 0, .int .u8 0, .int .u8 0, .int .u8 0, .int .u8 0, .int .u8 0, .int .u8 0, .int .u8 0, .int .u8 0, .int .u8 0, .int .u8 0, .int .u8 0, .int .u8 0, .int .u8 0, .int .u8 0, .int .u8 0, .int .u8 0, .int .u8 0, .int .u8 0, .int .u8 0, .int .u8 0, .int .u8 0, .int .u8 0, .int .u8 0, .int .u8 0, .int .u8 0] 38)).setRow_other (Nat.ne_of_lt hl2) (bc (vbl B))
  have C8 := (C5.out.alloc (.cells #[.int .u8 0, .int .u8 0, .int .u8 0, .int .u8 0, .int .u8 0, .int .u8 0, .int .u8 0, .int .u8 0, .int .u8 0, .int .u8 0, .int .u8 0, .int .u8 0, .int .u8 0, .int .u8 0, .int .u8 0, .int .u8 0, .int .u8 0, .int .u8 0, .int .u8 0, .int .u8 0, .int .u8 0, .int .u8 0, .int .u8 0, .int .u8 0, .int .u8 0, .int .u8 0, .int .u8 0, .int .u8 0, .int .u8 0, .int .u8 0, .int .u8 0, .int .u8 0] 38)).setRow_other (Nat.ne_of_lt hl3) (bc (vbl B))
  have X8 := (X5.out.alloc (.cells #[.int .u8 0, .int .u8 0, .int .u8 0, .int .u8 0, .int .u8 0, .int .u8 0, .int .u8 0, .int .u8 0, .int .u8 0, .int .u8 0, .int .u8 0, .int .u8 0, .int .u8 0, .int .u8 0, .int .u8 0, .int .u8 0, .int .u8 0, .int .u8 0, .int .u8 0, .int .u8 0, .int .u8 0, .int .u8 0, .int .u8 0, .int .u8 0, .int .u8 0, .int .u8 0, .int .u8 0, .int .u8 0, .int .u8 0, .int .u8 0, .int .u8 0, .int .u8 0] 38)).setRow_other (Nat.ne_of_lt hl4) (bc (vbl B))
  have Y8 := (HZ.out V5).setRow (vbl B)
  generalize (V5.alloc (.cells #[.int .u8 0, .int .u8 0, .int .u8 0, .int .u8 0, .int .u8 0, .int .u8 0, .int .u8 0, .int .u8 0, .int .u8 0, .int .u8 0, .int .u8 0, .int .u8 0, .int .u8 0, .int .u8 0, .int .u8 0, .int .u8 0, .int .u8 0, .int .u8 0, .int .u8 0, .int .u8 0, .int .u8 0, .int .u8 0, .int .u8 0, .int .u8 0, .int .u8 0, .int .u8 0, .int .u8 0, .int .u8 0, .int .u8 0, .int .u8 0, .int .u8 0, .int .u8 0] 38)).setRow V5.heap.size (bc (vbl B)) = U at *
  clear hl1 hl2 hl3 hl4 hle F1 F2 F3 F4 F5 A2 A3 A4 A5 B3 B4 B5 C4 C5 X5 HZ
  generalize V5.heap.size = yb at *
  generalize V4.heap.size = xb at *
  generalize V3.heap.size = cb' at *
  generalize V2.heap.size = bb at *
  generalize V1.heap.size = ab at *
  obtain ⟨_, _, _, _, _, _, _, _, _, _⟩ := A8.all
  obtain ⟨_, _, _, _, _, _, _, _, _, _⟩ := B8.all
  obtain ⟨_, _, _, _, _, _, _, _, _, _⟩ := C8.all
  have HX := hid (p := _) (show ∀ W, (∃ x, W = ext U x) → RB W xb 38 (vbl A) from fun W h => by obtain ⟨x, rfl⟩ := h; exact X8.ext x)
  have HY := hid (p := _) (show ∀ W, (∃ x, W = ext U x) → RB W yb 38 (vbl B) from fun W h => by obtain ⟨x, rfl⟩ := h; exact Y8.ext x)
  clear A8 B8 C8 X8 Y8
  try simp only [Act.put, List.setIfInBounds_toArray, List.set_cons_zero, List.set_cons_succ]
  refine wp_region_ext (by kernel_rfl) (by kernel_rfl) ?_
  try simp only [Act.put, List.setIfInBounds_toArray, List.set_cons_zero, List.set_cons_succ]
  go_big_quiet_step (fail)
  go_big_quiet_step (fail)
  go_big_quiet_step (fail)
  go_big_quiet_step (with_reducible exact Calls.ext_of (Hm.out _ (hP2.out.fr (HG.out.ext _) (by simp))))
  refine wpQuiet_load_38 rfl (.tmp 13) rfl xb A 38 rfl HX.out ?_
  simp only [Act.put, List.setIfInBounds_toArray, List.set_cons_zero, List.set_cons_succ]
  refine wpQuiet_load_38 rfl (.tmp 14) rfl yb B 38 rfl HY.out ?_
  simp only [Act.put, List.setIfInBounds_toArray, List.set_cons_zero, List.set_cons_succ]
  go_big_quiet_step (fail)
  go_big_quiet_step (with_reducible exact Calls.ext_of (H6.out _))
  go_big_quiet_step (with_reducible exact Calls.ext_of (Hrm.out _))
  go_big_quiet_step (with_reducible exact Calls.ext_of (Him.out _))
  go_big_quiet_step (fail)
  go_big_quiet_step (fail)
  go_big_quiet_step (fail)
  go_big_quiet_step (with_reducible exact Calls.ext_of (He.out _))
  refine wpQuiet_load_38w (by kernel_rfl) (.tmp 13) rfl xb A 38 rfl HX.out ?_
  simp only [Act.put, List.setIfInBounds_toArray, List.set_cons_zero, List.set_cons_succ]
  refine wpQuiet_load_38w (by kernel_rfl) (.tmp 14) rfl yb B 38 rfl HY.out ?_
  simp only [Act.put, List.setIfInBounds_toArray, List.set_cons_zero, List.set_cons_succ]
  unfold nb
  repeat (go_big_quiet_step (first | with_reducible exact Calls.ext_of (Hv.out _ (hP2.out.fr (HG.out.ext _) (by simp)))))
  refine wpQuiet_nil ?_
  rintro _ ⟨xq, rfl⟩
  go_wp2
  go_ret
  exact ⟨rfl, HG.out.ext xq⟩
theorem reck_any (s t u : ByteArray) (w : World) (hP : PV w) : Calls Tryd.prog 4 #[.string s, .string t, .string u] w fun e w' => e = .returned (.bool true) ∧ Fr [] w w' := by
  by_cases h : fits s ∧ fits t ∧ fits u
  · exact reck_yes s t u h.1 h.2.1 h.2.2 w hP
  · exact reck_no s t u h w hP
end Go.Proofs.YtgjpombdkgomaaaDoor
