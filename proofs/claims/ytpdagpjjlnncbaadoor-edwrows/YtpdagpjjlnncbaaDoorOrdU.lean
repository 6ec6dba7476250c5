/-
  The document's Of (pharosref07): its walk. No statement is proved here.
-/
import Derived.Test.YtpdagpjjlnncbaaDoorOrdQ
import Derived.Test.YtpdagpjjlnncbaaDoorEdwG
namespace Go.Proofs.YtpdagpjjlnncbaaDoor.Ord
open Go.RowKit Go.Lib Go.BigFrame
set_option linter.unusedVariables false
set_option linter.unusedSimpArgs false
set_option maxRecDepth 1000000
set_option maxHeartbeats 4000000

theorem and_one8 (a : Nat) (ha : a < 256) : bits .and .u8 (a : Int) 1 = ((a % 2 : Nat) : Int) := by
  have : ∀ x : Fin 256, bits .and .u8 ((x.1 : Nat) : Int) 1 = ((x.1 % 2 : Nat) : Int) := by decide +kernel
  exact this ⟨a, ha⟩
theorem rd_end (s : ByteArray) (n : Nat) : rd s n / 2 ^ (8 * n) = 0 := by
  refine Nat.div_eq_of_lt ?_
  have h := rd_lt s n
  rw [show (256 : Nat) = 2 ^ 8 from rfl, ← Nat.pow_mul] at h
  exact h
theorem div_256 {A : Nat} (h : A < 115792089237316195423570985008687907853269984665640564039457584007913129639936) : A / 256 ^ 32 = 0 := Nat.div_eq_of_lt h
theorem rof_any (s : ByteArray) (hs : s.size ≤ 100) (w : World) : Calls Tryd.prog 23 #[.string s] w fun e w' => e = .returned (nb (rd s s.size % Lq)) ∧ Fr [] w w' := by
  have HS := hid (p := _) hs
  have H1 := hid (p := _) (fun W => order_any W)
  have HL := hid (p := _) (fun A (h : A < 115792089237316195423570985008687907853269984665640564039457584007913129639936) W => rless_any A Lq (div_256 h) (div_256 (by have := Lq_lt; omega)) W)
  have HM := hid (p := _) (fun A (h : Lq ≤ A) W => rminus_any A Lq h W)
  have HZ38 := hid (p := _) z38
  have hsi : (s.size : Int) ≤ 100 := by omega
  have hw1 : wrap64 (8 * (s.size : Int)) = 8 * (s.size : Int) := wrap64_of (by omega) (by omega)
  have hw2 : wrap64 (8 * (s.size : Int) - 1) = 8 * (s.size : Int) - 1 := wrap64_of (by omega) (by omega)
  go_enter Tryd.func23, Tryd.ntmps23
  go_wp2_with fail
  go_loopg [4] (8 * s.size) (fun gk q wr => ∃ (k : Nat) (z : Int), k ≤ 8 * s.size ∧ gk = k ∧ q = .int .i64 z ∧ z = (k : Int) - 1 ∧ Hid (Fr [] w wr ∧ RB wr w.heap.size 55 (vbl 0) ∧ RB wr (w.heap.size + 1) 55 (vbl (rd s s.size / 2 ^ k % Lq))))
  case atStart =>
    refine ⟨8 * s.size, _, Nat.le_refl _, rfl, rfl, by first | go_num | omega, hid ⟨((Fr.refl [] w).alloc _).alloc _, ?_, ?_⟩⟩
    · unfold RB; rw [← HZ38.out]; exact RB.alloc (l := vbl 0) (by unfold RB; rw [← HZ38.out]; exact (MapKept.heap_alloc w _).1) _
    · rw [rd_end, Nat.zero_mod]; unfold RB; rw [← HZ38.out]; exact heap_new1 w _ _
  case round =>
    obtain ⟨k, z, hk, hgk, rfl, hz, K⟩ := hrel
    by_cases hk0 : 0 < k
    · obtain ⟨i, rfl⟩ : ∃ i, k = i + 1 := ⟨k - 1, by omega⟩
      obtain rfl : z = (i : Int) := by omega
      clear hz
      have hlt : i < 8 * s.size := by omega
      have hb8 : i / 8 < s.size := by omega
      have h1 := byt_get s (i / 8) hb8
      have hB := byt_lt s (i / 8)
      have hbit := byt_bit s s.size i hlt
      have f1 : bits .and .u8 (((byt s (i / 8) : Nat) : Int) / 2 ^ (i % 8)) 1 = ((rd s s.size / 2 ^ i % 2 : Nat) : Int) := by
        have e : ((byt s (i / 8) : Int) / 2 ^ (i % 8)) = ((byt s (i / 8) / 2 ^ (i % 8) : Nat) : Int) := by rw [Int.natCast_ediv, Int.natCast_pow]; rfl
        rw [e, ← hbit]
        exact and_one8 _ (Nat.lt_of_le_of_lt (Nat.div_le_self _ _) hB)
      have hpm := push_mod (rd s s.size) i Lq
      have hR := mod_ltL (rd s s.size / 2 ^ (i + 1))
      have hb1 : rd s s.size / 2 ^ i % 2 ≤ 1 := by omega
      have HPM := hid (p := _) hpm
      generalize hgR : rd s s.size / 2 ^ (i + 1) % Lq = R at *
      generalize hgb : rd s s.size / 2 ^ i % 2 = b at *
      have KF := hid (p := _) K.out.1
      have KZ := hid (p := _) K.out.2.1
      have KR := hid (p := _) K.out.2.2
      clear K hpm hbit hgR hgb
      generalize byt s (i / 8) = B at *
      go_wp2_with fail
      go_loopg [5, 6] 32 (fun gj q5 q6 wr => ∃ j : Nat, j ≤ 32 ∧ gj = 32 - j ∧ q5 = .int .u8 (cy R b j : Nat) ∧ q6 = .int .i64 j ∧ Hid (Fr [] w wr ∧ RB wr w.heap.size 55 (vbl 0) ∧ RB wr (w.heap.size + 1) 55 (dl R b j)))
      case atStart => exact ⟨0, Nat.zero_le _, rfl, rfl, rfl, hid ⟨KF.out, KZ.out, by rw [dl_zero]; exact KR.out⟩⟩
      case round =>
        clear KF KZ KR h1 f1
        obtain ⟨j, hj, hgj, rfl, rfl, K⟩ := hrel
        by_cases hlj : j < 32
        · have hlj' : (j : Int) < 32 := by omega
          have e1 := K.out.2.2.cell j (by rw [dl_len]; exact hlj)
          rw [dl_get R b j hlj] at e1
          have g1 := K.out.2.2.frozen j
          have l1 := K.out.2.2.lt
          have f2 := or_vb (R := R) hb1 j
          have f3 : ((vb R j : Nat) : Int) / 128 = ((cy R b (j + 1) : Nat) : Int) := by
            show ((vb R j : Nat) : Int) / 128 = ((vb R j / 128 : Nat) : Int)
            omega
          have KN := K.out.2.2.set j (vb (2 * R + b) j)
          rw [dl_set R b j hlj] at KN
          have HN := hid (p := _) KN
          have KF := hid (p := _) K.out.1
          have KZ := hid (p := _) K.out.2.1
          clear K KN
          generalize vb (2 * R + b) j = y at *
          generalize vb R j = x at *
          generalize hc2 : cy R b (j + 1) = c2 at *
          have HC2 := hid (p := _) hc2
          clear hc2
          generalize cy R b j = c1 at *
          go_wp2_with fail
          go_roundg (32 - (j + 1))
          case measure => omega
          case rel =>
            exact ⟨j + 1, by omega, rfl, by rw [HC2.out], by go_num, hid ⟨KF.out.setCell (.inr (by show w.heap.size ≤ w.heap.size + 1; omega)) _, KZ.out.other (by show w.heap.size ≠ w.heap.size + 1; omega) _, HN.out⟩⟩
        · obtain rfl : j = 32 := by omega
          have C := K.out.2.2
          rw [dl_all] at C
          have KF := hid (p := _) K.out.1
          have KZ := hid (p := _) K.out.2.1
          have hS2 : 2 * R + b < 2 * Lq := by omega
          have hS4 : 2 * R + b < 115792089237316195423570985008687907853269984665640564039457584007913129639936 := by have := Lq_lt; omega
          have hmod := less_mod hS2
          rw [HPM.out] at hmod
          have NL := fun W => HL.out _ hS4 W
          have HMod := hid (p := _) hmod
          clear K hmod hS4
          generalize hgS : 2 * R + b = S at *
          clear hgS
          have KC := hid (p := _) C
          have HB := hid (p := _) (show ∀ W, (∃ x, W = ext wr x) → RB W (w.heap.size + 1) 55 (vbl S) from fun W h => by obtain ⟨x, rfl⟩ := h; exact C.ext x)
          clear C
          by_cases hSL : S < Lq
          · rw [decide_eq_true hSL] at NL
            have HNL := hid (p := _) NL
            have hval : rd s s.size / 2 ^ i % Lq = S := by rw [HMod.out, if_pos hSL]
            have HV := hid (p := _) hval
            clear NL hval
            go_wp2_with fail
            refine wp_region_ext (by kernel_rfl) (by kernel_rfl) ?_
            refine wpQuiet_load_38 rfl (.tmp 3) rfl (w.heap.size + 1) S 55 rfl HB.out ?_
            simp only [Act.put, List.setIfInBounds_toArray, List.set_cons_zero, List.set_cons_succ]
            repeat (go_big_quiet_step (first | with_reducible exact Calls.ext_of (H1.out _) | with_reducible exact Calls.ext_of (HNL.out _)))
            refine wpQuiet_nil ?_
            rintro _ ⟨xq, rfl⟩
            go_simp
            go_wp2_with fail
            go_roundg i
            case measure => omega
            case rel => exact ⟨i, _, by omega, rfl, by go_num, rfl, hid ⟨KF.out.ext xq, KZ.out.ext xq, by rw [HV.out]; exact KC.out.ext xq⟩⟩
          · rw [decide_eq_false hSL] at NL
            have HNL := hid (p := _) NL
            have HNM := hid (p := _) (fun W => HM.out S (by omega) W)
            have hval : rd s s.size / 2 ^ i % Lq = S - Lq := by rw [HMod.out, if_neg hSL]
            have HV := hid (p := _) hval
            clear NL hval
            go_wp2_with fail
            refine wp_region_ext (by kernel_rfl) (by kernel_rfl) ?_
            refine wpQuiet_load_38 rfl (.tmp 3) rfl (w.heap.size + 1) S 55 rfl HB.out ?_
            simp only [Act.put, List.setIfInBounds_toArray, List.set_cons_zero, List.set_cons_succ]
            repeat (go_big_quiet_step (first | with_reducible exact Calls.ext_of (H1.out _) | with_reducible exact Calls.ext_of (HNL.out _)))
            refine wpQuiet_nil ?_
            rintro _ ⟨xq, rfl⟩
            have KF2 := hid (p := _) (KF.out.ext xq)
            have KZ2 := hid (p := _) (KZ.out.ext xq)
            have C2 := KC.out.ext xq
            generalize ext wr xq = U at *
            have HB2 := hid (p := _) (show ∀ W, (∃ x, W = ext U x) → RB W (w.heap.size + 1) 55 (vbl S) from fun W h => by obtain ⟨x, rfl⟩ := h; exact C2.ext x)
            clear C2 HB KF KZ KC
            go_simp
            go_wp2_with fail
            refine wp_region_last_ext [_, _, _] _ (by kernel_rfl) (by kernel_rfl) (by kernel_rfl) (by kernel_rfl) (by kernel_rfl) ?_
            simp only [List.cons_append, List.nil_append, idle]
            refine wpQuiet_load_38 rfl (.tmp 3) rfl (w.heap.size + 1) S 55 rfl HB2.out ?_
            simp only [Act.put, List.setIfInBounds_toArray, List.set_cons_zero, List.set_cons_succ]
            repeat (go_big_quiet_step (first | with_reducible exact Calls.ext_of (H1.out _) | with_reducible exact Calls.ext_of (HNM.out _)))
            refine wpQuiet_nil ?_
            rintro _ ⟨xq2, rfl⟩
            have hRB := HB2.out _ ⟨xq2, rfl⟩
            refine wp_store_row 55 (.tmp 3) (.tmp 46) rfl (w.heap.size + 1) (bc (vbl (S - Lq))) rfl rfl 55 (bc (vbl S)) hRB (by rw [bc_size, vbl_len]; exact info38) (by rw [bc_size, bc_size, vbl_len, vbl_len]) (bc_one _) ?_
            have F3 := hid (p := _) ((KF2.out.ext xq2).setRow (g := w.heap.size + 1) (.inr (by omega)) (bc (vbl (S - Lq))))
            have Z3 := hid (p := _) ((KZ2.out.ext xq2).setRow_other (b' := w.heap.size + 1) (by omega) (bc (vbl (S - Lq))))
            have C3 := hid (p := _) (hRB.setRow (vbl (S - Lq)))
            generalize (ext U xq2).setRow (w.heap.size + 1) (bc (vbl (S - Lq))) = U3 at *
            clear hRB
            simp only [Act.put, List.setIfInBounds_toArray, List.set_cons_zero, List.set_cons_succ]
            go_simp
            go_wp2_with fail
            go_roundg i
            case measure => omega
            case rel => exact ⟨i, _, by omega, rfl, by go_num, rfl, hid ⟨F3.out, Z3.out, by rw [HV.out]; exact C3.out⟩⟩
    · obtain rfl : k = 0 := by omega
      have hz2 : ¬ (0 : Int) ≤ z := by omega
      have C := K.out.2.2
      rw [Nat.pow_zero, Nat.div_one] at C
      have HC := hid (p := _) C
      have Z := hid (p := _) K.out.2.1
      have F := hid (p := _) K.out.1
      clear K C hz
      go_wp2_with (first | (refine wpList_load_38 rfl (.tmp 3) rfl (w.heap.size + 1) (rd s s.size % Lq) 55 rfl HC.out ?_) | (refine wpList_store_38 rfl (.tmp 2) (.tmp 47) rfl w.heap.size (rd s s.size % Lq) 55 rfl rfl (vbl 0) (vbl_len _) Z.out ?_))
      refine bodyPost_ret (results_cell Tryd.results23 rfl (Z.out.setRow (vbl (rd s s.size % Lq))).load) rfl ⟨rfl, F.out.setRow (.inr (Nat.le_refl _)) _⟩
end Go.Proofs.YtpdagpjjlnncbaaDoor.Ord
namespace Go.Proofs.YtpdagpjjlnncbaaDoor
open Go.RowKit Go.Lib Go.BigFrame
set_option linter.unusedVariables false
set_option linter.unusedSimpArgs false
set_option maxRecDepth 1000000
set_option maxHeartbeats 4000000

section
variable {o : Oper} {a : Act}
theorem run_quo8 (x : Operand) (m : Nat) (hm : m < 256) (ho : o.op = .binOp .quo 3 x (.const (.int .i64 8)) 3) (hx : a.eval x = .int .i64 (m : Int)) : ∀ W, (execOp a.eval o).run Tryd.prog W = .ok (.value (.int .i64 ((m / 8 : Nat) : Int))) W := fun W => by
  unfold execOp
  simp only [ho, hx]
  simp [go_sem]
  rw [IntKind.wrap_i64]; omega
theorem run_rem8 (x : Operand) (m : Nat) (hm : m < 256) (ho : o.op = .binOp .rem 3 x (.const (.int .i64 8)) 3) (hx : a.eval x = .int .i64 (m : Int)) : ∀ W, (execOp a.eval o).run Tryd.prog W = .ok (.value (.int .i64 ((m % 8 : Nat) : Int))) W := fun W => by
  have h1 : (m : Int).tmod 8 = ((m % 8 : Nat) : Int) := by rw [Int.tmod_eq_emod_of_nonneg (by omega)]; omega
  have h2 : IntKind.i64.wrap ((m % 8 : Nat) : Int) = ((m % 8 : Nat) : Int) := by rw [IntKind.wrap_i64]; omega
  unfold execOp
  simp only [ho, hx]
  simp [go_sem, h1, h2]
theorem run_ix (x y : Operand) (i : Nat) (ho : o.op = .index 9 x y) (s : ByteArray) (hx : a.eval x = .string s) (hy : a.eval y = .int .i64 (i : Int)) (hi : i < s.size) : ∀ W, (execOp a.eval o).run Tryd.prog W = .ok (.value (.int .u8 ((byt s i : Nat) : Int))) W := fun W => by
  have h2 := byt_get s i hi
  unfold execOp
  simp only [ho, hx, hy]
  simp [go_sem, hi, ← h2]
theorem run_cv (x : Operand) (m : Nat) (hm : m < 8) (ho : o.op = .convert 3 87 x) (hx : a.eval x = .int .i64 (m : Int)) : ∀ W, (execOp a.eval o).run Tryd.prog W = .ok (.value (.int .u64 (m : Int))) W := fun W => by
  have h1 : IntKind.u64.wrap (m : Int) = (m : Int) := by rw [IntKind.wrap_u64]; omega
  unfold execOp
  simp only [ho, hx]
  simp [go_sem, h1]
theorem run_shr (x y : Operand) (t : Nat) (k : IntKind) (v m : Nat) (hm : m < 8) (hv : v < 256) (ho : o.op = .binOp .shr 5 x y t) (hx : a.eval x = .int .u8 (v : Int)) (hy : a.eval y = .int k (m : Int)) : ∀ W, (execOp a.eval o).run Tryd.prog W = .ok (.value (.int .u8 ((v / 2 ^ m : Nat) : Int))) W := fun W => by
  have h1 : ¬ ((m : Int) < 0) := by omega
  have h2 : ((v : Int) / 2 ^ m) = ((v / 2 ^ m : Nat) : Int) := by rw [Int.natCast_ediv, Int.natCast_pow]; rfl
  unfold execOp
  simp only [ho, hx, hy]
  simp [go_sem, h1]
theorem and18 (n : Nat) (ha : n < 256) : bits .and .u8 (n : Int) 1 = ((n % 2 : Nat) : Int) := by
  have : ∀ x : Fin 256, bits .and .u8 ((x.1 : Nat) : Int) 1 = ((x.1 % 2 : Nat) : Int) := by decide +kernel
  exact this ⟨n, ha⟩
theorem run_and1 (x : Operand) (v : Nat) (hv : v < 256) (ho : o.op = .binOp .and 5 x (.const (.int .u8 1)) 5) (hx : a.eval x = .int .u8 (v : Int)) : ∀ W, (execOp a.eval o).run Tryd.prog W = .ok (.value (.int .u8 ((v % 2 : Nat) : Int))) W := fun W => by
  have h1 := and18 v hv
  unfold execOp
  simp only [ho, hx]
  simp [go_sem, h1]
end
/-- A bit of a text. -/
def bx (s : ByteArray) (i : Nat) : Nat := byt s (i / 8) / 2 ^ (i % 8) % 2
theorem bx_01 (s : ByteArray) (i : Nat) : bx s i = 0 ∨ bx s i = 1 := by unfold bx; omega
theorem bit_r {Z : World → Prop} (s : ByteArray) (hs : s.size = 32) (m : Nat) (hm : m < 256) : Ret Z 81 #[.string s, .int .i64 (m : Int)] (.int .u8 ((bx s m : Nat) : Int)) := by
  intro w hw
  have S := St.refl hw
  have hv := byt_lt s (m / 8)
  have hd : byt s (m / 8) / 2 ^ (m % 8) < 256 := Nat.lt_of_le_of_lt (Nat.div_le_self _ _) hv
  go_enter Tryd.func81, Tryd.ntmps81
  refine wp_seq_k fun K hK => ?_
  refine wr_list ?_
  refine wl_pure (.int .u8 0) rfl (fun _ => rfl) ?_
  intro a' ha
  simp only [Act.put, List.setIfInBounds_toArray, List.set_cons_zero, List.set_cons_succ] at ha
  subst ha
  refine wl_nil (hK _ _ ?_)
  clear hK K
  refine wp_seq_k fun K hK => ?_
  refine wr_list ?_
  refine wl_pure (.string s) rfl (fun _ => rfl) ?_
  intro a' ha
  simp only [Act.put, List.setIfInBounds_toArray, List.set_cons_zero, List.set_cons_succ] at ha
  subst ha
  refine wl_pure (.int .i64 (m : Int)) rfl (fun _ => rfl) ?_
  intro a' ha
  simp only [Act.put, List.setIfInBounds_toArray, List.set_cons_zero, List.set_cons_succ] at ha
  subst ha
  refine wl_pure (.int .i64 ((m / 8 : Nat) : Int)) rfl (run_quo8 (.tmp 6) m hm rfl rfl) ?_
  intro a' ha
  simp only [Act.put, List.setIfInBounds_toArray, List.set_cons_zero, List.set_cons_succ] at ha
  subst ha
  refine wl_pure (.int .u8 ((byt s (m / 8) : Nat) : Int)) rfl (run_ix (.tmp 5) (.tmp 7) (m / 8) rfl s rfl rfl (by omega)) ?_
  intro a' ha
  simp only [Act.put, List.setIfInBounds_toArray, List.set_cons_zero, List.set_cons_succ] at ha
  subst ha
  refine wl_pure (.int .i64 (m : Int)) rfl (fun _ => rfl) ?_
  intro a' ha
  simp only [Act.put, List.setIfInBounds_toArray, List.set_cons_zero, List.set_cons_succ] at ha
  subst ha
  refine wl_pure (.int .i64 ((m % 8 : Nat) : Int)) rfl (run_rem8 (.tmp 9) m hm rfl rfl) ?_
  intro a' ha
  simp only [Act.put, List.setIfInBounds_toArray, List.set_cons_zero, List.set_cons_succ] at ha
  subst ha
  refine wl_pure (.int .u8 ((byt s (m / 8) / 2 ^ (m % 8) : Nat) : Int)) rfl (run_shr (.tmp 8) (.tmp 10) 3 .i64 (byt s (m / 8)) (m % 8) (by omega) hv rfl rfl rfl) ?_
  intro a' ha
  simp only [Act.put, List.setIfInBounds_toArray, List.set_cons_zero, List.set_cons_succ] at ha
  subst ha
  refine wl_pure (.int .u8 ((byt s (m / 8) / 2 ^ (m % 8) % 2 : Nat) : Int)) rfl (run_and1 (.tmp 11) _ hd rfl rfl) ?_
  intro a' ha
  simp only [Act.put, List.setIfInBounds_toArray, List.set_cons_zero, List.set_cons_succ] at ha
  subst ha
  refine wl_pure (.int .u8 ((byt s (m / 8) / 2 ^ (m % 8) % 2 : Nat) : Int)) rfl (fun _ => rfl) ?_
  intro a' ha
  simp only [Act.put, List.setIfInBounds_toArray, List.set_cons_zero, List.set_cons_succ] at ha
  subst ha
  refine wl_nil (hK _ _ ?_)
  clear hK K
  refine wp_ret ?_
  exact fin_tmp S rfl rfl rfl
/-- The document's scalars, by value. -/
def bcl (l : List Nat) : Array Value := (l.map fun x => Value.int .u8 ((x : Nat) : Int)).toArray
def b32 (v : Nat) : Array Value := bcl (Ord.vbl v)
def nbv (v : Nat) : Value := .agg (b32 v)
theorem nbv_eq (v : Nat) : nbv v = Ord.nb v := rfl
theorem b32_size (v : Nat) : (b32 v).size = 32 := by simp [b32, bcl, Ord.vbl_len]
theorem b32_one (v : Nat) : One (b32 v) := by
  unfold One
  rw [Array.all_eq_true_iff_forall_mem]
  intro x hx
  simp [b32, bcl] at hx
  obtain ⟨y, _, rfl⟩ := hx
  rfl
theorem row55 : Row 55 32 := ⟨_, Tryd.underlying55, rfl, Ord.info38⟩
theorem b32_get (v j : Nat) (hj : j < 32) : (b32 v)[j]? = some (.int .u8 ((Ord.vb v j : Nat) : Int)) := by
  simp [b32, bcl, Ord.vbl, hj]
theorem ovb_lt (v j : Nat) : Ord.vb v j < 256 := Nat.mod_lt _ (by decide)
section
variable {Z : World → Prop} {w V : World} {M : Mem} {ops : Array Oper} {rest : List Oper} {o : Oper} {a : Act} {Q : Exit → Act → World → Prop}
theorem run_ixa (x y : Operand) (b i : Nat) (ho : o.op = .indexAddr 55 x y) (hx : a.eval x = .pointer (some ⟨b, 0, none⟩)) (hy : a.eval y = .int .i64 (i : Int)) (hi : i < 32) : ∀ W, (execOp a.eval o).run Tryd.prog W = .ok (.value (.pointer (some ⟨b, i, none⟩))) W := fun W => by
  unfold execOp
  simp only [ho, hx, hy]
  simp [go_sem, hi]
  intro h; omega
theorem wl_ld55 (S : St Z w V M) (k b i v : Nat) (x : Operand) {t : Nat} (hw : Region.wanted o (yielded ops a.tmps) = true) (ho : o.op = .load 5 x) (hx : a.eval x = .pointer (some ⟨b, i, none⟩)) (hk : M[k]? = some (b, .row (b32 v) t)) (hi : i < 32) (h : ∀ a', a' = a.put o.dst (.int .u8 ((Ord.vb v i : Nat) : Int)) → Wl ops Q rest a' V) : Wl ops Q (o :: rest) a V :=
  wl_want hw fun K hK => by
    unfold Oper.wp; rw [exec_load ho hx (run_ld5 (cell_of_heap (S.nth k hk) (b32_get v i hi)))]; exact hK _ _ (h _ rfl)
end
/-- A bit of a number. -/
def bn (v i : Nat) : Nat := Ord.vb v (i / 8) / 2 ^ (i % 8) % 2
end Go.Proofs.YtpdagpjjlnncbaaDoor
