/-
  The document's numbers (pharosref07): minus. No statement is proved here.
-/
import Derived.Test.YtpdagpjjlnncbaaDoorOrdI
namespace Go.Proofs.YtpdagpjjlnncbaaDoor.Ord
open Go.RowKit Go.Lib Go.BigFrame
set_option linter.unusedVariables false
set_option linter.unusedSimpArgs false
set_option maxRecDepth 1000000
set_option maxHeartbeats 4000000

/-- The row of minus ahead of byte i. -/
def mlb (A B i : Nat) : List Nat := (List.range 32).map fun j => if j < i then vb (A - B) j else vb A j
theorem mlb_zero (A B : Nat) : mlb A B 0 = vbl A := by simp [mlb, vbl]
theorem mlb_all (A B : Nat) : mlb A B 32 = vbl (A - B) := by
  unfold mlb vbl
  apply List.map_congr_left
  intro j hj
  rw [if_pos (by simpa using hj)]
theorem mlb_get (A B i : Nat) (h : i < 32) : (mlb A B i).getD i 0 = vb A i := by simp [mlb, h]
theorem mlb_len (A B i : Nat) : (mlb A B i).length = 32 := by simp [mlb]
theorem mlb_set (A B i : Nat) (h : i < 32) : (mlb A B i).set i (vb (A - B) i) = mlb A B (i + 1) := by
  apply List.ext_getElem
  · simp [mlb]
  · intro j h1 h2
    rw [List.getElem_set]
    split
    · rename_i e
      subst e
      simp [mlb]
    · rename_i e
      simp only [mlb, List.getElem_map, List.getElem_range]
      by_cases hji : j < i
      · rw [if_pos hji, if_pos (by omega)]
      · rw [if_neg hji, if_neg (by omega)]
theorem wrap64_of {n : Int} (h1 : -9223372036854775808 ≤ n) (h2 : n < 9223372036854775808) : wrap64 n = n := by
  unfold wrap64
  omega
theorem minus_num {x y c1 c2 z : Nat} (hm : 256 * c2 + x = y + c1 + z) (hz : z < 256) (h2 : c2 ≤ 1) : ∃ u : Nat, 256 + (x : Int) - (y : Int) - (c1 : Int) = (u : Int) ∧ (u : Int) % 256 = (z : Int) ∧ 1 - (u : Int) / 256 = (c2 : Int) := by
  have : c2 = 0 ∨ c2 = 1 := by omega
  rcases this with rfl | rfl
  · exact ⟨256 + z, by omega, by omega, by omega⟩
  · exact ⟨z, by omega, by omega, by omega⟩
theorem wr_nat (n : Nat) (h : n < 1000) : wrap64 (n : Int) = (n : Int) := wrap64_of (by omega) (by omega)
theorem minus_all {x y c1 c2 z : Nat} (hm : 256 * c2 + x = y + c1 + z) (hx : x < 256) (hy : y < 256) (hz : z < 256) (h1 : c1 ≤ 1) (h2 : c2 ≤ 1) : ∃ u : Nat, wrap64 (x : Int) = (x : Int) ∧ wrap64 (y : Int) = (y : Int) ∧ wrap64 (256 + (x : Int)) = 256 + (x : Int) ∧ wrap64 (256 + (x : Int) - (y : Int)) = 256 + (x : Int) - (y : Int) ∧ wrap64 (256 + (x : Int) - (y : Int) - (c1 : Int)) = (u : Int) ∧ wrap64 (1 - (u : Int) / 256) = (c2 : Int) ∧ IntKind.u8.wrap (u : Int) = (z : Int) ∧ (u : Int) % 256 = (z : Int) := by
  obtain ⟨u, g1, g2, g3⟩ := minus_num hm hz h2
  refine ⟨u, wr_nat x (by omega), wr_nat y (by omega), wrap64_of (by omega) (by omega), wrap64_of (by omega) (by omega), ?_, ?_, by rw [IntKind.wrap_u8']; exact g2, g2⟩
  · rw [wrap64_of (by omega) (by omega), g1]
  · rw [g3]; exact wr_nat c2 (by omega)
theorem wpList_load_38 {w : World} {ops : Array Oper} {rest : List Oper} {o : Oper} {a : Act} {Q : Exit → Act → World → Prop} (hgd : o.guard = none) (x : Operand) (ho : o.op = .load 55 x) (b v t : Nat) (hx : a.eval x = .pointer (some ⟨b, 0, none⟩)) (hb : RB w b t (vbl v))
    (h : wpList Tryd.prog ops Q rest (a.put o.dst (nb v)) w) : wpList Tryd.prog ops Q (o :: rest) a w :=
  wpList_plain hgd fun _ hK => wp_load_mid 55 x ho b 0 hx ((vbl v).map fun x => Value.int .u8 ((x : Nat) : Int)) (.array 32 5) hb.range (by kernel_rfl) rfl (by rw [List.length_map, vbl_len]; exact info38) (hK _ _ h)
theorem rminus_any (A B : Nat) (hAB : B ≤ A) (w : World) : Calls Tryd.prog 58 #[nb A, nb B] w fun e w' => e = .returned (nb (A - B)) ∧ Fr [] w w' := by
  have HAB := hid (p := _) hAB
  have hz := z38
  have HZ38 := hid (p := _) hz
  unfold nb
  clear hAB hz
  go_enter Tryd.func58, Tryd.ntmps58
  go_wp2_with fail
  go_loopg [5, 6] 32 (fun gk q5 q6 wr => ∃ i : Nat, i ≤ 32 ∧ gk = 32 - i ∧ q5 = .int .i64 (bw A B i : Nat) ∧ q6 = .int .i64 i ∧ Hid (Fr [] w wr ∧ RB wr w.heap.size 55 (mlb A B i) ∧ RB wr (w.heap.size + 1) 55 (vbl B) ∧ RB wr (w.heap.size + 2) 55 (vbl 0)))
  case atStart =>
    refine ⟨0, Nat.zero_le _, rfl, by simp [bw, Nat.mod_one], rfl, hid ⟨(((Fr.refl [] w).alloc _).alloc _).alloc _, ?_, (show RB _ _ 55 _ from heap_new1 w _ _).alloc _, ?_⟩⟩
    · rw [mlb_zero]; exact ((show RB _ _ 55 (vbl A) from (MapKept.heap_alloc w _).1).alloc _).alloc _
    · unfold RB; rw [← HZ38.out]; exact heap_new2 w _ _ _
  case round =>
    obtain ⟨i, hi, hgk, rfl, rfl, K⟩ := hrel
    by_cases hlt : i < 32
    · have hlt' : (i : Int) < 32 := by omega
      have e1 := K.out.2.1.cell i (by rw [mlb_len]; exact hlt)
      rw [mlb_get A B i hlt] at e1
      have e2 := K.out.2.2.1.cell i (by rw [vbl_len]; exact hlt)
      rw [vbl_get B i hlt] at e2
      have hF1 := K.out.2.1.frozen i
      have l1 := K.out.2.1.lt
      have l2 := K.out.2.2.1.lt
      have hm := minus_vb HAB.out i
      have d1 := vb_lt A i
      have d2 := vb_lt B i
      have d3 := vb_lt (A - B) i
      have b1 := bw_le A B i
      have b2 := bw_le A B (i + 1)
      have KN := hid (p := _) (fun x => (K.out.2.1.ext x).set i (vb (A - B) i))
      rw [mlb_set A B i hlt] at KN
      have HF := hid (p := _) K.out.1
      have HBr := hid (p := _) K.out.2.2.1
      have HCr := hid (p := _) K.out.2.2.2
      clear K
      generalize hc2 : bw A B (i + 1) = c2 at *
      have HC2 := hid (p := _) hc2
      clear hc2
      generalize bw A B i = c1 at *
      generalize vb A i = x at *
      generalize vb B i = y at *
      generalize vb (A - B) i = z at *
      obtain ⟨u3, f0x, f0y, f1, f2, f3, f5, f6, f7⟩ := minus_all hm d1 d2 d3 b1 b2
      clear hm d1 d2 d3 b1 b2
      go_wp2_with fail
      refine wp_region_ext (by kernel_rfl) (by kernel_rfl) ?_
      repeat (go_big_quiet_step (fail))
      refine wpQuiet_nil ?_
      rintro _ ⟨xq, rfl⟩
      have KN2 := KN.out xq
      go_wp2
      go_roundg (32 - (i + 1))
      case measure => omega
      case rel =>
        exact ⟨i + 1, by omega, rfl, by rw [HC2.out, f5], by go_num, hid ⟨(HF.out.ext xq).setCell (.inr (Nat.le_refl _)) _, KN2, (HBr.out.ext xq).other (by show w.heap.size + 1 ≠ w.heap.size; omega) _, (HCr.out.ext xq).other (by show w.heap.size + 2 ≠ w.heap.size; omega) _⟩⟩
    · obtain rfl : i = 32 := by omega
      have C := K.out.2.1
      rw [mlb_all] at C
      have Z := hid (p := _) K.out.2.2.2
      have F := hid (p := _) K.out.1
      have HC := hid (p := _) C
      clear K C
      go_wp2_with (first | (refine wpList_load_38 rfl (.tmp 2) rfl w.heap.size (A - B) 55 rfl HC.out ?_) | (refine wpList_store_38 rfl (.tmp 4) (.tmp 31) rfl (w.heap.size + 1 + 1) (A - B) 55 rfl rfl (vbl 0) (vbl_len _) Z.out ?_))
      refine bodyPost_ret (results_cell Tryd.results58 rfl (Z.out.setRow (vbl (A - B))).load) rfl ⟨rfl, F.out.setRow (.inr (by show w.heap.size ≤ w.heap.size + 2; omega)) _⟩
end Go.Proofs.YtpdagpjjlnncbaaDoor.Ord
namespace Go.Proofs.YtpdagpjjlnncbaaDoor.Ord
open Go.RowKit Go.Lib Go.BigFrame
set_option linter.unusedVariables false
set_option linter.unusedSimpArgs false
set_option maxRecDepth 1000000
set_option maxHeartbeats 4000000

theorem RB.loadAt {V : World} {b t v : Nat} (h : RB V b t (vbl v)) : (Instr.loadAt 55 (.pointer (some ⟨b, 0, none⟩))).run Tryd.prog V = .ok (nb v) V :=
  run_loadAt_mid V b 0 55 ((vbl v).map fun x => Value.int .u8 ((x : Nat) : Int)) (.array 32 5) h.range (by kernel_rfl) rfl (by rw [List.length_map, vbl_len]; exact info38)
/-- The load of a whole number in a region that draws its order. -/
theorem wpQuiet_load_38 {ops : Array Oper} {C : World → Prop} {Q : Act → Prop} {a : Act} {o : Oper} {rest : List Oper} (hg : o.guard = none) (x : Operand) (ho : o.op = .load 55 x) (b v t : Nat) (hx : a.eval x = .pointer (some ⟨b, 0, none⟩)) (hC : ∀ w, C w → RB w b t (vbl v))
    (h : wpQuiet Tryd.prog ops C Q rest (a.put o.dst (nb v))) : wpQuiet Tryd.prog ops C Q (o :: rest) a := by
  show if _ then _ else _
  have hw : Region.wanted o (yielded ops a.tmps) = true := by unfold Region.wanted; simp [hg]
  rw [if_pos hw]
  refine ⟨nb v, fun w hw => ?_, h⟩
  unfold Oper.quietAt execOp
  simp only [ho, hx, Sem.run_bind, (hC w hw).loadAt, Result.andThen_ok, Sem.run_pure]
  exact ⟨rfl, rfl⟩
end Go.Proofs.YtpdagpjjlnncbaaDoor.Ord
namespace Go.Proofs.YtpdagpjjlnncbaaDoor.Ord
open Go.RowKit Go.Lib Go.BigFrame
set_option linter.unusedVariables false
set_option linter.unusedSimpArgs false
set_option maxRecDepth 1000000
set_option maxHeartbeats 4000000

/-- The carry ahead of byte j of twice R and the bit b. -/
def cy (R b : Nat) : Nat → Nat
  | 0 => b
  | j + 1 => vb R j / 128
theorem cy_le {R b : Nat} (hb : b ≤ 1) : ∀ j, cy R b j ≤ 1
  | 0 => hb
  | j + 1 => by
    have := vb_lt R j
    show vb R j / 128 ≤ 1
    omega
theorem cy_div {R b : Nat} (hb : b ≤ 1) : ∀ j, (2 * R + b) / 256 ^ j = 2 * (R / 256 ^ j) + cy R b j
  | 0 => by rw [Nat.pow_zero, Nat.div_one, Nat.div_one]; rfl
  | j + 1 => by
    have ih := cy_div (R := R) hb j
    have hc := cy_le (R := R) hb j
    have hd := div_vb R j
    have hv := vb_lt R j
    rw [Nat.pow_succ, ← Nat.div_div_eq_div_mul, ih, hd, ← Nat.pow_succ]
    show _ = _ + vb R j / 128
    generalize R / 256 ^ (j + 1) = q at *
    generalize vb R j = x at *
    generalize cy R b j = c at *
    omega
theorem cy_vb {R b : Nat} (hb : b ≤ 1) (j : Nat) : vb (2 * R + b) j = (2 * vb R j + cy R b j) % 256 := by
  have h := cy_div (R := R) hb j
  have hd := div_vb R j
  have hc := cy_le (R := R) hb j
  show (2 * R + b) / 256 ^ j % 256 = _
  rw [h, hd]
  generalize R / 256 ^ (j + 1) = q at *
  generalize vb R j = x at *
  generalize cy R b j = c at *
  omega
theorem or_cy : ∀ (x : Fin 256) (c : Fin 2), bits .or .u8 (((x.1 : Nat) : Int) * 2 % 256) ((c.1 : Nat) : Int) = (((2 * x.1 + c.1) % 256 : Nat) : Int) := by decide +kernel
theorem or_vb {R b : Nat} (hb : b ≤ 1) (j : Nat) : bits .or .u8 (((vb R j : Nat) : Int) * 2 % 256) ((cy R b j : Nat) : Int) = ((vb (2 * R + b) j : Nat) : Int) := by
  rw [cy_vb hb]
  exact or_cy ⟨vb R j, vb_lt R j⟩ ⟨cy R b j, by have := cy_le (R := R) hb j; omega⟩
/-- The row of twice R and b ahead of byte j. -/
def dl (R b j : Nat) : List Nat := (List.range 32).map fun k => if k < j then vb (2 * R + b) k else vb R k
theorem dl_zero (R b : Nat) : dl R b 0 = vbl R := by simp [dl, vbl]
theorem dl_all (R b : Nat) : dl R b 32 = vbl (2 * R + b) := by
  unfold dl vbl
  apply List.map_congr_left
  intro j hj
  rw [if_pos (by simpa using hj)]
theorem dl_len (R b i : Nat) : (dl R b i).length = 32 := by simp [dl]
theorem dl_get (R b i : Nat) (h : i < 32) : (dl R b i).getD i 0 = vb R i := by simp [dl, h]
theorem dl_set (R b i : Nat) (h : i < 32) : (dl R b i).set i (vb (2 * R + b) i) = dl R b (i + 1) := by
  apply List.ext_getElem
  · simp [dl]
  · intro j h1 h2
    rw [List.getElem_set]
    split
    · rename_i e
      subst e
      simp [dl]
    · rename_i e
      simp only [dl, List.getElem_map, List.getElem_range]
      by_cases hji : j < i
      · rw [if_pos hji, if_pos (by omega)]
      · rw [if_neg hji, if_neg (by omega)]
/-- What is taken away of twice a number below L and a bit. -/
theorem less_mod {S : Nat} (h : S < 2 * Lq) : S % Lq = if S < Lq then S else S - Lq := by
  split
  · rename_i h1; exact Nat.mod_eq_of_lt h1
  · rename_i h1
    rw [Nat.mod_eq_sub_mod (by omega), Nat.mod_eq_of_lt (by omega)]
theorem rd_high (s : ByteArray) (j : Nat) : ∀ d, ∃ c, rd s (j + 1 + d) = rd s j + 256 ^ j * (byt s j + 256 * c)
  | 0 => ⟨0, by rw [Nat.add_zero, rd, Nat.mul_zero, Nat.add_zero, Nat.mul_comm]⟩
  | d + 1 => by
    obtain ⟨c, h⟩ := rd_high s j d
    refine ⟨c + byt s (j + 1 + d) * 256 ^ d, ?_⟩
    rw [show j + 1 + (d + 1) = (j + 1 + d) + 1 from rfl, rd, h, Nat.pow_add, Nat.pow_succ, Nat.mul_add, Nat.mul_add, Nat.mul_add, Nat.mul_add]
    have e : byt s (j + 1 + d) * (256 ^ j * 256 * 256 ^ d) = 256 ^ j * (256 * (byt s (j + 1 + d) * 256 ^ d)) := by
      generalize 256 ^ d = y
      generalize 256 ^ j = z
      generalize byt s (j + 1 + d) = x
      rw [Nat.mul_left_comm 256 x y, Nat.mul_left_comm z x, Nat.mul_assoc]
    rw [e]; omega
theorem byt_bit (s : ByteArray) (n i : Nat) (h : i < 8 * n) : byt s (i / 8) / 2 ^ (i % 8) % 2 = rd s n / 2 ^ i % 2 := by
  obtain ⟨c, hc⟩ := rd_high s (i / 8) (n - i / 8 - 1)
  rw [show i / 8 + 1 + (n - i / 8 - 1) = n by omega] at hc
  have h1 := dig_bit (k := 8) (r := i % 8) (by omega) (rd s n) (i / 8)
  rw [Nat.pow_mul, show 8 * (i / 8) + i % 8 = i by omega] at h1
  have h2 : rd s n / 256 ^ (i / 8) % 256 = byt s (i / 8) := by
    rw [hc, Nat.add_mul_div_left _ _ (Nat.pow_pos (by decide)), Nat.div_eq_of_lt (rd_lt s _), Nat.zero_add, Nat.add_mul_mod_self_left, Nat.mod_eq_of_lt (byt_lt s _)]
  rw [← h1, ← h2]
end Go.Proofs.YtpdagpjjlnncbaaDoor.Ord
