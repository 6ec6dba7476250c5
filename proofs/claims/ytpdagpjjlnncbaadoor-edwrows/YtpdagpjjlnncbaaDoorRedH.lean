/-
  The document's numbers: power, Inv. No statement is proved here.
-/
import Derived.Test.YtpdagpjjlnncbaaDoorRedE
import Derived.Test.YtpdagpjjlnncbaaDoorNumN
import Derived.ChangeKeysEq
namespace Go.Proofs.YtpdagpjjlnncbaaDoor
open Go.RowKit Go.Lib Go.BigFrame
set_option linter.unusedVariables false
set_option linter.unusedSimpArgs false
set_option maxRecDepth 1000000
set_option maxHeartbeats 4000000

theorem prod_K19 {A B : Nat} (hA : A < 115792089237316195423570985008687907853269984665640564039457584007913129639936) (hB : B < 115792089237316195423570985008687907853269984665640564039457584007913129639936) : A * B < 3864537523017258344695351890931987344298927329706434998657235251451519142289560424536193766581922577962463616031502177177365078661042987655742908673467080748696980814823424 := by
  have h := Nat.mul_le_mul (Nat.le_of_lt hA) (Nat.le_of_lt hB)
  exact Nat.lt_of_le_of_lt h (by decide)
theorem big_lt {A : Nat} (h : A < Nt.P) : A / 2 ^ (30 * 9) = 0 := big_of (Nat.le_of_lt h)

theorem RW.setRow {V : World} {b t : Nat} {l : List Nat} (h : RW V b t l) (m : List Nat) : RW (V.setRow b (wc m)) b t m := setRow_heap V b _ _ t _ h
theorem RW.setRow_other {V : World} {b b' t : Nat} {l : List Nat} (h : RW V b t l) (hne : b ≠ b') (c : Array Value) : RW (V.setRow b' c) b t l := by
  unfold RW
  rw [Go.setRow_other V b' b c hne]; exact h
theorem wc_one (l : List Nat) : (wc l).all (·.oneCell') = true := by
  rw [Array.all_eq_true_iff_forall_mem]
  intro v hv
  simp [wc] at hv
  obtain ⟨x, _, rfl⟩ := hv
  rfl
theorem wc_size (l : List Nat) : (wc l).size = l.length := by simp [wc]
theorem info36 : (Tryd.prog.info? 34).map (·.size) = some 9 := by kernel_rfl
theorem wpList_store_36 {w : World} {ops : Array Oper} {rest : List Oper} {o : Oper} {a : Act} {Q : Exit → Act → World → Prop} (hgd : o.guard = none) (x y : Operand) (ho : o.op = .store 34 x y)
    (g : Nat) (l m : List Nat) (t : Nat) (hx : a.eval x = .pointer (some ⟨g, 0, none⟩)) (hy : a.eval y = .agg (wc m)) (hl : l.length = 9) (hm : m.length = 9) (hg : RW w g t l)
    (h : ∀ W, W = w.setRow g (wc m) → wpList Tryd.prog ops Q rest (a.put o.dst undef) W) : wpList Tryd.prog ops Q (o :: rest) a w :=
  wpList_store_row hgd 34 x y ho g (wc m) hx hy t (wc l) hg (by rw [wc_size, hm]; exact info36) (by rw [wc_size, wc_size, hl, hm]) (wc_one _) (h _ rfl)
/-- The bits of a text of 0 and 1, behind 250 ones. -/
def bt (s : ByteArray) (i : Nat) : Bool := decide (i < 250) || decide (byt s (i - 250) = 49)
/-- What power has ahead of step i. -/
def px (a : Nat) (s : ByteArray) : Nat → Nat
  | 0 => 1
  | i + 1 => pb a (px a s i) (bt s i)
theorem px_ltP (a : Nat) (s : ByteArray) : ∀ i, px a s i < Nt.P
  | 0 => by have := Nt.P_two; unfold px; omega
  | i + 1 => Nat.mod_lt _ P_pos
theorem pb_true (a r : Nat) : pb a r true = r * r % Nt.P * a % Nt.P := rfl
theorem pb_false (a r : Nat) : pb a r false = r * r % Nt.P := by
  unfold pb
  rw [cond_false, Nat.mul_one, Nat.mod_mod]
theorem px_ones (a : Nat) (s : ByteArray) : ∀ i, i ≤ 250 → px a s i = pw a i
  | 0, _ => by
    have := Nt.P_two
    unfold px pw
    rw [ex_def, Nat.pow_zero, Nat.mod_eq_of_lt (by omega)]
  | i + 1, h => by
    rw [px, px_ones a s i (by omega), show bt s i = true from by unfold bt; simp; omega]
    unfold pw
    rw [pb_pow, cond_true]
    have e : ex (i + 1) = 2 * ex i + 1 := by
      rw [ex_def, ex_def, Nat.pow_succ]
      have := Nat.two_pow_pos i
      omega
    rw [e]
theorem rpower_any (a : Nat) (ha : a < Nt.P) (s : ByteArray) (hs : s.size ≤ 100) (w : World) : Calls Tryd.prog 73 #[nd a, .int .i64 250, .string s] w fun e w' => e = .returned (nd (px a s (250 + s.size))) ∧ Fr [] w w' := by
  have HS := hid (p := _) hs
  have KM := hid (p := _) (fun x y (hx : x < Nt.P) (hy : y < Nt.P) W => rmul_any x y (big_lt hx) (big_lt hy) (prod_K19 (lt4 hx) (lt4 hy)) W)
  have K1 : ∀ W : World, Calls Tryd.prog 37 #[.int .u32 1] W fun e w' => e = .returned (nd 1) ∧ Fr [] W w' := fun W => rsmall_any 1 (by decide) W
  obtain ⟨a0, a1, a2, a3, a4, a5, a6, a7, a8, ea, wa⟩ := nd_open a
  obtain ⟨o0, o1, o2, o3, o4, o5, o6, o7, o8, eo, wo⟩ := nd_open 1
  obtain ⟨c0, c1, c2, c3, c4, c5, c6, c7, c8, ec, wc'⟩ := nd_open (px a s (250 + s.size))
  rw [wo] at K1
  rw [wa, wc']
  have H1 := hid (p := _) K1
  have HA := hid (p := _) ea
  have HO := hid (p := _) eo
  have HC := hid (p := _) ec
  have HP := hid (p := _) ha
  clear wa wo wc' ea eo ec K1 ha
  have hsi : (s.size : Int) ≤ 100 := by omega
  have hw : IntKind.i64.wrap (250 + (s.size : Int)) = 250 + (s.size : Int) := by rw [IntKind.wrap_i64]; omega
  go_enter Tryd.func73, Tryd.ntmps73
  go_wp2_with (go_at_call 37; with_reducible refine (H1.out _).mono ?_; rintro e V ⟨rfl, hF⟩; have FV := hid (p := _) ((((Fr.refl [] w).alloc _).alloc _).trans0 hF); have A0 := hid (p := _) (((RW.of9 (heap_new0 w _)).alloc _).fr hF); have Z0 := hid (p := _) ((RW.ofz (heap_new1 w _ _)).fr hF); clear hF)
  have ZV := Z0.out.lt
  go_loopg [8] (250 + s.size) (fun gk q wr => ∃ i : Nat, i ≤ 250 + s.size ∧ gk = 250 + s.size - i ∧ q = .int .i64 i ∧ Hid (Fr [] w wr ∧ RW wr w.heap.size 34 (dts a) ∧ RW wr (w.heap.size + 1) 34 [0, 0, 0, 0, 0, 0, 0, 0, 0] ∧ RW wr V.heap.size 34 (dts (px a s i))))
  case atStart =>
    refine ⟨0, Nat.zero_le _, rfl, rfl, hid ⟨FV.out.alloc _, ?_, Z0.out.alloc _, ?_⟩⟩
    · rw [HA.out]; exact A0.out.alloc _
    · rw [px, HO.out]; exact RW.of9 (heap_new0 V _)
  case round =>
    obtain ⟨i, hi, hgk, rfl, K⟩ := hrel
    by_cases hlt : i < 250 + s.size
    · have hlt' : (i : Int) < 250 + (s.size : Int) := by omega
      have hx := px_ltP a s i
      have hy : px a s i * px a s i % Nt.P < Nt.P := Nat.mod_lt _ P_pos
      have N1 := fun W => KM.out _ _ hx hx W
      have N2 := fun W => KM.out _ _ hy HP.out W
      have en : px a s (i + 1) = bif bt s i then px a s i * px a s i % Nt.P * a % Nt.P else px a s i * px a s i % Nt.P := by
        rw [px]
        cases bt s i
        · exact pb_false _ _
        · exact pb_true _ _
      have HE := hid (p := _) en
      obtain ⟨x0, x1, x2, x3, x4, x5, x6, x7, x8, ex', wx⟩ := nd_open (px a s i)
      obtain ⟨y0, y1, y2, y3, y4, y5, y6, y7, y8, ey, wy⟩ := nd_open (px a s i * px a s i % Nt.P)
      obtain ⟨z0, z1, z2, z3, z4, z5, z6, z7, z8, ez, wz⟩ := nd_open (px a s i * px a s i % Nt.P * a % Nt.P)
      have wa : nd a = .agg #[.int .u64 (a0 : Nat), .int .u64 (a1 : Nat), .int .u64 (a2 : Nat), .int .u64 (a3 : Nat), .int .u64 (a4 : Nat), .int .u64 (a5 : Nat), .int .u64 (a6 : Nat), .int .u64 (a7 : Nat), .int .u64 (a8 : Nat)] := by unfold nd; rw [HA.out]; rfl
      rw [wx, wy] at N1
      rw [wy, wa, wz] at N2
      have HM1 := hid (p := _) N1
      have HM2 := hid (p := _) N2
      have HX := hid (p := _) ex'
      have HY := hid (p := _) ey
      have HZ := hid (p := _) ez
      have X := K.out.2.2.2
      have A := K.out.2.1
      rw [ex'] at X
      rw [HA.out] at A
      have KF := hid (p := _) K.out.1
      have KA := hid (p := _) A
      have KZ := hid (p := _) K.out.2.2.1
      have KX := hid (p := _) X
      obtain ⟨_, _, _, _, _, _, _, _, _, _, _, _, _, _, _, _, _, _, _, _⟩ := X.all
      clear hx hy N1 N2 en ex' ey ez wx wy wz wa X A K
      have hbit : (bt s i = true ∧ (i : Int) < 250) ∨ (∃ j : Nat, ¬ (i : Int) < 250 ∧ (i : Int) - 250 = (j : Int) ∧ j < s.size ∧ bt s i = decide (byt s j = 49)) := by
        by_cases hq : i < 250
        · exact .inl ⟨by unfold bt; simp [hq], by omega⟩
        · exact .inr ⟨i - 250, by omega, by omega, by omega, by unfold bt; simp [hq]⟩
      rcases hbit with ⟨hb, hq⟩ | ⟨j, hq, hsub, hj, hb⟩
      · as_aux_lemma =>
          have hge : w.heap.size ≤ V.heap.size := by omega
          have hn1 : w.heap.size ≠ V.heap.size := by omega
          have hn2 : w.heap.size + 1 ≠ V.heap.size := by omega
          go_wp2_with (first | (go_at_call 36; with_reducible refine (HM1.out _).mono ?_; rintro e V1 ⟨rfl, hF⟩; have F1 := hid (p := _) (KF.out.trans0 hF); have X1 := hid (p := _) (KX.out.fr hF); have A1 := hid (p := _) (KA.out.fr hF); have Z1 := hid (p := _) (KZ.out.fr hF); clear hF HM1) | (refine wpList_store_36 rfl (.tmp 7) (.tmp 20) rfl V.heap.size [x0, x1, x2, x3, x4, x5, x6, x7, x8] [y0, y1, y2, y3, y4, y5, y6, y7, y8] 34 rfl rfl rfl rfl X1.out ?_; intro W1 hW; have F3 := hid (p := _) (show Fr [] w W1 from hW ▸ F1.out.setRow (.inr hge) _); have X3 := (show RW W1 V.heap.size 34 [y0, y1, y2, y3, y4, y5, y6, y7, y8] from hW ▸ X1.out.setRow _); have A3 := (show RW W1 w.heap.size 34 [a0, a1, a2, a3, a4, a5, a6, a7, a8] from hW ▸ A1.out.setRow_other hn1 _); have Z3 := hid (p := _) (show RW W1 (w.heap.size + 1) 34 [0, 0, 0, 0, 0, 0, 0, 0, 0] from hW ▸ Z1.out.setRow_other hn2 _); obtain ⟨_, _, _, _, _, _, _, _, _, _, _, _, _, _, _, _, _, _, _, _⟩ := X3.all; obtain ⟨_, _, _, _, _, _, _, _, _, _, _, _, _, _, _, _, _, _, _, _⟩ := A3.all; have HX3 := hid (p := _) X3; have HA3 := hid (p := _) A3; clear hW X3 A3 F1 X1 A1 Z1) | (go_at_call 36; with_reducible refine (HM2.out _).mono ?_; rintro e V2 ⟨rfl, hF⟩; have F4 := hid (p := _) (F3.out.trans0 hF); have X4 := hid (p := _) (HX3.out.fr hF); have A4 := hid (p := _) (HA3.out.fr hF); have Z4 := hid (p := _) (Z3.out.fr hF); clear hF HM2) | (refine wpList_store_36 rfl (.tmp 7) (.tmp 34) rfl V.heap.size [y0, y1, y2, y3, y4, y5, y6, y7, y8] [z0, z1, z2, z3, z4, z5, z6, z7, z8] 34 rfl rfl rfl rfl X4.out ?_; intro W2 hW; have F5 := hid (p := _) (show Fr [] w W2 from hW ▸ F4.out.setRow (.inr hge) _); have X5 := hid (p := _) (show RW W2 V.heap.size 34 [z0, z1, z2, z3, z4, z5, z6, z7, z8] from hW ▸ X4.out.setRow _); have A5 := hid (p := _) (show RW W2 w.heap.size 34 [a0, a1, a2, a3, a4, a5, a6, a7, a8] from hW ▸ A4.out.setRow_other hn1 _); have Z5 := hid (p := _) (show RW W2 (w.heap.size + 1) 34 [0, 0, 0, 0, 0, 0, 0, 0, 0] from hW ▸ Z4.out.setRow_other hn2 _); clear hW F4 X4 A4 Z4))
          go_roundg (250 + s.size - (i + 1))
          case measure => omega
          case rel =>
            refine ⟨i + 1, by omega, rfl, by go_num, hid ⟨F5.out, ?_, Z5.out, ?_⟩⟩
            · rw [HA.out]; exact A5.out
            · rw [HE.out, hb, cond_true, HZ.out]; exact X5.out
      · have h1 := byt_get s j hj
        have hB := byt_lt s j
        by_cases h49 : byt s j = 49
        · rw [decide_eq_true h49] at hb
          rw [h49] at h1
          as_aux_lemma =>
            have hge : w.heap.size ≤ V.heap.size := by omega
            have hn1 : w.heap.size ≠ V.heap.size := by omega
            have hn2 : w.heap.size + 1 ≠ V.heap.size := by omega
            go_wp2_with (first | (go_at_call 36; with_reducible refine (HM1.out _).mono ?_; rintro e V1 ⟨rfl, hF⟩; have F1 := hid (p := _) (KF.out.trans0 hF); have X1 := hid (p := _) (KX.out.fr hF); have A1 := hid (p := _) (KA.out.fr hF); have Z1 := hid (p := _) (KZ.out.fr hF); clear hF HM1) | (refine wpList_store_36 rfl (.tmp 7) (.tmp 20) rfl V.heap.size [x0, x1, x2, x3, x4, x5, x6, x7, x8] [y0, y1, y2, y3, y4, y5, y6, y7, y8] 34 rfl rfl rfl rfl X1.out ?_; intro W1 hW; have F3 := hid (p := _) (show Fr [] w W1 from hW ▸ F1.out.setRow (.inr hge) _); have X3 := (show RW W1 V.heap.size 34 [y0, y1, y2, y3, y4, y5, y6, y7, y8] from hW ▸ X1.out.setRow _); have A3 := (show RW W1 w.heap.size 34 [a0, a1, a2, a3, a4, a5, a6, a7, a8] from hW ▸ A1.out.setRow_other hn1 _); have Z3 := hid (p := _) (show RW W1 (w.heap.size + 1) 34 [0, 0, 0, 0, 0, 0, 0, 0, 0] from hW ▸ Z1.out.setRow_other hn2 _); obtain ⟨_, _, _, _, _, _, _, _, _, _, _, _, _, _, _, _, _, _, _, _⟩ := X3.all; obtain ⟨_, _, _, _, _, _, _, _, _, _, _, _, _, _, _, _, _, _, _, _⟩ := A3.all; have HX3 := hid (p := _) X3; have HA3 := hid (p := _) A3; clear hW X3 A3 F1 X1 A1 Z1) | (go_at_call 36; with_reducible refine (HM2.out _).mono ?_; rintro e V2 ⟨rfl, hF⟩; have F4 := hid (p := _) (F3.out.trans0 hF); have X4 := hid (p := _) (HX3.out.fr hF); have A4 := hid (p := _) (HA3.out.fr hF); have Z4 := hid (p := _) (Z3.out.fr hF); clear hF HM2) | (refine wpList_store_36 rfl (.tmp 7) (.tmp 34) rfl V.heap.size [y0, y1, y2, y3, y4, y5, y6, y7, y8] [z0, z1, z2, z3, z4, z5, z6, z7, z8] 34 rfl rfl rfl rfl X4.out ?_; intro W2 hW; have F5 := hid (p := _) (show Fr [] w W2 from hW ▸ F4.out.setRow (.inr hge) _); have X5 := hid (p := _) (show RW W2 V.heap.size 34 [z0, z1, z2, z3, z4, z5, z6, z7, z8] from hW ▸ X4.out.setRow _); have A5 := hid (p := _) (show RW W2 w.heap.size 34 [a0, a1, a2, a3, a4, a5, a6, a7, a8] from hW ▸ A4.out.setRow_other hn1 _); have Z5 := hid (p := _) (show RW W2 (w.heap.size + 1) 34 [0, 0, 0, 0, 0, 0, 0, 0, 0] from hW ▸ Z4.out.setRow_other hn2 _); clear hW F4 X4 A4 Z4))
            go_roundg (250 + s.size - (i + 1))
            case measure => omega
            case rel =>
              refine ⟨i + 1, by omega, rfl, by go_num, hid ⟨F5.out, ?_, Z5.out, ?_⟩⟩
              · rw [HA.out]; exact A5.out
              · rw [HE.out, hb, cond_true, HZ.out]; exact X5.out
        · rw [decide_eq_false h49] at hb
          have h49' : ¬ ((byt s j : Nat) : Int) = 49 := by omega
          have h49b : (((byt s j : Nat) : Int) == 49) = false := beq_eq_false_iff_ne.2 h49'
          as_aux_lemma =>
            have hge : w.heap.size ≤ V.heap.size := by omega
            have hn1 : w.heap.size ≠ V.heap.size := by omega
            have hn2 : w.heap.size + 1 ≠ V.heap.size := by omega
            go_wp2_with (first | (go_at_call 36; with_reducible refine (HM1.out _).mono ?_; rintro e V1 ⟨rfl, hF⟩; have F1 := hid (p := _) (KF.out.trans0 hF); have X1 := hid (p := _) (KX.out.fr hF); have A1 := hid (p := _) (KA.out.fr hF); have Z1 := hid (p := _) (KZ.out.fr hF); clear hF HM1) | (refine wpList_store_36 rfl (.tmp 7) (.tmp 20) rfl V.heap.size [x0, x1, x2, x3, x4, x5, x6, x7, x8] [y0, y1, y2, y3, y4, y5, y6, y7, y8] 34 rfl rfl rfl rfl X1.out ?_; intro W1 hW; have F3 := hid (p := _) (show Fr [] w W1 from hW ▸ F1.out.setRow (.inr hge) _); have X3 := (show RW W1 V.heap.size 34 [y0, y1, y2, y3, y4, y5, y6, y7, y8] from hW ▸ X1.out.setRow _); have A3 := (show RW W1 w.heap.size 34 [a0, a1, a2, a3, a4, a5, a6, a7, a8] from hW ▸ A1.out.setRow_other hn1 _); have Z3 := hid (p := _) (show RW W1 (w.heap.size + 1) 34 [0, 0, 0, 0, 0, 0, 0, 0, 0] from hW ▸ Z1.out.setRow_other hn2 _); obtain ⟨_, _, _, _, _, _, _, _, _, _, _, _, _, _, _, _, _, _, _, _⟩ := X3.all; obtain ⟨_, _, _, _, _, _, _, _, _, _, _, _, _, _, _, _, _, _, _, _⟩ := A3.all; have HX3 := hid (p := _) X3; have HA3 := hid (p := _) A3; clear hW X3 A3 F1 X1 A1 Z1))
            go_roundg (250 + s.size - (i + 1))
            case measure => omega
            case rel =>
              refine ⟨i + 1, by omega, rfl, by go_num, hid ⟨F3.out, ?_, Z3.out, ?_⟩⟩
              · rw [HA.out]; exact HA3.out
              · rw [HE.out, hb, cond_false, HY.out]; exact HX3.out
    · obtain rfl : i = 250 + s.size := by omega
      have hlt' : ¬ ((250 + s.size : Nat) : Int) < 250 + (s.size : Int) := by omega
      have C := K.out.2.2.2
      rw [HC.out] at C
      have Z := K.out.2.2.1
      have F := K.out.1
      obtain ⟨_, _, _, _, _, _, _, _, _, _, _, _, _, _, _, _, _, _, _, _⟩ := C.all
      obtain ⟨_, _, _, _, _, _, _, _, _, _, _, _, _, _, _, _, _, _, _, _⟩ := Z.all
      clear K HS HC hw hgk hi
      go_wp2_with fail
      simp [bodyPost, results, Tryd.results73, go_sem, *]
      exact F.set9 (by omega) _ _ _ _ _ _ _ _ _
end Go.Proofs.YtpdagpjjlnncbaaDoor
namespace Go.Proofs.YtpdagpjjlnncbaaDoor
open Go.RowKit Go.Lib Go.BigFrame
set_option linter.unusedVariables false
set_option linter.unusedSimpArgs false
set_option maxRecDepth 1000000
set_option maxHeartbeats 4000000

def tInv : ByteArray := ⟨#[48, 49, 48, 49, 49]⟩
def tRt : ByteArray := ⟨#[49, 48]⟩
def tI : ByteArray := ⟨#[48, 49, 49]⟩
theorem px_step (a : Nat) (s : ByteArray) (n : Nat) : px a s (n + 1) = pb a (px a s n) (bt s n) := by rw [px]
theorem px_inv_gen (a n : Nat) (s : ByteArray) (x : Nat) (hx : px a s n = x) (h0 : bt s (n) = false) (h1 : bt s (n + 1) = true) (h2 : bt s (n + 1 + 1) = false) (h3 : bt s (n + 1 + 1 + 1) = true) (h4 : bt s (n + 1 + 1 + 1 + 1) = true) : px a s (n + 5) = [false, true, false, true, true].foldl (pb a) x := by
  rw [show n + 5 = n + 1 + 1 + 1 + 1 + 1 from rfl, px_step, px_step, px_step, px_step, px_step, hx, h0, h1, h2, h3, h4]; rfl
theorem px_rt_gen (a n : Nat) (s : ByteArray) (x : Nat) (hx : px a s n = x) (h0 : bt s (n) = true) (h1 : bt s (n + 1) = false) : px a s (n + 2) = [true, false].foldl (pb a) x := by
  rw [show n + 2 = n + 1 + 1 from rfl, px_step, px_step, hx, h0, h1]; rfl
theorem px_i_gen (a n : Nat) (s : ByteArray) (x : Nat) (hx : px a s n = x) (h0 : bt s (n) = false) (h1 : bt s (n + 1) = true) (h2 : bt s (n + 1 + 1) = true) : px a s (n + 3) = [false, true, true].foldl (pb a) x := by
  rw [show n + 3 = n + 1 + 1 + 1 from rfl, px_step, px_step, px_step, hx, h0, h1, h2]; rfl
theorem bt_tInv0 : bt tInv (250) = false := by decide +kernel
theorem bt_tInv1 : bt tInv (250 + 1) = true := by decide +kernel
theorem bt_tInv2 : bt tInv (250 + 1 + 1) = false := by decide +kernel
theorem bt_tInv3 : bt tInv (250 + 1 + 1 + 1) = true := by decide +kernel
theorem bt_tInv4 : bt tInv (250 + 1 + 1 + 1 + 1) = true := by decide +kernel
theorem bt_tRt0 : bt tRt (250) = true := by decide +kernel
theorem bt_tRt1 : bt tRt (250 + 1) = false := by decide +kernel
theorem bt_tI0 : bt tI (250) = false := by decide +kernel
theorem bt_tI1 : bt tI (250 + 1) = true := by decide +kernel
theorem bt_tI2 : bt tI (250 + 1 + 1) = true := by decide +kernel
theorem px_inv (a : Nat) : px a tInv (250 + tInv.size) = iv a := by
  rw [show tInv.size = 5 from rfl, px_inv_gen a 250 tInv (pw a 250) (px_ones a tInv 250 (Nat.le_refl _)) bt_tInv0 bt_tInv1 bt_tInv2 bt_tInv3 bt_tInv4]
  exact inv_pws a
theorem px_rt (a : Nat) : px a tRt (250 + tRt.size) = Nt.c1 a := by
  rw [show tRt.size = 2 from rfl, px_rt_gen a 250 tRt (pw a 250) (px_ones a tRt 250 (Nat.le_refl _)) bt_tRt0 bt_tRt1]
  exact root_pws a
theorem i_pows (a x : Nat) : [false, true, true].foldl (pb a) (a ^ x % Nt.P) = a ^ (2 * (2 * (2 * x + 0) + 1) + 1) % Nt.P := by
  simp only [List.foldl, pb_pow, cond_true, cond_false]
theorem i_exp : 2 * (2 * (2 * ex 250 + 0) + 1) + 1 = 2 * Nt.K + 1 := by rw [Nt.K_val, ex_def]
theorem i_pm (a : Nat) : a ^ (2 * Nt.K + 1) % Nt.P = Nt.pm Nt.P 255 a (2 * Nt.K + 1) := (Nt.pm_eq Nt.P 255 a _ (by rw [Nt.K_val]; decide +kernel)).symm
theorem i_gen (t : Nat) (ht : t = 2) : t ^ (2 * Nt.K + 1) % Nt.P = Nt.I := by
  rw [i_pm, ht, Nt.P_val, Nt.K_val, Nt.I_val]; decide +kernel
theorem px_i (t : Nat) (ht : t = 2) : px t tI (250 + tI.size) = Nt.I := by
  rw [show tI.size = 3 from rfl, px_i_gen t 250 tI (pw t 250) (px_ones t tI 250 (Nat.le_refl _)) bt_tI0 bt_tI1 bt_tI2]
  unfold pw
  rw [i_pows, i_exp, i_gen t ht]
theorem rinv_any (a : Nat) (ha : a < Nt.P) (w : World) : Calls Tryd.prog 40 #[nd a] w fun e w' => e = .returned (nd (iv a)) ∧ Fr [] w w' := by
  have K := fun W => rpower_any a ha tInv (by decide) W
  rw [px_inv] at K
  obtain ⟨a0, a1, a2, a3, a4, a5, a6, a7, a8, ea, wa⟩ := nd_open a
  obtain ⟨c0, c1, c2, c3, c4, c5, c6, c7, c8, ec, wc'⟩ := nd_open (iv a)
  rw [wa, wc'] at K
  rw [wa, wc']
  have H : Hid (∀ W : World, Calls Tryd.prog 73 #[.agg #[.int .u64 (a0 : Nat), .int .u64 (a1 : Nat), .int .u64 (a2 : Nat), .int .u64 (a3 : Nat), .int .u64 (a4 : Nat), .int .u64 (a5 : Nat), .int .u64 (a6 : Nat), .int .u64 (a7 : Nat), .int .u64 (a8 : Nat)], .int .i64 250, .string ⟨#[48, 49, 48, 49, 49]⟩] W fun e w' => e = .returned (.agg #[.int .u64 (c0 : Nat), .int .u64 (c1 : Nat), .int .u64 (c2 : Nat), .int .u64 (c3 : Nat), .int .u64 (c4 : Nat), .int .u64 (c5 : Nat), .int .u64 (c6 : Nat), .int .u64 (c7 : Nat), .int .u64 (c8 : Nat)]) ∧ Fr [] W w') := hid K
  clear K wa wc' ea ec ha
  go_enter Tryd.func40, Tryd.ntmps40
  go_wp2_with (go_at_call 73; with_reducible refine (H.out _).mono ?_; rintro e V ⟨rfl, hF⟩; have F := hid (p := _) ((((Fr.refl [] w).alloc _).alloc _).trans0 hF); have Z := (RW.ofz (heap_new1 w _ _)).fr hF; obtain ⟨_, _, _, _, _, _, _, _, _, _, _, _, _, _, _, _, _, _, _, _⟩ := Z.all; clear hF)
  simp [bodyPost, results, Tryd.results40, go_sem, *]
  exact F.out.set9 (by omega) _ _ _ _ _ _ _ _ _
/-- What the document's Root answers. -/
def rq (a : Nat) (odd : Bool) : Nat := bif decide (Nt.rt a * Nt.rt a % Nt.P = a) then rs a odd else 0
def ry (a : Nat) (odd : Bool) : Bool := decide (Nt.rt a * Nt.rt a % Nt.P = a) && (decide (rs a odd % 2 = 1) == odd)
theorem ry_ok (a : Nat) (odd : Bool) : ok a odd = ry a odd := by
  unfold ok ry
  rw [rs_sq]
  cases decide (rs a odd % 2 = 1) <;> cases odd <;> simp
theorem rq_gen (x : Bool) (k r : Nat) (h : x = true → k = r) (h2 : x = false → k = 0) : k = bif x then r else 0 := by
  cases x
  · exact h2 rfl
  · exact h rfl
theorem rq_ro (a : Nat) (ha : a < Nt.P) (odd : Bool) : ro a odd = rq a odd := by
  by_cases h0 : a = 0
  · have e1 : rs a odd = 0 := rs_zero a odd h0
    have e2 : ro a odd = 0 := by
      cases h : ok a odd
      · exact ro_no h
      · rw [ro_yes h, e1]
    rw [e2]
    exact rq_gen _ _ _ (fun _ => e1.symm) (fun _ => rfl)
  · by_cases h : Nt.has a
    · rw [ro_yes (ok_has odd (by omega) h)]
      exact rq_gen _ _ _ (fun _ => rfl) (fun hx => absurd (show Nt.rt a * Nt.rt a % Nt.P = a from h) (of_decide_eq_false hx))
    · rw [ro_no (ok_not odd h)]
      exact rq_gen _ _ _ (fun hx => absurd (of_decide_eq_true hx) h) (fun _ => rfl)
end Go.Proofs.YtpdagpjjlnncbaaDoor
namespace Go.Proofs.YtpdagpjjlnncbaaDoor
open Go.RowKit Go.Lib Go.BigFrame
set_option linter.unusedVariables false
set_option linter.unusedSimpArgs false
set_option maxRecDepth 1000000
set_option maxHeartbeats 4000000

theorem eqItems9 (w : World) (xs ys : List Nat) : ∀ is : List Nat, (∀ i ∈ is, i < xs.length ∧ i < ys.length) → (Op.eqItems 9999 23 1 (wc xs) (wc ys) is).run Tryd.prog w = .ok (is.all fun i => decide (xs.getD i 0 = ys.getD i 0)) w
  | [], _ => by simp [Op.eqItems]
  | i :: is, h => by
    obtain ⟨h1, h2⟩ := h i (by simp)
    have ih := eqItems9 w xs ys is (fun j hj => h j (by simp [hj]))
    have hp : Tryd.prog.plainKey 23 = true := by kernel_rfl
    have p1 := run_part_plain (P := Tryd.prog) w hp (xs := wc xs) (off := i * 1) (v := .int .u64 ((xs.getD i 0 : Nat) : Int)) (by simp [wc, h1])
    have p2 := run_part_plain (P := Tryd.prog) w hp (xs := wc ys) (off := i * 1) (v := .int .u64 ((ys.getD i 0 : Nat) : Int)) (by simp [wc, h2])
    have p3 := run_equalIn_int (P := Tryd.prog) w 9998 23 .u64 .u64 ((xs.getD i 0 : Nat) : Int) ((ys.getD i 0 : Nat) : Int) Tryd.underlying23
    simp only [Op.eqItems, Sem.run_bind, p1, p2, p3, Result.andThen_ok, List.all_cons]
    by_cases he : xs.getD i 0 = ys.getD i 0
    · simp only [he, beq_self_eq_true, Bool.not_true, decide_true, Bool.true_and, Bool.false_eq_true, if_false]
      exact ih
    · have hn : (((xs.getD i 0 : Nat) : Int) == ((ys.getD i 0 : Nat) : Int)) = false := by rw [beq_eq_false_iff_ne]; omega
      simp only [hn, he, Bool.not_false, decide_false, Bool.false_and, if_true, Sem.run_pure]
theorem all_get (xs ys : List Nat) (h : xs.length = ys.length) : (List.range xs.length).all (fun i => decide (xs.getD i 0 = ys.getD i 0)) = decide (xs = ys) := by
  rw [Bool.eq_iff_iff, List.all_eq_true]
  simp only [decide_eq_true_eq, List.mem_range]
  constructor
  · intro hi
    apply List.ext_getElem h
    intro i h1 h2
    have := hi i h1
    simpa [h1, h2] using this
  · rintro rfl _ _; rfl
theorem eql_nd (xs ys : List Nat) (hx : xs.length = 9) (hy : ys.length = 9) (w : World) : (Op.equalIn 10000 34 (.agg (wc xs)) (.agg (wc ys))).run Tryd.prog w = .ok (decide (xs = ys)) w := by
  obtain ⟨i, hi, -, -, -⟩ : ∃ i, Tryd.prog.info? 23 = some i ∧ i.zero = some (.int .u64 0) ∧ i.size = 1 ∧ i.bytes = 8 := infoOf (by kernel_rfl)
  have hc : Tryd.prog.cellsOf 23 = 1 := by kernel_rfl
  rw [run_equalIn_array (P := Tryd.prog) w 9999 (t := 34) (e := 23) (n := 9) _ _ Tryd.underlying34 hi, hc, eqItems9 w xs ys _ (fun j hj => by simp at hj; omega), ← hx, all_get xs ys (by omega)]
theorem dt_par (v : Nat) : dt v 0 % 2 = v % 2 := by unfold dt; rw [Nat.mul_zero, Nat.pow_zero, Nat.div_one]; omega
end Go.Proofs.YtpdagpjjlnncbaaDoor
