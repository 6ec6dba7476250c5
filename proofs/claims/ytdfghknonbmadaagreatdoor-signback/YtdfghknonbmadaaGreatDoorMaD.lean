/-
  num: what powers, inverses and roots of words are as numbers. No statement is proved here.
-/
import Derived.Test.YtdfghknonbmadaaGreatDoorMaA
import Derived.Test.YtdfghknonbmadaaGreatDoorEd
import Derived.Test.YtdfghknonbmadaaGreatDoorNuG
import Derived.Test.YtdfghknonbmadaaGreatDoorEwD
import Derived.Deep.RegionHeld3
namespace Go.Proofs.YtdfghknonbmadaaGreatDoor
namespace Mt
set_option linter.unusedVariables false
set_option linter.unusedSimpArgs false
set_option maxRecDepth 100000
theorem P_is : 57896044618658097711785492504343953926634992332820282019728792003956564819949 = Nt.P := Nt.P_val.symm
theorem mulV (a b : W6) : V (tmX a b) = V a * V b % Nt.P := by rw [mul_X, P_is]
theorem addV {a b : W6} (ha : V a < Nt.P) (hb : V b < Nt.P) : V (adX a b) = (V a + V b) % Nt.P := by
 rw [← P_is] at ha hb ⊢
 exact add_X ha hb
theorem subV {a b : W6} (ha : V a < Nt.P) (hb : V b < Nt.P) : V (sbX a b) = (V a + Nt.P - V b) % Nt.P := by
 rw [← P_is] at ha hb ⊢
 exact sub_X ha hb
def mk (b : Bool) : B6 := bif b then BitVec.allOnes 64 else 0
theorem mkX_is (b : Bool) : mkX b = mk b := by cases b <;> rfl
theorem pk_mk (b : Bool) (x y : W6) : pkW (mk b) x y = bif b then w4 y else w4 x := by
 cases b
 ·exact pk0 x y
 ·exact pk1 x y
theorem pk_V (b : Bool) (x y : W6) : V (pkW (mk b) x y) = bif b then V y else V x := by
 rw [pk_mk]
 cases b <;> rfl
theorem mk_ne (b : Bool) : (mk b != BitVec.ofInt 64 0) = b := by cases b <;> rfl
theorem low_is (a : W6) : lwX a = mk (decide (V a % 2 = 1)) := by
 unfold lwX
 have e : (a.getD 0 0 &&& BitVec.ofInt 64 1).toNat = (a.getD 0 0).toNat % 2 := by
  rw [BitVec.toNat_and, show (BitVec.ofInt 64 1).toNat = 2 ^ 1 - 1 from rfl, Nat.and_two_pow_sub_one_eq_mod]
 have e2 : V a % 2 = (a.getD 0 0).toNat % 2 := by unfold V; omega
 rw [e2]
 have : (a.getD 0 0).toNat % 2 = 0 ∨ (a.getD 0 0).toNat % 2 = 1 := by omega
 rcases this with h | h
 ·rw [h] at e ⊢
  rw [show a.getD 0 0 &&& BitVec.ofInt 64 1 = 0 from BitVec.eq_of_toNat_eq (by rw [e]; rfl)]
  rfl
 ·rw [h] at e ⊢
  rw [show a.getD 0 0 &&& BitVec.ofInt 64 1 = 1 from BitVec.eq_of_toNat_eq (by rw [e]; rfl)]
  rfl
theorem top_or (d : B6) : (d ||| -d) >>> 63 = if d = 0 then 0 else 1 := by
 split
 ·rename_i h; subst h; rfl
 ·rename_i h
  have hd := d.isLt
  have h0 : d.toNat ≠ 0 := fun e => h (BitVec.eq_of_toNat_eq e)
  apply BitVec.eq_of_toNat_eq
  rw [BitVec.toNat_ushiftRight, BitVec.toNat_or, BitVec.toNat_neg, Nat.shiftRight_eq_div_pow, show 2 ^ 64 = 18446744073709551616 from rfl, show 2 ^ 63 = 9223372036854775808 from rfl, show (1 : B6).toNat = 1 from rfl, Nat.mod_eq_of_lt (by omega)]
  have hlt : d.toNat ||| (18446744073709551616 - d.toNat) < 2 ^ 64 := Nat.or_lt_two_pow (n := 64) hd (by show _ < 18446744073709551616; omega)
  rw [show 2 ^ 64 = 18446744073709551616 from rfl] at hlt
  have hge : 9223372036854775808 ≤ d.toNat ||| (18446744073709551616 - d.toNat) := by
   rcases Nat.lt_or_ge d.toNat 9223372036854775808 with hl | hl
   ·exact Nat.le_trans (show 9223372036854775808 ≤ 18446744073709551616 - d.toNat by omega) Nat.right_le_or
   ·exact Nat.le_trans hl Nat.left_le_or
  omega
theorem or0 {a b : B6} : a ||| b = 0 ↔ a = 0 ∧ b = 0 := by
 constructor
 ·intro h
  have := congrArg BitVec.toNat h
  rw [BitVec.toNat_or] at this
  have h1 : a.toNat ≤ a.toNat ||| b.toNat := Nat.left_le_or
  have h2 : b.toNat ≤ a.toNat ||| b.toNat := Nat.right_le_or
  rw [this, show (0 : B6).toNat = 0 from rfl] at h1 h2
  exact ⟨BitVec.eq_of_toNat_eq (by rw [show (0 : B6).toNat = 0 from rfl]; omega), BitVec.eq_of_toNat_eq (by rw [show (0 : B6).toNat = 0 from rfl]; omega)⟩
 ·rintro ⟨rfl, rfl⟩; rfl
theorem xor0 {a b : B6} : a ^^^ b = 0 ↔ a = b := by
 constructor
 ·intro h
  have : a ^^^ b ^^^ b = 0#64 ^^^ b := by rw [h]; rfl
  rwa [BitVec.xor_assoc, BitVec.xor_self, BitVec.xor_zero, BitVec.zero_xor] at this
 ·rintro rfl; exact BitVec.xor_self
theorem V_eq (a b : W6) : V a = V b ↔ (a.getD 0 0 = b.getD 0 0 ∧ a.getD 1 0 = b.getD 1 0 ∧ a.getD 2 0 = b.getD 2 0 ∧ a.getD 3 0 = b.getD 3 0) := by
 constructor
 ·intro h
  have e : w4 a = w4 b := by rw [← enc_V, ← enc_V, h]
  simp only [w4, List.cons.injEq, and_true] at e
  exact e
 ·rintro ⟨h0, h1, h2, h3⟩
  unfold V
  rw [h0, h1, h2, h3]
theorem alike_is (a b : W6) : alW a b = mk (decide (V a = V b)) := by
 unfold alW
 simp only
 rw [top_or]
 by_cases h : V a = V b
 ·rw [decide_eq_true h]
  obtain ⟨h0, h1, h2, h3⟩ := (V_eq a b).1 h
  rw [h0, h1, h2, h3]
  simp only [BitVec.xor_self]
  rfl
 ·rw [decide_eq_false h, if_neg fun e => h ((V_eq a b).2 ?_)]
  ·rfl
  ·rw [or0, or0, or0, xor0, xor0, xor0, xor0] at e
   exact ⟨e.1.1.1, e.1.1.2, e.1.2, e.2⟩
theorem same_is (a b : W6) : smX a b = decide (V a = V b) := by rw [smX, alike_is, mk_ne]
theorem sqX_V (f : W6) : ∀ n, V (sqX tmX f n) = sq (V f) n
 | 0 => rfl
 | n + 1 => by
  show V (tmX (w4 (sqX tmX f n)) (w4 (sqX tmX f n))) = sq (V f) n * sq (V f) n % Nt.P
  rw [mulV, V_w4, sqX_V f n]
theorem jo_V (a b : W6) (n : Nat) : V (joX a b n) = sq (V a) n * V b % Nt.P := by
 unfold joX
 rw [mulV, V_w4, sqX_V]
theorem jo_pw {x y : W6} {a i n : Nat} (s : Nat) (hs : i + n = s) (hx : V x = pw a i) (hy : V y = pw a n) : V (w4 (joX x y n)) = pw a s := by rw [V_w4, jo_V, hx, hy, join_pw, hs]
theorem ones_gen (J : W6 → W6 → Nat → W6) (f : Nat → Nat) (hJ : ∀ x y i n s, i + n = s → V x = f i → V y = f n → V (w4 (J x y n)) = f s) (a : W6) (h1 : V a = f 1) : V (onW J a) = f 250 := by
 unfold onW
 simp only
 have h2 := hJ _ _ 1 1 2 rfl h1 h1
 have h4 := hJ _ _ 2 2 4 rfl h2 h2
 have h5 := hJ _ _ 4 1 5 rfl h4 h1
 have h10 := hJ _ _ 5 5 10 rfl h5 h5
 have h20 := hJ _ _ 10 10 20 rfl h10 h10
 have h40 := hJ _ _ 20 20 40 rfl h20 h20
 have h50 := hJ _ _ 40 10 50 rfl h40 h10
 have h100 := hJ _ _ 50 50 100 rfl h50 h50
 have h200 := hJ _ _ 100 100 200 rfl h100 h100
 rw [← V_w4 (J _ _ 50)]
 exact hJ _ _ 200 50 250 rfl h200 h50
theorem ones_V (a : W6) (ha : V a < Nt.P) : V (onW joX a) = pw (V a) 250 := ones_gen joX (pw (V a)) (fun x y i n s hs hx hy => jo_pw s hs hx hy) a (pw_one ha).symm
theorem pwN_V (l : List Bool) (a r : W6) (x : Nat) (hr : V r = x) : ∀ j, j ≤ l.length → V (pwN tmX pkW zX (l.map fun b => bif b then 1 else 0) a r j) = (l.take j).foldl (pb (V a)) x
 | 0, _ => by rw [List.take_zero]; exact hr
 | j + 1, h => by
  have ih := pwN_V l a r x hr j (by omega)
  show V (tmX (w4 (tmX (w4 (pwN tmX pkW zX (l.map fun b => bif b then 1 else 0) a r j)) (w4 (pwN tmX pkW zX (l.map fun b => bif b then 1 else 0) a r j)))) (w4 (pkW (-((l.map fun b => bif b then 1 else 0 : W6).getD j 0)) (w4 (zX 1)) (w4 a)))) = _
  have hl : j < l.length := by omega
  have e : (l.map fun b => bif b then 1 else 0 : W6).getD j 0 = bif l[j] then 1 else 0 := by
   rw [List.getD_eq_getElem?_getD, List.getElem?_map, List.getElem?_eq_getElem hl]; rfl
  have e2 : -(bif l[j] then 1 else 0 : B6) = mk l[j] := by cases l[j] <;> rfl
  rw [e, e2, mulV, V_w4, mulV, V_w4, V_w4, pk_V, ih, List.take_succ_eq_append_getElem hl, List.foldl_append]
  show _ = pb (V a) (List.foldl (pb (V a)) x (List.take j l)) l[j]
  unfold pb
  rfl
theorem pw_V (l : List Bool) (a : W6) (ha : V a < Nt.P) : V (pwX a (l.map fun b => bif b then 1 else 0)) = pws (V a) l := by
 unfold pwX pwW
 rw [pwN_V l a _ _ (ones_V a ha) _ (by rw [List.length_map]; exact Nat.le_refl _), List.length_map, List.take_length]
 rfl
theorem inv_V (a : W6) (ha : V a < Nt.P) : V (ivX a) = iv (V a) := by
 have h := pw_V [false, true, false, true, true] a ha
 rw [inv_pws] at h
 exact h
theorem sq_is (r a : W6) : sqY r a = mk (decide (V r * V r % Nt.P = V a)) := by
 unfold sqY sqW
 rw [alike_is, V_w4, mulV]
theorem ROM_V : V ROM = Nt.I := by rw [Nt.I_val]; rfl
theorem mk_xor (a b : Bool) : mk a ^^^ mk b = mk (a != b) := by cases a <;> cases b <;> rfl
theorem mk_and (a b : Bool) : mk a &&& ~~~mk b = mk (a && !b) := by cases a <;> cases b <;> rfl
theorem roR_V (a : W6) (odd : Bool) (ha : V a < Nt.P) : V (roR pwX tmX sbX lwX mkX pkW sqY a odd) = rs (V a) odd := by
 unfold roR
 simp only
 have h1 : V (w4 (pwX a [i6 1, i6 0])) = Nt.c1 (V a) := by
  have h := pw_V [true, false] a ha
  rw [root_pws] at h
  rw [V_w4]
  exact h
 generalize w4 (pwX a [i6 1, i6 0]) = r at h1 ⊢
 have h2 : V (w4 (pkW (sqY r a) (w4 (tmX r ROM)) r)) = Nt.rt (V a) := by
  rw [sq_is, V_w4, pk_V, V_w4, mulV, ROM_V, h1]
  exact cond_ite _ _
 generalize w4 (pkW (sqY r a) (w4 (tmX r ROM)) r) = s at h2 ⊢
 rw [V_w4, low_is, mkX_is, mk_xor, pk_V, V_w4, subV (by show 0 < Nt.P; exact P_pos) (by rw [h2]; exact rt_ltP _), h2, show V [0, 0, 0, 0] = 0 from rfl]
 rfl
theorem roI_is (a : W6) (odd : Bool) (ha : V a < Nt.P) : roI pwX tmX sbX lwX mkX pkW sqY a odd = mk (ok (V a) odd) := by
 unfold roI
 rw [sq_is, low_is, mkX_is, mk_xor, mk_and, roR_V a odd ha]
 rfl
theorem root_V (a : W6) (odd : Bool) (ha : V a < Nt.P) : V (roB pwX tmX sbX lwX mkX pkW sqY a odd) = ro (V a) odd := by
 unfold roB
 rw [roI_is a odd ha, pk_V, roR_V a odd ha]
 rfl
theorem root_b (a : W6) (odd : Bool) (ha : V a < Nt.P) : roJ pwX tmX sbX lwX mkX pkW sqY a odd = ok (V a) odd := by
 unfold roJ
 rw [roI_is a odd ha, mk_ne]
end Mt
end Go.Proofs.YtdfghknonbmadaaGreatDoor
namespace Go.Proofs.YtdfghknonbmadaaGreatDoor
open Go.RowKit Go.Lib Go.BigFrame
set_option linter.unusedVariables false
set_option linter.unusedSimpArgs false
set_option maxRecDepth 1000000
set_option maxHeartbeats 4000000
theorem hidN {p : Prop} (h : p) : Hid p := h
def L4 (V : World) (b t : Nat) (v0 v1 v2 v3 : Value) : Prop := V.heap[b]? = some (.cells #[v0, v1, v2, v3] t)
section
variable {V V' : World} {b t : Nat} {v0 v1 v2 v3 : Value}
theorem L4.all (h : L4 V b t v0 v1 v2 v3) : V.cell? ⟨b, 0, none⟩ = some v0 ∧ V.cell? ⟨b, 1, none⟩ = some v1 ∧ V.cell? ⟨b, 2, none⟩ = some v2 ∧ V.cell? ⟨b, 3, none⟩ = some v3 ∧
  V.frozen? ⟨b, 0, none⟩ = false ∧ V.frozen? ⟨b, 1, none⟩ = false ∧ V.frozen? ⟨b, 2, none⟩ = false ∧ V.frozen? ⟨b, 3, none⟩ = false ∧ b < V.heap.size ∧ b ≠ V.heap.size :=
 ⟨cell_of_heap h rfl, cell_of_heap h rfl, cell_of_heap h rfl, cell_of_heap h rfl, frozen_of_heap h, frozen_of_heap h, frozen_of_heap h, frozen_of_heap h, lt_of_heap h, by have := lt_of_heap h; omega⟩
theorem L4.fr (h : L4 V b t v0 v1 v2 v3) (hF : Fr [] V V') : L4 V' b t v0 v1 v2 v3 := hF.heap h (by simp)
theorem L4.new (V : World) (t : Nat) (v0 v1 v2 v3 : Value) : L4 (V.alloc (.cells #[v0, v1, v2, v3] t)) V.heap.size t v0 v1 v2 v3 := (MapKept.heap_alloc V _).1
end
theorem Fr.set4 {w V : World} (h : Fr [] w V) {b : Nat} (hb : w.heap.size ≤ b) (u0 u1 u2 u3 : Value) : Fr [] w ((((V.setCell ⟨b, 0, none⟩ u0).setCell ⟨b, 1, none⟩ u1).setCell ⟨b, 2, none⟩ u2).setCell ⟨b, 3, none⟩ u3) :=
 (((h.setCell (.inr hb) u0).setCell (.inr hb) u1).setCell (.inr hb) u2).setCell (.inr hb) u3
theorem fp_fr {w w' : World} (h : Fp0 w w') : Fr [] w w' := ⟨h.os, h.tape, h.output, h.size, fun k hk _ => h.block k hk (fun h => h)⟩
theorem fr_fp {w w' : World} (h : Fr [] w w') : Fp0 w w' := ⟨h.os, h.tape, h.output, h.size, fun k hk _ => h.block k hk (by simp)⟩
theorem calls_of {P : Program} {f : Nat} {args : Array Value} {W : World} {R : Value → World → Prop} (h : CallR P f args W R) (hb : (callFunc f args).run P W = .ok (.enter f args) W) : Calls P f args W fun e W' => ∃ v, e = .returned v ∧ R v W' := by
 rcases h with ⟨v, W', h1, _⟩ | ⟨_, h⟩
 ·rw [hb] at h1; cases h1
 ·exact h
structure PV (w : World) : Prop where
 c0 : w.cell? ⟨1, 0, none⟩ = some (.int .u64 18446744073709551597)
 c1 : w.cell? ⟨1, 1, none⟩ = some (.int .u64 18446744073709551615)
 c2 : w.cell? ⟨1, 2, none⟩ = some (.int .u64 18446744073709551615)
 c3 : w.cell? ⟨1, 3, none⟩ = some (.int .u64 9223372036854775807)
theorem PV.fr {w w' : World} (h : PV w) (hF : Fr [] w w') : PV w' := ⟨hF.cell h.c0 (by simp), hF.cell h.c1 (by simp), hF.cell h.c2 (by simp), hF.cell h.c3 (by simp)⟩
theorem PV.size {w : World} (h : PV w) : 1 < w.heap.size := World.block_lt_of_cell? w _ h.c0
theorem pv_rel {β : Nat → Nat} {M : Mm} {w : World} (h : Rel GE β M w) : PV w := by
 have e1 := h.pre 1 (by decide)
 have e2 := h.all 1 _ e1 rfl
 rw [h.glob 1 (by decide)] at e2
 exact ⟨e2.cell 0 _ rfl, e2.cell 1 _ rfl, e2.cell 2 _ rfl, e2.cell 3 _ rfl⟩
def cv (a b c d : B6) : Value := .agg #[.int .u64 (a.toNat : Nat), .int .u64 (b.toNat : Nat), .int .u64 (c.toNat : Nat), .int .u64 (d.toNat : Nat)]
theorem canon_walk (l : Tx8) (hl : (txt l).size = 32) (n0 n1 n2 n3 m0 m1 m2 m3 b : B6) (w : World) (hP : PV w)
  (K1 : ∀ W, Fr [] w W → Calls Tryz.prog 92 #[.string (txt l)] W fun e w' => e = .returned (cv n0 n1 n2 n3) ∧ Fr [] W w')
  (K2 : ∀ W, Fr [] w W → Calls Tryz.prog 91 #[cv n0 n1 n2 n3, .agg #[.int .u64 18446744073709551597, .int .u64 18446744073709551615, .int .u64 18446744073709551615, .int .u64 9223372036854775807]] W fun e w' => e = .returned (.tuple #[cv m0 m1 m2 m3, .int .u64 (b.toNat : Nat)]) ∧ Fr [] W w') :
  Calls Tryz.prog 54 #[.string (txt l)] w fun e w' => e = .returned (.bool (((b.toNat : Nat) : Int) != 0)) ∧ Fr [] w w' := by
 unfold cv at K1 K2
 have hsi : ((txt l).size : Int) = 32 := by omega
 have hP2 := hidN (p := _) hP
 have H1 := hidN (p := _) K1
 have H2 := hidN (p := _) K2
 clear K1 K2 hl
 generalize txt l = s at *
 generalize n0.toNat = x0 at *
 generalize n1.toNat = x1 at *
 generalize n2.toNat = x2 at *
 generalize n3.toNat = x3 at *
 generalize m0.toNat = y0 at *
 generalize m1.toNat = y1 at *
 generalize m2.toNat = y2 at *
 generalize m3.toNat = y3 at *
 generalize b.toNat = bb at *
 obtain ⟨q0, q1, q2, q3⟩ := hP
 have hz0 := hP2.out.size
 have hz1 : 1 ≠ w.heap.size := by omega
 have hz2 : w.heap.size ≠ 1 := by omega
 go_enter Tryz.func54, Tryz.ntmps54
 go_wp2_with fail
 go_region_held3 (fun V' => V'.cell? ⟨1, 0, none⟩ = some (.int .u64 18446744073709551597) ∧ V'.cell? ⟨1, 1, none⟩ = some (.int .u64 18446744073709551615) ∧ V'.cell? ⟨1, 2, none⟩ = some (.int .u64 18446744073709551615) ∧ V'.cell? ⟨1, 3, none⟩ = some (.int .u64 9223372036854775807)) (go_keep)
  (first | (go_at_call 92; first | (with_reducible refine (H1.out _ (Fr.refl [] w).drew).mono ?_; rintro e Va ⟨rfl, hF⟩; (have Fa : Fr [] w Va := (by with_reducible exact (Fr.refl [] w).drew.trans0 hF); obtain ⟨_, _, _, _⟩ := hP2.out.fr Fa; have hna : Va.heap.size ≠ 1 := (by have := (hP2.out.fr Fa).size; omega); clear hF)) | (refine (H1.out _ ((Fr.refl [] w).alloc _).drew).mono ?_; rintro e Va ⟨rfl, hF⟩; (have Fa : Fr [] w Va := ((Fr.refl [] w).alloc _).drew.trans0 hF; have Oa : L4 Va w.heap.size 57 (.int .u64 0) (.int .u64 0) (.int .u64 0) (.int .u64 0) := (L4.new w 57 _ _ _ _).fr ((Fr.refl [] _).drew.trans0 hF); obtain ⟨_, _, _, _⟩ := hP2.out.fr Fa; have hna : Va.heap.size ≠ 1 := (by have := (hP2.out.fr Fa).size; omega); clear hF))) | (go_at_call 91; first | (with_reducible refine (H2.out _ Fa).mono ?_; rintro e Vb ⟨rfl, hF⟩; first | (have Fb : Fr [] w Vb := (by with_reducible exact Fa.trans0 hF); have Ob : L4 Vb w.heap.size 57 (.int .u64 0) (.int .u64 0) (.int .u64 0) (.int .u64 0) := Oa.fr hF; obtain ⟨_, _, _, _, _, _, _, _, _, _⟩ := Ob.all; obtain ⟨_, _, _, _⟩ := hP2.out.fr Fb; have hnb : Vb.heap.size ≠ 1 := (by have := (hP2.out.fr Fb).size; omega); clear hF) | (have Fb : Fr [] w Vb := (by with_reducible exact Fa.trans0 hF); obtain ⟨_, _, _, _⟩ := hP2.out.fr Fb; have hnb : Vb.heap.size ≠ 1 := (by have := (hP2.out.fr Fb).size; omega); clear hF)) | (refine (H2.out _ (Fa.alloc _)).mono ?_; rintro e Vb ⟨rfl, hF⟩; have Fb : Fr [] w Vb := (Fa.alloc _).trans0 hF; have Ob : L4 Vb Va.heap.size 57 (.int .u64 0) (.int .u64 0) (.int .u64 0) (.int .u64 0) := (L4.new Va 57 _ _ _ _).fr hF; obtain ⟨_, _, _, _, _, _, _, _, _, _⟩ := Ob.all; obtain ⟨_, _, _, _⟩ := hP2.out.fr Fb; have hnb : Vb.heap.size ≠ 1 := (by have := (hP2.out.fr Fb).size; omega); clear hF)))
 all_goals go_wp2_with fail
 all_goals go_ret
 all_goals refine ⟨rfl, ?_⟩
 all_goals first | exact Fb.alloc _ | exact Fb.set4 (by have := Fa.size; omega) _ _ _ _
theorem canon_none (s : ByteArray) (hs : s.size ≠ 32) (w : World) : Calls Tryz.prog 54 #[.string s] w fun e w' => e = .returned (.bool false) ∧ Fr [] w w' := by
 have hsi : ¬ (s.size : Int) = 32 := by omega
 go_enter Tryz.func54, Tryz.ntmps54
 go_wp2_with fail
 go_ret
 exact ⟨rfl, Fr.refl [] w⟩
end Go.Proofs.YtdfghknonbmadaaGreatDoor
namespace Go.Proofs.YtdfghknonbmadaaGreatDoor
open Go.RowKit
set_option linter.unusedVariables false
set_option linter.unusedSimpArgs false
set_option maxRecDepth 100000
def canX (l : Tx8) : Bool := Nat.beq l.length 32 && (plC sbC (w4 (rdX l)) PRI 4 != 0)
theorem ne0_nat (b : B6) : (((b.toNat : Nat) : Int) != 0) = (b != 0) := by
 have hb := b.isLt
 cases h : b != 0
 ·have h := bne_eq_false_iff_eq.1 h
  subst h; rfl
 ·have h := bne_iff_ne.1 h
  refine bne_iff_ne.2 fun e => h (BitVec.eq_of_toNat_eq ?_)
  show b.toNat = 0
  omega
theorem canon_ok : POk Tryz.prog GE 54 (cCa canX) := by
 intro args acs r hh β M w hR hw ha
 unfold cCa at hh
 split at hh
 ·rename_i l
  simp only [Option.some.injEq, Prod.mk.injEq, true_and] at hh
  subst hh
  refine .inr ⟨enter_run Tryz.func54 rfl (by kernel_rfl) _ w, ?_⟩
  by_cases hl : l.length = 32
  ·have hb : Nat.beq l.length 32 = true := by rw [hl]; rfl
   unfold canX
   rw [hb, Bool.true_and]
   have k1 : ∀ W, Fr [] w W → Calls Tryz.prog 92 #[.string (txt l)] W fun e w' => e = .returned (val β (.a64 (w4 (rdX l)))) ∧ Fr [] W w' := fun W hF => by
    have := read_ok [.s l] _ (.a64 (w4 (rdX l))) (show some (Nat.beq l.length 32, SV.a64 (w4 (rdX l))) = _ by rw [hb]) β M W (hR.step (fr_fp hF)) hw rfl
    refine (calls_of this (enter_run Tryz.func92 rfl (by kernel_rfl) _ W)).mono ?_
    rintro e w' ⟨v, rfl, rfl, h⟩
    exact ⟨rfl, fp_fr h⟩
   have k2 : ∀ W, Fr [] w W → Calls Tryz.prog 91 #[val β (.a64 (w4 (rdX l))), .agg #[.int .u64 18446744073709551597, .int .u64 18446744073709551615, .int .u64 18446744073709551615, .int .u64 9223372036854775807]] W fun e w' => e = .returned (val β (.tup [.a64 (plS sbS sbC (w4 (rdX l)) PRI), .w64 (plC sbC (w4 (rdX l)) PRI 4)])) ∧ Fr [] W w' := fun W hF => by
    have := minus_ok [.a64 (w4 (rdX l)), .a64 PRI] _ _ rfl β M W (hR.step (fr_fp hF)) rfl rfl
    refine (calls_of this (enter_run Tryz.func91 rfl (by kernel_rfl) _ W)).mono ?_
    rintro e w' ⟨v, rfl, rfl, h⟩
    exact ⟨rfl, fp_fr h⟩
   rw [← ne0_nat]
   refine (canon_walk l (by rw [txt_size]; exact hl) _ _ _ _ _ _ _ _ (plC sbC (w4 (rdX l)) PRI 4) w (pv_rel hR) k1 k2).mono ?_
   rintro e w' ⟨rfl, h⟩
   exact ⟨_, rfl, rfl, fr_fp h⟩
  ·have hb : Nat.beq l.length 32 = false := by
    cases h : Nat.beq l.length 32
    ·rfl
    ·exact absurd (Nat.eq_of_beq_eq_true h) hl
   unfold canX
   rw [hb, Bool.false_and]
   refine (canon_none (txt l) (by rw [txt_size]; exact hl) w).mono ?_
   rintro e w' ⟨rfl, h⟩
   exact ⟨_, rfl, rfl, fr_fp h⟩
 ·cases hh
theorem nb_of {l : Tx8} (h : l.length = 32) : ((l.length : Int) != 32) = false := by rw [h]; rfl
def knX (l : Tx8) : W6 := fdX (w4 (rdX l)) z6
theorem of_e (R : Tx8 → W6) (F : W6 → B6 → W6) (D C : T3) (W : W6 → Tx8) (l : Tx8) : vf Tryz.prog (EO R F D C W) noL 93 [.s l] GE (fun r _ => r = .tup [.a64 (w4 (F (w4 (R l)) z6)), .i 0]) = (bif (l.length : Int) != 32 then SV.tup [.a64 [0, 0, 0, 0], .i 2] = SV.tup [.a64 (w4 (F (w4 (R l)) z6)), .i 0] else bif Nat.beq l.length 32 then SV.tup [.a64 (w4 (F (w4 (R l)) z6)), .i 0] = SV.tup [.a64 (w4 (F (w4 (R l)) z6)), .i 0] else False) := by kernel_rfl
theorem ofN_ok : POk Tryz.prog GE 93 (cOf knX) := by
 intro args acs r hh β M w hR hw ha
 unfold cOf at hh
 split at hh
 ·rename_i l
  simp only [Option.some.injEq, Prod.mk.injEq] at hh
  obtain ⟨h1, rfl⟩ := hh
  have h2 := Nat.eq_of_beq_eq_true h1
  refine pokE (E := EO rdX fdX sbS sbC wrX) rfl eo_ok (of_e rdX fdX sbS sbC wrX l) ?_ rfl rfl hR
  rw [nb_of h2]
  exact bif_of h1 rfl
 ·cases hh
theorem bytesE_e (R : Tx8 → W6) (F : W6 → B6 → W6) (D C : T3) (W : W6 → Tx8) (a b c d : B6) : vf Tryz.prog (EO R F D C W) noL 80 [.a64 [a, b, c, d]] GE (fun r _ => r = .s (W [a, b, c, d])) = (SV.s (W [a, b, c, d]) = SV.s (W [a, b, c, d])) := by kernel_rfl
theorem bytesE_ok : POk Tryz.prog GE 80 (cWr wrX) := by
 intro args acs r hh β M w hR hw ha
 unfold cWr at hh
 split at hh
 ·rename_i a b c d
  simp only [Option.some.injEq, Prod.mk.injEq, true_and] at hh
  subst hh
  exact pokE (E := EO rdX fdX sbS sbC wrX) rfl eo_ok (bytesE_e rdX fdX sbS sbC wrX a b c d) rfl rfl rfl hR
 ·cases hh
def cOd (O : W6 → Bool) : List SV → List Cont → Option (Bool × SV)
 | [.a64 [a, b, c, d]], _ => some (true, .b (O [a, b, c, d]))
 | _, _ => none
def odX (a : W6) : Bool := lwX a != BitVec.ofInt 64 0
theorem odd_ok : POk Tryz.prog GE 81 (cOd odX) := by
 intro args acs r hh β M w hR hw ha
 unfold cOd at hh
 split at hh
 ·rename_i a b c d
  simp only [Option.some.injEq, Prod.mk.injEq, true_and] at hh
  subst hh
  exact pokE (E := EN4 tmX (plS adS adC) sbS sbC blX pkW alW lwX mkX) rfl en4_ok (odd_e tmX (plS adS adC) sbS sbC blX pkW alW lwX mkX [a, b, c, d]) rfl rfl rfl hR
 ·cases hh
theorem ek_ok : EnvOk Tryz.prog (Ek knX) := ⟨PT.add_ok (noT_ok _ _) ofN_ok, noC_ok _ _⟩
theorem known_ok : POk Tryz.prog GE 55 (ctK knX) := by
 intro args acs r hh β M w hR hw ha
 unfold ctK at hh
 split at hh
 ·rename_i l
  simp only [Option.some.injEq, Prod.mk.injEq] at hh
  obtain ⟨h1, rfl⟩ := hh
  exact pokE (E := Ek knX) rfl ek_ok (known_e knX l) (bif_of h1 rfl) rfl rfl hR
 ·cases hh
theorem ee_ok : EnvOk Tryz.prog (Ee adX sbX tmX smX ivX zX knX) := ⟨PT.add_ok (PT.add_ok (PT.add_ok (PT.add_ok (PT.add_ok (PT.add_ok (PT.add_ok (noT_ok _ _) add_ok) sub_ok) mul_ok) same_ok) inv_ok) smallE_ok) known_ok, noC_ok _ _⟩
theorem joinP_e (A S M : W6 → W6 → W6) (E : W6 → W6 → Bool) (I : W6 → W6) (SM : BitVec 32 → W6) (K : List (BitVec 8) → W6) (e f g h : W6) : vf Tryz.prog (Ee A S M E I SM K) noL 101 [.a64 (w4 e), .a64 (w4 f), .a64 (w4 g), .a64 (w4 h)] GE (fun r _ => r = .a64 (p16 (jnW M (w4 e) (w4 f) (w4 g) (w4 h)))) = (SV.a64 (p16 (jnW M (w4 e) (w4 f) (w4 g) (w4 h))) = SV.a64 (p16 (jnW M (w4 e) (w4 f) (w4 g) (w4 h)))) := by kernel_rfl
theorem joinP_gen (A S M : W6 → W6 → W6) (E : W6 → W6 → Bool) (I : W6 → W6) (SM : BitVec 32 → W6) (K : List (BitVec 8) → W6) (hE : EnvOk Tryz.prog (Ee A S M E I SM K)) : POk Tryz.prog GE 101 (cJ (jnW M)) := by
 intro args acs r hh β M' w hR hw ha
 unfold cJ at hh
 split at hh
 ·rename_i a b c d e f g h i j k l m n o p
  simp only [Option.some.injEq, Prod.mk.injEq, true_and] at hh
  subst hh
  exact pokE (E := Ee A S M E I SM K) rfl hE (joinP_e A S M E I SM K [a, b, c, d] [e, f, g, h] [i, j, k, l] [m, n, o, p]) rfl rfl rfl hR
 ·cases hh
theorem joinP_ok : POk Tryz.prog GE 101 (cJ (jnW tmX)) := joinP_gen adX sbX tmX smX ivX zX knX ee_ok
theorem e5_ok : EnvOk Tryz.prog (E5 adX sbX tmX smX ivX zX knX (jnW tmX)) := ⟨PT.add_ok ee_ok.T joinP_ok, noC_ok _ _⟩
abbrev rdP : W6 → W6 := rdF adX sbX tmX knX
abbrev dbP : W6 → W6 := dbF adX sbX tmX (jnW tmX)
abbrev plP : W6 → W6 → W6 := plF adX sbX tmX (jnW tmX)
theorem ready_ok : POk Tryz.prog GE 65 (cP1 rdP) := ready_gen adX sbX tmX smX ivX zX knX (jnW tmX) e5_ok
theorem double_ok : POk Tryz.prog GE 98 (cP1 dbP) := double_gen adX sbX tmX smX ivX zX knX (jnW tmX) e5_ok
theorem plusP_ok : POk Tryz.prog GE 64 (cP2 plP) := plusP_gen adX sbX tmX smX ivX zX knX (jnW tmX) e5_ok
def noP (E : W6 → W6 → Bool) (Z : BitVec 32 → W6) (p : W6) : Bool := E (el p 2) (w4 (Z 0))
theorem none_gen (A S M : W6 → W6 → W6) (E : W6 → W6 → Bool) (I : W6 → W6) (Z : BitVec 32 → W6) (K : List (BitVec 8) → W6) (J : W6 → W6 → W6 → W6 → W6) (hE : EnvOk Tryz.prog (E5 A S M E I Z K J)) : POk Tryz.prog GE 61 (cNo (noP E Z)) := by
 intro args acs r hh β M' w hR hw ha
 unfold cNo at hh
 split at hh
 ·rename_i p
  simp only [Option.some.injEq, Prod.mk.injEq, Bool.and_eq_true, Bool.not_eq_true'] at hh
  obtain ⟨⟨h1, h2⟩, rfl⟩ := hh
  obtain ⟨a, b, c, d, e, f, g, i, j, k, l, m, n, o, q, r, rfl⟩ := ex16 (Nat.eq_of_beq_eq_true h1)
  have := pokE (E := E5 A S M E I Z K J) rfl hE (none_e A S M E I Z K J [a, b, c, d] [e, f, g, i] [j, k, l, m] [n, o, q, r]) rfl rfl rfl hR
  rw [show E (w4 [j, k, l, m]) (w4 (Z 0)) = false from h2] at this
  exact this
 ·cases hh
abbrev noX : W6 → Bool := noP smX zX
theorem none_ok : POk Tryz.prog GE 61 (cNo noX) := none_gen adX sbX tmX smX ivX zX knX (jnW tmX) e5_ok
def atF (M : W6 → W6 → W6) (Z : BitVec 32 → W6) (x y : W6) : W6 := p4 x y (Z 1) (M x y)
theorem atP_e (A S M : W6 → W6 → W6) (E : W6 → W6 → Bool) (I : W6 → W6) (Z : BitVec 32 → W6) (K : List (BitVec 8) → W6) (J : W6 → W6 → W6 → W6 → W6) (x y : W6) : vf Tryz.prog (E5 A S M E I Z K J) noL 57 [.a64 (w4 x), .a64 (w4 y)] GE (fun r _ => r = .a64 (p16 (atF M Z (w4 x) (w4 y)))) = (SV.a64 (p16 (atF M Z (w4 x) (w4 y))) = SV.a64 (p16 (atF M Z (w4 x) (w4 y)))) := by kernel_rfl
theorem at_gen (A S M : W6 → W6 → W6) (E : W6 → W6 → Bool) (I : W6 → W6) (Z : BitVec 32 → W6) (K : List (BitVec 8) → W6) (J : W6 → W6 → W6 → W6 → W6) (hE : EnvOk Tryz.prog (E5 A S M E I Z K J)) : POk Tryz.prog GE 57 (cAt (atF M Z)) := by
 intro args acs r hh β M' w hR hw ha
 unfold cAt at hh
 split at hh
 ·rename_i a b c d e f g h
  simp only [Option.some.injEq, Prod.mk.injEq, true_and] at hh
  subst hh
  exact pokE (E := E5 A S M E I Z K J) rfl hE (atP_e A S M E I Z K J [a, b, c, d] [e, f, g, h]) rfl rfl rfl hR
 ·cases hh
abbrev atX : W6 → W6 → W6 := atF tmX zX
theorem at_ok : POk Tryz.prog GE 57 (cAt atX) := at_gen adX sbX tmX smX ivX zX knX (jnW tmX) e5_ok
theorem e7_ok : EnvOk Tryz.prog (E7 adX sbX tmX smX ivX zX knX rdP dbP plP noX atX) := ⟨PT.add_ok (PT.add_ok (PT.add_ok (PT.add_ok (PT.add_ok ee_ok.T ready_ok) double_ok) plusP_ok) none_ok) at_ok, noC_ok _ _⟩
end Go.Proofs.YtdfghknonbmadaaGreatDoor
namespace Go.Proofs.YtdfghknonbmadaaGreatDoor
open Go.RowKit
set_option linter.unusedVariables false
set_option linter.unusedSimpArgs false
set_option maxRecDepth 100000
def cK0 (v : W6) : List SV → List Cont → Option (Bool × SV)
 | [], _ => some (true, .a64 v)
 | _, _ => none
def cA2 (N : W6 → Bool) (F : W6 → W6 → W6) : List SV → List Cont → Option (Bool × SV)
 | [.a64 p, .a64 q], _ => some (Nat.beq p.length 16 && (Nat.beq q.length 16 && (!N p && !N q)), .a64 (p16 (F p q)))
 | _, _ => none
def cA1 (N : W6 → Bool) (F : W6 → W6) : List SV → List Cont → Option (Bool × SV)
 | [.a64 p], _ => some (Nat.beq p.length 16 && !N p, .a64 (p16 (F p)))
 | _, _ => none
def cAb (N : W6 → Bool) (F : W6 → W6 → Bool) : List SV → List Cont → Option (Bool × SV)
 | [.a64 p, .a64 q], _ => some (Nat.beq p.length 16 && (Nat.beq q.length 16 && (!N p && !N q)), .b (F p q))
 | _, _ => none
section
variable (A S M : W6 → W6 → W6) (E : W6 → W6 → Bool) (I : W6 → W6) (Z : BitVec 32 → W6) (K : List (BitVec 8) → W6) (R D : W6 → W6) (P : W6 → W6 → W6) (N : W6 → Bool) (T : W6 → W6 → W6)
theorem zeroP_e : vf Tryz.prog (E7 A S M E I Z K R D P N T) noL 59 [] GE (fun r _ => r = .a64 (p16 (T (w4 (Z 0)) (w4 (Z 1))))) = (SV.a64 (p16 (T (w4 (Z 0)) (w4 (Z 1)))) = SV.a64 (p16 (T (w4 (Z 0)) (w4 (Z 1))))) := by kernel_rfl
def bXs : Tx8 := bts ⟨#[26, 213, 37, 143, 96, 45, 86, 201, 178, 167, 37, 149, 96, 199, 44, 105, 92, 220, 214, 253, 49, 226, 164, 192, 254, 83, 110, 205, 211, 54, 105, 33]⟩
def bYs : Tx8 := bts ⟨#[88, 102, 102, 102, 102, 102, 102, 102, 102, 102, 102, 102, 102, 102, 102, 102, 102, 102, 102, 102, 102, 102, 102, 102, 102, 102, 102, 102, 102, 102, 102, 102]⟩
def adTF (P : W6 → W6 → W6) (R : W6 → W6) (p q : W6) : W6 := P p (p16 (R q))
def smF (M : W6 → W6 → W6) (E : W6 → W6 → Bool) (p q : W6) : Bool := smA M E (el p 0) (el p 2) (el q 0) (el q 2) && smA M E (el p 1) (el p 2) (el q 1) (el q 2)
theorem sameQ_e (x y z t m n o q : W6) : vf Tryz.prog (E7 A S M E I Z K R D P N T) noL 30 [.a64 (p4 x y z t), .a64 (p4 m n o q)] GE (fun r _ => r = .b (smF M E (p4 x y z t) (p4 m n o q))) = (bif !N (p4 x y z t) then bif !N (p4 m n o q) then bif smA M E x z m o then SV.b (smA M E y z n o) = SV.b (smF M E (p4 x y z t) (p4 m n o q)) else SV.b false = SV.b (smF M E (p4 x y z t) (p4 m n o q)) else False else False) := by kernel_rfl
theorem addQ_e (x y z t m n o q : W6) : vf Tryz.prog (E7 A S M E I Z K R D P N T) noL 31 [.a64 (p4 x y z t), .a64 (p4 m n o q)] GE (fun r _ => r = .a64 (p16 (adTF P R (p4 x y z t) (p4 m n o q)))) = (bif !N (p4 x y z t) then bif !N (p4 m n o q) then SV.a64 (p16 (adTF P R (p4 x y z t) (p4 m n o q))) = SV.a64 (p16 (adTF P R (p4 x y z t) (p4 m n o q))) else False else False) := by kernel_rfl
variable (hE : EnvOk Tryz.prog (E7 A S M E I Z K R D P N T))
theorem zeroP_gen (A S M : W6 → W6 → W6) (E : W6 → W6 → Bool) (I : W6 → W6) (Z : BitVec 32 → W6) (K : List (BitVec 8) → W6) (R D : W6 → W6) (P : W6 → W6 → W6) (N : W6 → Bool) (T : W6 → W6 → W6) (hE : EnvOk Tryz.prog (E7 A S M E I Z K R D P N T)) : POk Tryz.prog GE 59 (cK0 (p16 (T (w4 (Z 0)) (w4 (Z 1))))) := by
 intro args acs r hh β M' w hR hw ha
 unfold cK0 at hh
 split at hh
 ·simp only [Option.some.injEq, Prod.mk.injEq, true_and] at hh
  subst hh
  exact pokE (E := E7 A S M E I Z K R D P N T) rfl hE (zeroP_e A S M E I Z K R D P N T) rfl rfl rfl hR
 ·cases hh
theorem base_gen (A S M : W6 → W6 → W6) (E : W6 → W6 → Bool) (I : W6 → W6) (Z : BitVec 32 → W6) (K : List (BitVec 8) → W6) (R D : W6 → W6) (P : W6 → W6 → W6) (N : W6 → Bool) (T : W6 → W6 → W6) (hE : EnvOk Tryz.prog (E7 A S M E I Z K R D P N T)) : POk Tryz.prog GE 67 (cK0 (p16 (T (w4 (K bXs)) (w4 (K bYs))))) := by
 intro args acs r hh β M' w hR hw ha
 unfold cK0 at hh
 split at hh
 ·simp only [Option.some.injEq, Prod.mk.injEq, true_and] at hh
  subst hh
  exact pokE (E := E7 A S M E I Z K R D P N T) rfl hE (base_e A S M E I Z K R D P N T) rfl rfl rfl hR
 ·cases hh
theorem addP_gen (A S M : W6 → W6 → W6) (E : W6 → W6 → Bool) (I : W6 → W6) (Z : BitVec 32 → W6) (K : List (BitVec 8) → W6) (R D : W6 → W6) (P : W6 → W6 → W6) (N : W6 → Bool) (T : W6 → W6 → W6) (hE : EnvOk Tryz.prog (E7 A S M E I Z K R D P N T)) : POk Tryz.prog GE 31 (cA2 N (adTF P R)) := by
 intro args acs r hh β M' w hR hw ha
 unfold cA2 at hh
 split at hh
 ·rename_i p p'
  simp only [Option.some.injEq, Prod.mk.injEq, Bool.and_eq_true] at hh
  obtain ⟨⟨h1, h2, h3, h4⟩, rfl⟩ := hh
  obtain ⟨a, b, c, d, e, f, g, i, j, k, l, m, n, o, q, r, rfl⟩ := ex16 (Nat.eq_of_beq_eq_true h1)
  obtain ⟨a', b', c', d', e', f', g', i', j', k', l', m', n', o', q', r', rfl⟩ := ex16 (Nat.eq_of_beq_eq_true h2)
  exact pokE (E := E7 A S M E I Z K R D P N T) rfl hE (addQ_e A S M E I Z K R D P N T [a, b, c, d] [e, f, g, i] [j, k, l, m] [n, o, q, r] [a', b', c', d'] [e', f', g', i'] [j', k', l', m'] [n', o', q', r']) (bif_of h3 (bif_of h4 rfl)) rfl rfl hR
 ·cases hh
theorem twice_gen (A S M : W6 → W6 → W6) (E : W6 → W6 → Bool) (I : W6 → W6) (Z : BitVec 32 → W6) (K : List (BitVec 8) → W6) (R D : W6 → W6) (P : W6 → W6 → W6) (N : W6 → Bool) (T : W6 → W6 → W6) (hE : EnvOk Tryz.prog (E7 A S M E I Z K R D P N T)) : POk Tryz.prog GE 58 (cA1 N D) := by
 intro args acs r hh β M' w hR hw ha
 unfold cA1 at hh
 split at hh
 ·rename_i p
  simp only [Option.some.injEq, Prod.mk.injEq, Bool.and_eq_true] at hh
  obtain ⟨⟨h1, h3⟩, rfl⟩ := hh
  obtain ⟨a, b, c, d, e, f, g, i, j, k, l, m, n, o, q, r, rfl⟩ := ex16 (Nat.eq_of_beq_eq_true h1)
  exact pokE (E := E7 A S M E I Z K R D P N T) rfl hE (twice_e A S M E I Z K R D P N T [a, b, c, d] [e, f, g, i] [j, k, l, m] [n, o, q, r]) (bif_of h3 rfl) rfl rfl hR
 ·cases hh
theorem sameP_gen (A S M : W6 → W6 → W6) (E : W6 → W6 → Bool) (I : W6 → W6) (Z : BitVec 32 → W6) (K : List (BitVec 8) → W6) (R D : W6 → W6) (P : W6 → W6 → W6) (N : W6 → Bool) (T : W6 → W6 → W6) (hE : EnvOk Tryz.prog (E7 A S M E I Z K R D P N T)) : POk Tryz.prog GE 30 (cAb N (smF M E)) := by
 intro args acs r hh β M' w hR hw ha
 unfold cAb at hh
 split at hh
 ·rename_i p p'
  simp only [Option.some.injEq, Prod.mk.injEq, Bool.and_eq_true] at hh
  obtain ⟨⟨h1, h2, h3, h4⟩, rfl⟩ := hh
  obtain ⟨a, b, c, d, e, f, g, i, j, k, l, m, n, o, q, r, rfl⟩ := ex16 (Nat.eq_of_beq_eq_true h1)
  obtain ⟨a', b', c', d', e', f', g', i', j', k', l', m', n', o', q', r', rfl⟩ := ex16 (Nat.eq_of_beq_eq_true h2)
  refine pokE (E := E7 A S M E I Z K R D P N T) rfl hE (sameQ_e A S M E I Z K R D P N T [a, b, c, d] [e, f, g, i] [j, k, l, m] [n, o, q, r] [a', b', c', d'] [e', f', g', i'] [j', k', l', m'] [n', o', q', r']) (bif_of h3 (bif_of h4 ?_)) rfl rfl hR
  have e1 : smF M E (p4 [a, b, c, d] [e, f, g, i] [j, k, l, m] [n, o, q, r]) (p4 [a', b', c', d'] [e', f', g', i'] [j', k', l', m'] [n', o', q', r']) = (smA M E [a, b, c, d] [j, k, l, m] [a', b', c', d'] [j', k', l', m'] && smA M E [e, f, g, i] [j, k, l, m] [e', f', g', i'] [j', k', l', m']) := rfl
  rw [e1]
  cases smA M E [a, b, c, d] [j, k, l, m] [a', b', c', d'] [j', k', l', m'] <;> rfl
 ·cases hh
end
abbrev zeP : W6 := p16 (atX (w4 (zX 0)) (w4 (zX 1)))
abbrev baP : W6 := p16 (atX (w4 (knX bXs)) (w4 (knX bYs)))
abbrev adP' : W6 → W6 → W6 := adTF plP rdP
abbrev smP : W6 → W6 → Bool := smF tmX smX
theorem zeroP_ok : POk Tryz.prog GE 59 (cK0 zeP) := zeroP_gen adX sbX tmX smX ivX zX knX rdP dbP plP noX atX e7_ok
theorem base_ok : POk Tryz.prog GE 67 (cK0 baP) := base_gen adX sbX tmX smX ivX zX knX rdP dbP plP noX atX e7_ok
theorem addP_ok : POk Tryz.prog GE 31 (cA2 noX adP') := addP_gen adX sbX tmX smX ivX zX knX rdP dbP plP noX atX e7_ok
theorem twice_ok : POk Tryz.prog GE 58 (cA1 noX dbP) := twice_gen adX sbX tmX smX ivX zX knX rdP dbP plP noX atX e7_ok
theorem sameP_ok : POk Tryz.prog GE 30 (cAb noX smP) := sameP_gen adX sbX tmX smX ivX zX knX rdP dbP plP noX atX e7_ok
abbrev roBX : W6 → Bool → W6 := roB pwX tmX sbX lwX mkX pkW sqY
abbrev roJX : W6 → Bool → Bool := roJ pwX tmX sbX lwX mkX pkW sqY
def bsB (A S M : W6 → W6 → W6) (I : W6 → W6) (Z : BitVec 32 → W6) (K : Tx8 → W6) (B : W6 → Bool → W6) (y : W6) (o : Bool) : W6 := B (x2W A S M I Z K y) o
def bsJ (A S M : W6 → W6 → W6) (I : W6 → W6) (Z : BitVec 32 → W6) (K : Tx8 → W6) (J : W6 → Bool → Bool) (y : W6) (o : Bool) : Bool := J (x2W A S M I Z K y) o
theorem beside_gen (A S M : W6 → W6 → W6) (E : W6 → W6 → Bool) (I : W6 → W6) (Z : BitVec 32 → W6) (K : List (BitVec 8) → W6) (B : W6 → Bool → W6) (J : W6 → Bool → Bool) (hE : EnvOk Tryz.prog (Er A S M E I Z K B J)) : POk Tryz.prog GE 56 (cBs (bsB A S M I Z K B) (bsJ A S M I Z K J)) := by
 intro args acs r hh β M' w hR hw ha
 unfold cBs at hh
 split at hh
 ·rename_i a b c d o
  simp only [Option.some.injEq, Prod.mk.injEq, true_and] at hh
  subst hh
  exact pokE (E := Er A S M E I Z K B J) rfl hE (beside_e A S M E I Z K B J [a, b, c, d] o) rfl rfl rfl hR
 ·cases hh
theorem er_ok : EnvOk Tryz.prog (Er adX sbX tmX smX ivX zX knX roBX roJX) := ⟨PT.add_ok ee_ok.T root_ok, noC_ok _ _⟩
abbrev bsBX : W6 → Bool → W6 := bsB adX sbX tmX ivX zX knX roBX
abbrev bsJX : W6 → Bool → Bool := bsJ adX sbX tmX ivX zX knX roJX
theorem beside_ok : POk Tryz.prog GE 56 (cBs bsBX bsJX) := beside_gen adX sbX tmX smX ivX zX knX roBX roJX er_ok
def u8 (x : Tx8) : Tx8 := x.set 31 (x.getD 31 0 &&& ~~~BitVec.ofInt 8 128)
def o8 (x : Tx8) : Bool := x.getD 31 0 &&& BitVec.ofInt 8 128 != BitVec.ofInt 8 0
def P0 (n : Int) : SV := .tup [.a64 (List.replicate 16 0), .i n]
def dePt (K : Tx8 → W6) (B : W6 → Bool → W6) (T : W6 → W6 → W6) (v : Tx8) (o : Bool) : W6 := T (w4 (B (w4 (K v)) o)) (w4 (K v))
theorem decode_e (C : Tx8 → Bool) (K : Tx8 → W6) (B : W6 → Bool → W6) (J : W6 → Bool → Bool) (T : W6 → W6 → W6) (s : Tx8) (K0 : SV → Prop) : vf Tryz.prog (Ed C K B J T) noL 25 [.s s] GE (fun r _ => K0 r) = (bif (s.length : Int) != 32 then K0 (P0 2) else ∀ (cap : Nat) (x : Tx8), s.length ≤ cap → x = s ++ List.replicate (cap - s.length) 0 → bif inR 31 s.length then bif Nat.blt 31 x.length then bif inR 31 s.length then bif Nat.blt 31 x.length then bif inR 31 s.length then bif Nat.blt 31 x.length then bif decide (0 + s.length ≤ (u8 x).length) then bif !C (List.take s.length (List.drop 0 (u8 x))) then K0 (P0 90) else bif decide (0 + s.length ≤ (u8 x).length) then bif Nat.beq (List.take s.length (List.drop 0 (u8 x))).length 32 then bif !J (w4 (K (List.take s.length (List.drop 0 (u8 x))))) (o8 x) then K0 (P0 90) else K0 (.tup [.a64 (p16 (dePt K B T (List.take s.length (List.drop 0 (u8 x))) (o8 x))), .i 0]) else False else False else False else False else False else False else False else False else False) := by kernel_rfl
end Go.Proofs.YtdfghknonbmadaaGreatDoor
