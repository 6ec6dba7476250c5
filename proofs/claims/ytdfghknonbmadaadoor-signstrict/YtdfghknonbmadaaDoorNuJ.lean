/-
  num: which bytes are canonical: its region draws its order, walked by hand. No statement is proved here.
-/
import Derived.Test.YtdfghknonbmadaaDoorNuI
import Derived.Deep.RegionHeld3
namespace Go.Proofs.YtdfghknonbmadaaDoor
open Go.RowKit Go.Lib Go.BigFrame
set_option linter.unusedVariables false
set_option linter.unusedSimpArgs false
set_option maxRecDepth 1000000
set_option maxHeartbeats 4000000

theorem hid {p : Prop} (h : p) : Hid p := h
def L4 (V : World) (b t : Nat) (v0 v1 v2 v3 : Value) : Prop := V.heap[b]? = some (.cells #[v0, v1, v2, v3] t)
section
variable {V V' : World} {b t : Nat} {v0 v1 v2 v3 : Value}
theorem L4.all (h : L4 V b t v0 v1 v2 v3) : V.cell? ⟨b, 0, none⟩ = some v0 ∧ V.cell? ⟨b, 1, none⟩ = some v1 ∧ V.cell? ⟨b, 2, none⟩ = some v2 ∧ V.cell? ⟨b, 3, none⟩ = some v3 ∧
    V.frozen? ⟨b, 0, none⟩ = false ∧ V.frozen? ⟨b, 1, none⟩ = false ∧ V.frozen? ⟨b, 2, none⟩ = false ∧ V.frozen? ⟨b, 3, none⟩ = false ∧ b < V.heap.size ∧ b ≠ V.heap.size :=
  ⟨cell_of_heap h rfl, cell_of_heap h rfl, cell_of_heap h rfl, cell_of_heap h rfl, frozen_of_heap h, frozen_of_heap h, frozen_of_heap h, frozen_of_heap h, lt_of_heap h, by have := lt_of_heap h; omega⟩
theorem L4.fr (h : L4 V b t v0 v1 v2 v3) (hF : Fr [] V V') : L4 V' b t v0 v1 v2 v3 := hF.heap h (by simp)
theorem L4.new (V : World) (t : Nat) (v0 v1 v2 v3 : Value) : L4 (V.alloc (.cells #[v0, v1, v2, v3] t)) V.heap.size t v0 v1 v2 v3 := (MapKept.heap_alloc V _).1
end
theorem Fr.set4 {w V : World} (h : Fr [] w V) {b : Nat} (hb : w.heap.size ≤ b) (u0 u1 u2 u3 : Value) : Fr [] w ((((V.setCell ⟨b, 0, none⟩ u0).setCell ⟨b, 1, none⟩ u1).setCell ⟨b, 2, none⟩ u2).setCell ⟨b, 3, none⟩ u3) :=
  (((h.setCell (.inr hb) u0).setCell (.inr hb) u1).setCell (.inr hb) u2).setCell (.inr hb) u3
theorem fp_fr {w w' : World} (h : Fp0 w w') : Fr [] w w' := ⟨h.os, h.tape, h.output, h.size, fun k hk _ => h.block k hk (fun h => h)⟩
theorem fr_fp {w w' : World} (h : Fr [] w w') : Fp0 w w' := ⟨h.os, h.tape, h.output, h.size, fun k hk _ => h.block k hk (by simp)⟩
theorem calls_of {P : Program} {f : Nat} {args : Array Value} {W : World} {R : Value → World → Prop} (h : CallR P f args W R) (hb : (callFunc f args).run P W = .ok (.enter f args) W) : Calls P f args W fun e W' => ∃ v, e = .returned v ∧ R v W' := by
  rcases h with ⟨v, W', h1, _⟩ | ⟨_, h⟩
  · rw [hb] at h1; cases h1
  · exact h
/-- The prime's words stand where they stand. -/
structure PV (w : World) : Prop where
  c0 : w.cell? ⟨1, 0, none⟩ = some (.int .u64 18446744073709551597)
  c1 : w.cell? ⟨1, 1, none⟩ = some (.int .u64 18446744073709551615)
  c2 : w.cell? ⟨1, 2, none⟩ = some (.int .u64 18446744073709551615)
  c3 : w.cell? ⟨1, 3, none⟩ = some (.int .u64 9223372036854775807)
theorem PV.fr {w w' : World} (h : PV w) (hF : Fr [] w w') : PV w' := ⟨hF.cell h.c0 (by simp), hF.cell h.c1 (by simp), hF.cell h.c2 (by simp), hF.cell h.c3 (by simp)⟩
theorem PV.size {w : World} (h : PV w) : 1 < w.heap.size := World.block_lt_of_cell? w _ h.c0
theorem pv_rel {β : Nat → Nat} {M : Mm} {w : World} (h : Rel GE β M w) : PV w := by
  have e1 := h.pre 1 (by decide)
  have e2 := h.all 1 _ e1 rfl
  rw [h.glob 1 (by decide)] at e2
  exact ⟨e2.cell 0 _ rfl, e2.cell 1 _ rfl, e2.cell 2 _ rfl, e2.cell 3 _ rfl⟩
def cv (a b c d : B6) : Value := .agg #[.int .u64 (a.toNat : Nat), .int .u64 (b.toNat : Nat), .int .u64 (c.toNat : Nat), .int .u64 (d.toNat : Nat)]
theorem canon_walk (l : Tx8) (hl : (txt l).size = 32) (n0 n1 n2 n3 m0 m1 m2 m3 b : B6) (w : World) (hP : PV w)
    (K1 : ∀ W, Fr [] w W → Calls Tryd.prog 54 #[.string (txt l)] W fun e w' => e = .returned (cv n0 n1 n2 n3) ∧ Fr [] W w')
    (K2 : ∀ W, Fr [] w W → Calls Tryd.prog 53 #[cv n0 n1 n2 n3, .agg #[.int .u64 18446744073709551597, .int .u64 18446744073709551615, .int .u64 18446744073709551615, .int .u64 9223372036854775807]] W fun e w' => e = .returned (.tuple #[cv m0 m1 m2 m3, .int .u64 (b.toNat : Nat)]) ∧ Fr [] W w') :
    Calls Tryd.prog 28 #[.string (txt l)] w fun e w' => e = .returned (.bool (((b.toNat : Nat) : Int) != 0)) ∧ Fr [] w w' := by
  unfold cv at K1 K2
  have hsi : ((txt l).size : Int) = 32 := by omega
  have hP2 := hid (p := _) hP
  have H1 := hid (p := _) K1
  have H2 := hid (p := _) K2
  clear K1 K2 hl
  generalize txt l = s at *
  generalize n0.toNat = x0 at *
  generalize n1.toNat = x1 at *
  generalize n2.toNat = x2 at *
  generalize n3.toNat = x3 at *
  generalize m0.toNat = y0 at *
  generalize m1.toNat = y1 at *
  generalize m2.toNat = y2 at *
  generalize m3.toNat = y3 at *
  generalize b.toNat = bb at *
  obtain ⟨q0, q1, q2, q3⟩ := hP
  have hz0 := hP2.out.size
  have hz1 : 1 ≠ w.heap.size := by omega
  have hz2 : w.heap.size ≠ 1 := by omega
  go_enter Tryd.func28, Tryd.ntmps28
  go_wp2_with fail
  go_region_held3 (fun V' => V'.cell? ⟨1, 0, none⟩ = some (.int .u64 18446744073709551597) ∧ V'.cell? ⟨1, 1, none⟩ = some (.int .u64 18446744073709551615) ∧ V'.cell? ⟨1, 2, none⟩ = some (.int .u64 18446744073709551615) ∧ V'.cell? ⟨1, 3, none⟩ = some (.int .u64 9223372036854775807)) (go_keep)
    (first | (go_at_call 54; first | (with_reducible refine (H1.out _ (Fr.refl [] w).drew).mono ?_; rintro e Va ⟨rfl, hF⟩; (have Fa : Fr [] w Va := (by with_reducible exact (Fr.refl [] w).drew.trans0 hF); obtain ⟨_, _, _, _⟩ := hP2.out.fr Fa; have hna : Va.heap.size ≠ 1 := (by have := (hP2.out.fr Fa).size; omega); clear hF)) | (refine (H1.out _ ((Fr.refl [] w).alloc _).drew).mono ?_; rintro e Va ⟨rfl, hF⟩; (have Fa : Fr [] w Va := ((Fr.refl [] w).alloc _).drew.trans0 hF; have Oa : L4 Va w.heap.size 45 (.int .u64 0) (.int .u64 0) (.int .u64 0) (.int .u64 0) := (L4.new w 45 _ _ _ _).fr ((Fr.refl [] _).drew.trans0 hF); obtain ⟨_, _, _, _⟩ := hP2.out.fr Fa; have hna : Va.heap.size ≠ 1 := (by have := (hP2.out.fr Fa).size; omega); clear hF))) | (go_at_call 53; first | (with_reducible refine (H2.out _ Fa).mono ?_; rintro e Vb ⟨rfl, hF⟩; first | (have Fb : Fr [] w Vb := (by with_reducible exact Fa.trans0 hF); have Ob : L4 Vb w.heap.size 45 (.int .u64 0) (.int .u64 0) (.int .u64 0) (.int .u64 0) := Oa.fr hF; obtain ⟨_, _, _, _, _, _, _, _, _, _⟩ := Ob.all; obtain ⟨_, _, _, _⟩ := hP2.out.fr Fb; have hnb : Vb.heap.size ≠ 1 := (by have := (hP2.out.fr Fb).size; omega); clear hF) | (have Fb : Fr [] w Vb := (by with_reducible exact Fa.trans0 hF); obtain ⟨_, _, _, _⟩ := hP2.out.fr Fb; have hnb : Vb.heap.size ≠ 1 := (by have := (hP2.out.fr Fb).size; omega); clear hF)) | (refine (H2.out _ (Fa.alloc _)).mono ?_; rintro e Vb ⟨rfl, hF⟩; have Fb : Fr [] w Vb := (Fa.alloc _).trans0 hF; have Ob : L4 Vb Va.heap.size 45 (.int .u64 0) (.int .u64 0) (.int .u64 0) (.int .u64 0) := (L4.new Va 45 _ _ _ _).fr hF; obtain ⟨_, _, _, _, _, _, _, _, _, _⟩ := Ob.all; obtain ⟨_, _, _, _⟩ := hP2.out.fr Fb; have hnb : Vb.heap.size ≠ 1 := (by have := (hP2.out.fr Fb).size; omega); clear hF)))
  all_goals go_wp2_with fail
  all_goals go_ret
  all_goals refine ⟨rfl, ?_⟩
  all_goals first | exact Fb.alloc _ | exact Fb.set4 (by have := Fa.size; omega) _ _ _ _
theorem canon_none (s : ByteArray) (hs : s.size ≠ 32) (w : World) : Calls Tryd.prog 28 #[.string s] w fun e w' => e = .returned (.bool false) ∧ Fr [] w w' := by
  have hsi : ¬ (s.size : Int) = 32 := by omega
  go_enter Tryd.func28, Tryd.ntmps28
  go_wp2_with fail
  go_ret
  exact ⟨rfl, Fr.refl [] w⟩
end Go.Proofs.YtdfghknonbmadaaDoor
namespace Go.Proofs.YtdfghknonbmadaaDoor
open Go.RowKit
set_option linter.unusedVariables false
set_option linter.unusedSimpArgs false
set_option maxRecDepth 100000

def canX (l : Tx8) : Bool := Nat.beq l.length 32 && (plC sbC (w4 (rdX l)) PRI 4 != 0)
theorem ne0_nat (b : B6) : (((b.toNat : Nat) : Int) != 0) = (b != 0) := by
  have hb := b.isLt
  cases h : b != 0
  · have h := bne_eq_false_iff_eq.1 h
    subst h; rfl
  · have h := bne_iff_ne.1 h
    refine bne_iff_ne.2 fun e => h (BitVec.eq_of_toNat_eq ?_)
    show b.toNat = 0
    omega
theorem canon_ok : POk Tryd.prog GE 28 (cCa canX) := by
  intro args acs r hh β M w hR hw ha
  unfold cCa at hh
  split at hh
  · rename_i l
    simp only [Option.some.injEq, Prod.mk.injEq, true_and] at hh
    subst hh
    refine .inr ⟨enter_run Tryd.func28 rfl (by kernel_rfl) _ w, ?_⟩
    by_cases hl : l.length = 32
    · have hb : Nat.beq l.length 32 = true := by rw [hl]; rfl
      unfold canX
      rw [hb, Bool.true_and]
      have k1 : ∀ W, Fr [] w W → Calls Tryd.prog 54 #[.string (txt l)] W fun e w' => e = .returned (val β (.a64 (w4 (rdX l)))) ∧ Fr [] W w' := fun W hF => by
        have := read_ok [.s l] _ (.a64 (w4 (rdX l))) (show some (Nat.beq l.length 32, SV.a64 (w4 (rdX l))) = _ by rw [hb]) β M W (hR.step (fr_fp hF)) hw rfl
        refine (calls_of this (enter_run Tryd.func54 rfl (by kernel_rfl) _ W)).mono ?_
        rintro e w' ⟨v, rfl, rfl, h⟩
        exact ⟨rfl, fp_fr h⟩
      have k2 : ∀ W, Fr [] w W → Calls Tryd.prog 53 #[val β (.a64 (w4 (rdX l))), .agg #[.int .u64 18446744073709551597, .int .u64 18446744073709551615, .int .u64 18446744073709551615, .int .u64 9223372036854775807]] W fun e w' => e = .returned (val β (.tup [.a64 (plS sbS sbC (w4 (rdX l)) PRI), .w64 (plC sbC (w4 (rdX l)) PRI 4)])) ∧ Fr [] W w' := fun W hF => by
        have := minus_ok [.a64 (w4 (rdX l)), .a64 PRI] _ _ rfl β M W (hR.step (fr_fp hF)) rfl rfl
        refine (calls_of this (enter_run Tryd.func53 rfl (by kernel_rfl) _ W)).mono ?_
        rintro e w' ⟨v, rfl, rfl, h⟩
        exact ⟨rfl, fp_fr h⟩
      rw [← ne0_nat]
      refine (canon_walk l (by rw [txt_size]; exact hl) _ _ _ _ _ _ _ _ (plC sbC (w4 (rdX l)) PRI 4) w (pv_rel hR) k1 k2).mono ?_
      rintro e w' ⟨rfl, h⟩
      exact ⟨_, rfl, rfl, fr_fp h⟩
    · have hb : Nat.beq l.length 32 = false := by
        cases h : Nat.beq l.length 32
        · rfl
        · exact absurd (Nat.eq_of_beq_eq_true h) hl
      unfold canX
      rw [hb, Bool.false_and]
      refine (canon_none (txt l) (by rw [txt_size]; exact hl) w).mono ?_
      rintro e w' ⟨rfl, h⟩
      exact ⟨_, rfl, rfl, fr_fp h⟩
  · cases hh
-- num.Of, Bytes
theorem nb_of {l : Tx8} (h : l.length = 32) : ((l.length : Int) != 32) = false := by rw [h]; rfl
def knX (l : Tx8) : W6 := fdX (w4 (rdX l)) z6
theorem of_e (R : Tx8 → W6) (F : W6 → B6 → W6) (D C : T3) (W : W6 → Tx8) (l : Tx8) : vf Tryd.prog (EO R F D C W) noL 55 [.s l] GE (fun r _ => r = .tup [.a64 (w4 (F (w4 (R l)) z6)), .i 0]) = (bif (l.length : Int) != 32 then SV.tup [.a64 [0, 0, 0, 0], .i 2] = SV.tup [.a64 (w4 (F (w4 (R l)) z6)), .i 0] else bif Nat.beq l.length 32 then SV.tup [.a64 (w4 (F (w4 (R l)) z6)), .i 0] = SV.tup [.a64 (w4 (F (w4 (R l)) z6)), .i 0] else False) := by kernel_rfl
theorem ofN_ok : POk Tryd.prog GE 55 (cOf knX) := by
  intro args acs r hh β M w hR hw ha
  unfold cOf at hh
  split at hh
  · rename_i l
    simp only [Option.some.injEq, Prod.mk.injEq] at hh
    obtain ⟨h1, rfl⟩ := hh
    have h2 := Nat.eq_of_beq_eq_true h1
    refine pokE (E := EO rdX fdX sbS sbC wrX) rfl eo_ok (of_e rdX fdX sbS sbC wrX l) ?_ rfl rfl hR
    rw [nb_of h2]
    exact bif_of h1 rfl
  · cases hh
theorem bytesE_e (R : Tx8 → W6) (F : W6 → B6 → W6) (D C : T3) (W : W6 → Tx8) (a b c d : B6) : vf Tryd.prog (EO R F D C W) noL 47 [.a64 [a, b, c, d]] GE (fun r _ => r = .s (W [a, b, c, d])) = (SV.s (W [a, b, c, d]) = SV.s (W [a, b, c, d])) := by kernel_rfl
theorem bytesE_ok : POk Tryd.prog GE 47 (cWr wrX) := by
  intro args acs r hh β M w hR hw ha
  unfold cWr at hh
  split at hh
  · rename_i a b c d
    simp only [Option.some.injEq, Prod.mk.injEq, true_and] at hh
    subst hh
    exact pokE (E := EO rdX fdX sbS sbC wrX) rfl eo_ok (bytesE_e rdX fdX sbS sbC wrX a b c d) rfl rfl rfl hR
  · cases hh
def cOd (O : W6 → Bool) : List SV → List Cont → Option (Bool × SV)
  | [.a64 [a, b, c, d]], _ => some (true, .b (O [a, b, c, d]))
  | _, _ => none
def odX (a : W6) : Bool := lwX a != BitVec.ofInt 64 0
theorem odd_ok : POk Tryd.prog GE 48 (cOd odX) := by
  intro args acs r hh β M w hR hw ha
  unfold cOd at hh
  split at hh
  · rename_i a b c d
    simp only [Option.some.injEq, Prod.mk.injEq, true_and] at hh
    subst hh
    exact pokE (E := EN4 tmX (plS adS adC) sbS sbC blX pkW alW lwX mkX) rfl en4_ok (odd_e tmX (plS adS adC) sbS sbC blX pkW alW lwX mkX [a, b, c, d]) rfl rfl rfl hR
  · cases hh
-- edw
theorem ek_ok : EnvOk Tryd.prog (Ek knX) := ⟨PT.add_ok (noT_ok _ _) ofN_ok, noC_ok _ _⟩
theorem known_ok : POk Tryd.prog GE 29 (ctK knX) := by
  intro args acs r hh β M w hR hw ha
  unfold ctK at hh
  split at hh
  · rename_i l
    simp only [Option.some.injEq, Prod.mk.injEq] at hh
    obtain ⟨h1, rfl⟩ := hh
    exact pokE (E := Ek knX) rfl ek_ok (known_e knX l) (bif_of h1 rfl) rfl rfl hR
  · cases hh
theorem ee_ok : EnvOk Tryd.prog (Ee adX sbX tmX smX ivX zX knX) := ⟨PT.add_ok (PT.add_ok (PT.add_ok (PT.add_ok (PT.add_ok (PT.add_ok (PT.add_ok (noT_ok _ _) add_ok) sub_ok) mul_ok) same_ok) inv_ok) smallE_ok) known_ok, noC_ok _ _⟩
theorem joinP_e (A S M : W6 → W6 → W6) (E : W6 → W6 → Bool) (I : W6 → W6) (SM : BitVec 32 → W6) (K : List (BitVec 8) → W6) (e f g h : W6) : vf Tryd.prog (Ee A S M E I SM K) noL 63 [.a64 (w4 e), .a64 (w4 f), .a64 (w4 g), .a64 (w4 h)] GE (fun r _ => r = .a64 (p16 (jnW M (w4 e) (w4 f) (w4 g) (w4 h)))) = (SV.a64 (p16 (jnW M (w4 e) (w4 f) (w4 g) (w4 h))) = SV.a64 (p16 (jnW M (w4 e) (w4 f) (w4 g) (w4 h)))) := by kernel_rfl
theorem joinP_gen (A S M : W6 → W6 → W6) (E : W6 → W6 → Bool) (I : W6 → W6) (SM : BitVec 32 → W6) (K : List (BitVec 8) → W6) (hE : EnvOk Tryd.prog (Ee A S M E I SM K)) : POk Tryd.prog GE 63 (cJ (jnW M)) := by
  intro args acs r hh β M' w hR hw ha
  unfold cJ at hh
  split at hh
  · rename_i a b c d e f g h i j k l m n o p
    simp only [Option.some.injEq, Prod.mk.injEq, true_and] at hh
    subst hh
    exact pokE (E := Ee A S M E I SM K) rfl hE (joinP_e A S M E I SM K [a, b, c, d] [e, f, g, h] [i, j, k, l] [m, n, o, p]) rfl rfl rfl hR
  · cases hh
theorem joinP_ok : POk Tryd.prog GE 63 (cJ (jnW tmX)) := joinP_gen adX sbX tmX smX ivX zX knX ee_ok
theorem e5_ok : EnvOk Tryd.prog (E5 adX sbX tmX smX ivX zX knX (jnW tmX)) := ⟨PT.add_ok ee_ok.T joinP_ok, noC_ok _ _⟩
abbrev rdP : W6 → W6 := rdF adX sbX tmX knX
abbrev dbP : W6 → W6 := dbF adX sbX tmX (jnW tmX)
abbrev plP : W6 → W6 → W6 := plF adX sbX tmX (jnW tmX)
theorem ready_ok : POk Tryd.prog GE 39 (cP1 rdP) := ready_gen adX sbX tmX smX ivX zX knX (jnW tmX) e5_ok
theorem double_ok : POk Tryd.prog GE 60 (cP1 dbP) := double_gen adX sbX tmX smX ivX zX knX (jnW tmX) e5_ok
theorem plusP_ok : POk Tryd.prog GE 38 (cP2 plP) := plusP_gen adX sbX tmX smX ivX zX knX (jnW tmX) e5_ok
def noP (E : W6 → W6 → Bool) (Z : BitVec 32 → W6) (p : W6) : Bool := E (el p 2) (w4 (Z 0))
theorem none_gen (A S M : W6 → W6 → W6) (E : W6 → W6 → Bool) (I : W6 → W6) (Z : BitVec 32 → W6) (K : List (BitVec 8) → W6) (J : W6 → W6 → W6 → W6 → W6) (hE : EnvOk Tryd.prog (E5 A S M E I Z K J)) : POk Tryd.prog GE 35 (cNo (noP E Z)) := by
  intro args acs r hh β M' w hR hw ha
  unfold cNo at hh
  split at hh
  · rename_i p
    simp only [Option.some.injEq, Prod.mk.injEq, Bool.and_eq_true, Bool.not_eq_true'] at hh
    obtain ⟨⟨h1, h2⟩, rfl⟩ := hh
    obtain ⟨a, b, c, d, e, f, g, i, j, k, l, m, n, o, q, r, rfl⟩ := ex16 (Nat.eq_of_beq_eq_true h1)
    have := pokE (E := E5 A S M E I Z K J) rfl hE (none_e A S M E I Z K J [a, b, c, d] [e, f, g, i] [j, k, l, m] [n, o, q, r]) rfl rfl rfl hR
    rw [show E (w4 [j, k, l, m]) (w4 (Z 0)) = false from h2] at this
    exact this
  · cases hh
abbrev noX : W6 → Bool := noP smX zX
theorem none_ok : POk Tryd.prog GE 35 (cNo noX) := none_gen adX sbX tmX smX ivX zX knX (jnW tmX) e5_ok
def atF (M : W6 → W6 → W6) (Z : BitVec 32 → W6) (x y : W6) : W6 := p4 x y (Z 1) (M x y)
theorem atP_e (A S M : W6 → W6 → W6) (E : W6 → W6 → Bool) (I : W6 → W6) (Z : BitVec 32 → W6) (K : List (BitVec 8) → W6) (J : W6 → W6 → W6 → W6 → W6) (x y : W6) : vf Tryd.prog (E5 A S M E I Z K J) noL 31 [.a64 (w4 x), .a64 (w4 y)] GE (fun r _ => r = .a64 (p16 (atF M Z (w4 x) (w4 y)))) = (SV.a64 (p16 (atF M Z (w4 x) (w4 y))) = SV.a64 (p16 (atF M Z (w4 x) (w4 y)))) := by kernel_rfl
theorem at_gen (A S M : W6 → W6 → W6) (E : W6 → W6 → Bool) (I : W6 → W6) (Z : BitVec 32 → W6) (K : List (BitVec 8) → W6) (J : W6 → W6 → W6 → W6 → W6) (hE : EnvOk Tryd.prog (E5 A S M E I Z K J)) : POk Tryd.prog GE 31 (cAt (atF M Z)) := by
  intro args acs r hh β M' w hR hw ha
  unfold cAt at hh
  split at hh
  · rename_i a b c d e f g h
    simp only [Option.some.injEq, Prod.mk.injEq, true_and] at hh
    subst hh
    exact pokE (E := E5 A S M E I Z K J) rfl hE (atP_e A S M E I Z K J [a, b, c, d] [e, f, g, h]) rfl rfl rfl hR
  · cases hh
abbrev atX : W6 → W6 → W6 := atF tmX zX
theorem at_ok : POk Tryd.prog GE 31 (cAt atX) := at_gen adX sbX tmX smX ivX zX knX (jnW tmX) e5_ok
theorem e7_ok : EnvOk Tryd.prog (E7 adX sbX tmX smX ivX zX knX rdP dbP plP noX atX) := ⟨PT.add_ok (PT.add_ok (PT.add_ok (PT.add_ok (PT.add_ok ee_ok.T ready_ok) double_ok) plusP_ok) none_ok) at_ok, noC_ok _ _⟩
end Go.Proofs.YtdfghknonbmadaaDoor
