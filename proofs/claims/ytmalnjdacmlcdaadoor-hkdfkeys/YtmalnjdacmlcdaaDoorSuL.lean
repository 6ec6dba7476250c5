/-
  sum: the document's tag, and which texts are looked at. No statement is proved here.
-/
import Derived.Test.YtmalnjdacmlcdaaDoorSuK
namespace Go.Proofs.YtmalnjdacmlcdaaDoor
open Go.RowKit
set_option linter.unusedVariables false
set_option linter.unusedSimpArgs false
set_option maxRecDepth 100000

def T20 (D R : List (BitVec 8) → List (BitVec 8)) : PT := (((T10.add 24 (cJoin D)).add 23 (cOf D)).add 16 (cTag D)).add 17 (cRef R)
def E20 (D R : List (BitVec 8) → List (BitVec 8)) : Env := ⟨G, T20 D R, C17⟩
theorem e20_ok : EnvOk Tryd.prog (E20 dOf rOf) := ⟨PT.add_ok (PT.add_ok e19_ok.T tag_ok) ref_ok, e19_ok.C⟩
def M12 (z x y : List (BitVec 8)) : Mm := [⟨false, .a32 H0⟩, ⟨false, .a32 K64⟩, ⟨true, .a8 z⟩, ⟨true, .a8 x⟩, ⟨true, .a8 y⟩]
def i12 (s : List (BitVec 8)) (ca cb j : Nat) : List (Nat × SV) := [(1, .s s), (5, .sl 3 0 64 ca), (6, .sl 4 0 64 cb), (7, .i (j : Nat))]
def o12 (s : List (BitVec 8)) (ca cb : Nat) : List (Nat × SV) := [(1, .s s), (5, .sl 3 0 64 ca), (6, .sl 4 0 64 cb)]
def vL12 (s : List (BitVec 8)) (fr : List SV) (M : Mm) (K : Ko) : Prop := match fr with
  | _ :: _ :: _ :: _ :: _ :: SV.sl _ _ _ ca :: SV.sl _ _ _ cb :: _ => match M with
    | [_, _, ⟨_, .a8 z⟩, ⟨_, .a8 x⟩, ⟨_, .a8 y⟩] => (64 ≤ x.length ∧ 64 ≤ y.length) ∧ ∀ u v : List (BitVec 8), u = mskN x 54 64 → v = mskN y 92 64 → vLoop G 53 (i12 s ca cb 0) (M12 z x y) (o12 s ca cb) (M12 z u v) fr M K
    | _ => False
  | _ => False
def L12 (s : List (BitVec 8)) : LT := noL.add 0 (vL12 s)
theorem vc12 (D R : List (BitVec 8) → List (BitVec 8)) (k s : List (BitVec 8)) (K : SV → Mm → Prop) : (vf Tryd.prog (E20 D R) (L12 s) 11 [.s k, .s s] G K) = (bif ilt (64 : Int) (↑k.length : Int) then bif k.length.ble (1000000000 : Nat) then bif inI ((64 : Int) - (↑(R k).length : Int)) then bif ile (0 : Int) ((64 : Int) - (↑(R k).length : Int)) && ile ((64 : Int) - (↑(R k).length : Int)) ((64 : Int) - (↑(R k).length : Int)) && ile ((64 : Int) - (↑(R k).length : Int)) (140737488355328 : Int) then bif decide ((0 : Nat) + ((64 : Int) - (↑(R k).length : Int)).toNat ≤ (List.replicate ((64 : Int) - (↑(R k).length : Int)).toNat (0 : BitVec (8 : Nat))).length) then bif ile (↑((R k).length + (List.take ((64 : Int) - (↑(R k).length : Int)).toNat (List.drop (0 : Nat) (List.replicate ((64 : Int) - (↑(R k).length : Int)).toNat (0 : BitVec (8 : Nat))))).length) : Int) (9223372036854775807 : Int) then ∀ (cap : Nat) (x : List (BitVec (8 : Nat))), (R k ++ List.take ((64 : Int) - (↑(R k).length : Int)).toNat (List.drop (0 : Nat) (List.replicate ((64 : Int) - (↑(R k).length : Int)).toNat (0 : BitVec (8 : Nat))))).length ≤ cap → x = R k ++ List.take ((64 : Int) - (↑(R k).length : Int)).toNat (List.drop (0 : Nat) (List.replicate ((64 : Int) - (↑(R k).length : Int)).toNat (0 : BitVec (8 : Nat)))) ++ List.replicate (cap - (R k ++ List.take ((64 : Int) - (↑(R k).length : Int)).toNat (List.drop (0 : Nat) (List.replicate ((64 : Int) - (↑(R k).length : Int)).toNat (0 : BitVec (8 : Nat))))).length) (0 : BitVec (8 : Nat)) → bif decide ((0 : Nat) + (R k ++ List.take ((64 : Int) - (↑(R k).length : Int)).toNat (List.drop (0 : Nat) (List.replicate ((64 : Int) - (↑(R k).length : Int)).toNat (0 : BitVec (8 : Nat))))).length ≤ x.length) then ∀ (cap_1 : Nat) (x_1 : List (BitVec (8 : Nat))), (List.take (R k ++ List.take ((64 : Int) - (↑(R k).length : Int)).toNat (List.drop (0 : Nat) (List.replicate ((64 : Int) - (↑(R k).length : Int)).toNat (0 : BitVec (8 : Nat))))).length (List.drop (0 : Nat) x)).length ≤ cap_1 → x_1 = List.take (R k ++ List.take ((64 : Int) - (↑(R k).length : Int)).toNat (List.drop (0 : Nat) (List.replicate ((64 : Int) - (↑(R k).length : Int)).toNat (0 : BitVec (8 : Nat))))).length (List.drop (0 : Nat) x) ++ List.replicate (cap_1 - (List.take (R k ++ List.take ((64 : Int) - (↑(R k).length : Int)).toNat (List.drop (0 : Nat) (List.replicate ((64 : Int) - (↑(R k).length : Int)).toNat (0 : BitVec (8 : Nat))))).length (List.drop (0 : Nat) x)).length) (0 : BitVec (8 : Nat)) → loopOf Tryd.prog (11 : Nat) (0 : Nat) = loopOf Tryd.prog (11 : Nat) (0 : Nat) ∧ ((64 : Nat) ≤ x.length ∧ (64 : Nat) ≤ x_1.length) ∧ ∀ (u v : List (BitVec (8 : Nat))), u = mskN x (54 : BitVec (8 : Nat)) (64 : Nat) → v = mskN x_1 (92 : BitVec (8 : Nat)) (64 : Nat) → SV.s s = SV.s s ∧ SV.sl ((0 : Nat) + (1 : Nat) + (1 : Nat) + (1 : Nat)) (0 : Nat) (R k ++ List.take ((64 : Int) - (↑(R k).length : Int)).toNat (List.drop (0 : Nat) (List.replicate ((64 : Int) - (↑(R k).length : Int)).toNat (0 : BitVec (8 : Nat))))).length cap = SV.sl (3 : Nat) (0 : Nat) (64 : Nat) cap ∧ SV.sl ((0 : Nat) + (1 : Nat) + (1 : Nat) + (1 : Nat) + (1 : Nat)) (0 : Nat) (List.take (R k ++ List.take ((64 : Int) - (↑(R k).length : Int)).toNat (List.drop (0 : Nat) (List.replicate ((64 : Int) - (↑(R k).length : Int)).toNat (0 : BitVec (8 : Nat))))).length (List.drop (0 : Nat) x)).length cap_1 = SV.sl (4 : Nat) (0 : Nat) (64 : Nat) cap_1 ∧ SV.i (0 : Int) = SV.i (↑(0 : Nat) : Int) ∧ (false = false ∧ Cont.a32 H0 = Cont.a32 H0) ∧ (false = false ∧ Cont.a32 K64 = Cont.a32 K64) ∧ (true = true ∧ Cont.a8 (List.replicate ((64 : Int) - (↑(R k).length : Int)).toNat (0 : BitVec (8 : Nat))) = Cont.a8 (List.replicate ((64 : Int) - (↑(R k).length : Int)).toNat (0 : BitVec (8 : Nat)))) ∧ (true = true ∧ Cont.a8 x = Cont.a8 x) ∧ (true = true ∧ Cont.a8 x_1 = Cont.a8 x_1) ∧ bif decide ((64 : Nat) ≤ v.length) then bif decide ((64 : Nat) ≤ u.length) then bif ile (↑((List.take (64 : Nat) (List.drop (0 : Nat) u)).length + s.length) : Int) (9223372036854775807 : Int) then bif (List.take (64 : Nat) (List.drop (0 : Nat) u) ++ s).length.ble (1000000000 : Nat) then bif ile (↑((List.take (64 : Nat) (List.drop (0 : Nat) v)).length + (R (List.take (64 : Nat) (List.drop (0 : Nat) u) ++ s)).length) : Int) (9223372036854775807 : Int) then bif (List.take (64 : Nat) (List.drop (0 : Nat) v) ++ R (List.take (64 : Nat) (List.drop (0 : Nat) u) ++ s)).length.ble (1000000000 : Nat) then K (SV.s (R (List.take (64 : Nat) (List.drop (0 : Nat) v) ++ R (List.take (64 : Nat) (List.drop (0 : Nat) u) ++ s)))) [{ rw := false, c := Cont.a32 H0 }, { rw := false, c := Cont.a32 K64 }, { rw := true, c := Cont.a8 (List.replicate ((64 : Int) - (↑(R k).length : Int)).toNat (0 : BitVec (8 : Nat))) }, { rw := true, c := Cont.a8 u }, { rw := true, c := Cont.a8 v }] else False else False else False else False else False else False else False else False else False else False else False else False else bif inI ((64 : Int) - (↑k.length : Int)) then bif ile (0 : Int) ((64 : Int) - (↑k.length : Int)) && ile ((64 : Int) - (↑k.length : Int)) ((64 : Int) - (↑k.length : Int)) && ile ((64 : Int) - (↑k.length : Int)) (140737488355328 : Int) then bif decide ((0 : Nat) + ((64 : Int) - (↑k.length : Int)).toNat ≤ (List.replicate ((64 : Int) - (↑k.length : Int)).toNat (0 : BitVec (8 : Nat))).length) then bif ile (↑(k.length + (List.take ((64 : Int) - (↑k.length : Int)).toNat (List.drop (0 : Nat) (List.replicate ((64 : Int) - (↑k.length : Int)).toNat (0 : BitVec (8 : Nat))))).length) : Int) (9223372036854775807 : Int) then ∀ (cap : Nat) (x : List (BitVec (8 : Nat))), (k ++ List.take ((64 : Int) - (↑k.length : Int)).toNat (List.drop (0 : Nat) (List.replicate ((64 : Int) - (↑k.length : Int)).toNat (0 : BitVec (8 : Nat))))).length ≤ cap → x = k ++ List.take ((64 : Int) - (↑k.length : Int)).toNat (List.drop (0 : Nat) (List.replicate ((64 : Int) - (↑k.length : Int)).toNat (0 : BitVec (8 : Nat)))) ++ List.replicate (cap - (k ++ List.take ((64 : Int) - (↑k.length : Int)).toNat (List.drop (0 : Nat) (List.replicate ((64 : Int) - (↑k.length : Int)).toNat (0 : BitVec (8 : Nat))))).length) (0 : BitVec (8 : Nat)) → bif decide ((0 : Nat) + (k ++ List.take ((64 : Int) - (↑k.length : Int)).toNat (List.drop (0 : Nat) (List.replicate ((64 : Int) - (↑k.length : Int)).toNat (0 : BitVec (8 : Nat))))).length ≤ x.length) then ∀ (cap_1 : Nat) (x_1 : List (BitVec (8 : Nat))), (List.take (k ++ List.take ((64 : Int) - (↑k.length : Int)).toNat (List.drop (0 : Nat) (List.replicate ((64 : Int) - (↑k.length : Int)).toNat (0 : BitVec (8 : Nat))))).length (List.drop (0 : Nat) x)).length ≤ cap_1 → x_1 = List.take (k ++ List.take ((64 : Int) - (↑k.length : Int)).toNat (List.drop (0 : Nat) (List.replicate ((64 : Int) - (↑k.length : Int)).toNat (0 : BitVec (8 : Nat))))).length (List.drop (0 : Nat) x) ++ List.replicate (cap_1 - (List.take (k ++ List.take ((64 : Int) - (↑k.length : Int)).toNat (List.drop (0 : Nat) (List.replicate ((64 : Int) - (↑k.length : Int)).toNat (0 : BitVec (8 : Nat))))).length (List.drop (0 : Nat) x)).length) (0 : BitVec (8 : Nat)) → loopOf Tryd.prog (11 : Nat) (0 : Nat) = loopOf Tryd.prog (11 : Nat) (0 : Nat) ∧ ((64 : Nat) ≤ x.length ∧ (64 : Nat) ≤ x_1.length) ∧ ∀ (u v : List (BitVec (8 : Nat))), u = mskN x (54 : BitVec (8 : Nat)) (64 : Nat) → v = mskN x_1 (92 : BitVec (8 : Nat)) (64 : Nat) → SV.s s = SV.s s ∧ SV.sl ((0 : Nat) + (1 : Nat) + (1 : Nat) + (1 : Nat)) (0 : Nat) (k ++ List.take ((64 : Int) - (↑k.length : Int)).toNat (List.drop (0 : Nat) (List.replicate ((64 : Int) - (↑k.length : Int)).toNat (0 : BitVec (8 : Nat))))).length cap = SV.sl (3 : Nat) (0 : Nat) (64 : Nat) cap ∧ SV.sl ((0 : Nat) + (1 : Nat) + (1 : Nat) + (1 : Nat) + (1 : Nat)) (0 : Nat) (List.take (k ++ List.take ((64 : Int) - (↑k.length : Int)).toNat (List.drop (0 : Nat) (List.replicate ((64 : Int) - (↑k.length : Int)).toNat (0 : BitVec (8 : Nat))))).length (List.drop (0 : Nat) x)).length cap_1 = SV.sl (4 : Nat) (0 : Nat) (64 : Nat) cap_1 ∧ SV.i (0 : Int) = SV.i (↑(0 : Nat) : Int) ∧ (false = false ∧ Cont.a32 H0 = Cont.a32 H0) ∧ (false = false ∧ Cont.a32 K64 = Cont.a32 K64) ∧ (true = true ∧ Cont.a8 (List.replicate ((64 : Int) - (↑k.length : Int)).toNat (0 : BitVec (8 : Nat))) = Cont.a8 (List.replicate ((64 : Int) - (↑k.length : Int)).toNat (0 : BitVec (8 : Nat)))) ∧ (true = true ∧ Cont.a8 x = Cont.a8 x) ∧ (true = true ∧ Cont.a8 x_1 = Cont.a8 x_1) ∧ bif decide ((64 : Nat) ≤ v.length) then bif decide ((64 : Nat) ≤ u.length) then bif ile (↑((List.take (64 : Nat) (List.drop (0 : Nat) u)).length + s.length) : Int) (9223372036854775807 : Int) then bif (List.take (64 : Nat) (List.drop (0 : Nat) u) ++ s).length.ble (1000000000 : Nat) then bif ile (↑((List.take (64 : Nat) (List.drop (0 : Nat) v)).length + (R (List.take (64 : Nat) (List.drop (0 : Nat) u) ++ s)).length) : Int) (9223372036854775807 : Int) then bif (List.take (64 : Nat) (List.drop (0 : Nat) v) ++ R (List.take (64 : Nat) (List.drop (0 : Nat) u) ++ s)).length.ble (1000000000 : Nat) then K (SV.s (R (List.take (64 : Nat) (List.drop (0 : Nat) v) ++ R (List.take (64 : Nat) (List.drop (0 : Nat) u) ++ s)))) [{ rw := false, c := Cont.a32 H0 }, { rw := false, c := Cont.a32 K64 }, { rw := true, c := Cont.a8 (List.replicate ((64 : Int) - (↑k.length : Int)).toNat (0 : BitVec (8 : Nat))) }, { rw := true, c := Cont.a8 u }, { rw := true, c := Cont.a8 v }] else False else False else False else False else False else False else False else False else False else False else False) := by kernel_rfl
theorem vr12 (D R : List (BitVec 8) → List (BitVec 8)) (s z x y x' y' u v : List (BitVec 8)) (ca cb j : Nat) (a : Prop) : (frK 53 (i12 s ca cb j) fun fr => vround Tryd.prog (E20 D R) noL 11 0 fr (M12 z x y) (Kn G 0 53 a (i12 s ca cb (j + 1)) (M12 z x' y') (o12 s ca cb) (M12 z u v))) = (bif ilt (↑j : Int) 64 then bif inR (↑j : Int) 64 then bif j.blt x.length then bif inR (↑j : Int) 64 then bif j.blt x.length then bif inR (↑j : Int) 64 then bif j.blt y.length then bif inR (↑j : Int) 64 then bif j.blt y.length then bif inI ((↑j : Int) + 1) then a ∧ SV.s s = SV.s s ∧ SV.sl 3 0 64 ca = SV.sl 3 0 64 ca ∧ SV.sl 4 0 64 cb = SV.sl 4 0 64 cb ∧ SV.i ((↑j : Int) + 1) = SV.i (↑(j + 1) : Int) ∧ (false = false ∧ Cont.a32 H0 = Cont.a32 H0) ∧ (false = false ∧ Cont.a32 K64 = Cont.a32 K64) ∧ (true = true ∧ Cont.a8 z = Cont.a8 z) ∧ (true = true ∧ Cont.a8 (x.set j (x.getD j 0 ^^^ BitVec.ofInt 8 54)) = Cont.a8 x') ∧ (true = true ∧ Cont.a8 (y.set j (y.getD j 0 ^^^ BitVec.ofInt 8 92)) = Cont.a8 y') ∧ True else False else False else False else False else False else False else False else False else False else 0 = 0 ∧ SV.s s = SV.s s ∧ SV.sl 3 0 64 ca = SV.sl 3 0 64 ca ∧ SV.sl 4 0 64 cb = SV.sl 4 0 64 cb ∧ (false = false ∧ Cont.a32 H0 = Cont.a32 H0) ∧ (false = false ∧ Cont.a32 K64 = Cont.a32 K64) ∧ (true = true ∧ Cont.a8 z = Cont.a8 z) ∧ (true = true ∧ Cont.a8 x = Cont.a8 u) ∧ (true = true ∧ Cont.a8 y = Cont.a8 v) ∧ True) := by kernel_rfl
theorem rOf_len (s : List (BitVec 8)) : (rOf s).length = 32 := wr_len _
theorem mask_len (k : List (BitVec 8)) (y : BitVec 8) : (mask k y).length = 64 := by unfold mask; rw [List.length_map, fillK_len]
theorem msk_fill (k r : List (BitVec 8)) (y : BitVec 8) : List.take 64 (List.drop 0 (mskN (fillK k ++ r) y 64)) = mask k y := by
  have e : (fillK k ++ r).take 64 = fillK k := by rw [List.take_append_of_le_length (by rw [fillK_len]; exact Nat.le_refl _), List.take_of_length_le (by rw [fillK_len]; exact Nat.le_refl _)]
  unfold mskN mask
  rw [List.drop_zero, e, List.take_append_of_le_length (by rw [List.length_map, fillK_len]; exact Nat.le_refl _), List.take_of_length_le (by rw [List.length_map, fillK_len]; exact Nat.le_refl _)]
theorem loop12 (s : List (BitVec 8)) : LOk Tryd.prog G G 11 (L12 s) := by
  refine LT.add_ok (noL_ok _ _ _ _) fun fr M K h => ?_
  unfold vL12 at h
  split at h
  · rename_i a0 a1 a2 a3 a4 k1 o1 n1 ca k2 o2 n2 cb tl
    split at h
    · rename_i b0 b1 r1 z r2 x r3 y
      obtain ⟨⟨hx, hy⟩, h⟩ := h
      have h0x : mskN x 54 0 = x := by simp [mskN]
      have h0y : mskN y 92 0 = y := by simp [mskN]
      have hq := loop_next e20_ok mixed (f := 11) (id := 0) (B := G) (n := 53) (o := o12 s ca cb) (M1 := M12 z (mskN x 54 64) (mskN y 92 64)) (noL_ok _ _ _ _) (Nat.le_refl _) (by kernel_rfl) (fun j => i12 s ca cb j) (fun j => M12 z (mskN x 54 j) (mskN y 92 j)) (fun j => j ≤ 64) (fun j => 64 - j) (fun j => j + 1) 0 (Nat.zero_le _) (fun j hj => of_eq (vr12 dOf rOf s z (mskN x 54 j) (mskN y 92 j) (mskN x 54 (j + 1)) (mskN y 92 (j + 1)) (mskN x 54 64) (mskN y 92 64) ca cb j _) (by
        cases hc : ilt (j : Int) 64
        · have hj2 : j = 64 := by rw [ilt_eq] at hc; have := of_decide_eq_false hc; omega
          subst hj2
          simp
        · have hj2 : j < 64 := by rw [ilt_eq] at hc; have := of_decide_eq_true hc; omega
          have s1 := msk_set x 54 j (by omega)
          have s2 := msk_set y 92 j (by omega)
          have l1 := msk_len x 54 j
          have l2 := msk_len y 92 j
          rw [l1, l2]
          refine bif_of (inR_nat (by omega)) (bif_of (blt_of (by omega)) (bif_of (inR_nat (by omega)) (bif_of (blt_of (by omega)) (bif_of (inR_nat (by omega)) (bif_of (blt_of (by omega)) (bif_of (inR_nat (by omega)) (bif_of (blt_of (by omega)) (bif_of (inI_iff.2 (by omega)) ?_))))))))
          exact ⟨⟨by omega, by omega⟩, rfl, rfl, rfl, rfl, ⟨rfl, rfl⟩, ⟨rfl, rfl⟩, ⟨rfl, rfl⟩, ⟨rfl, congrArg Cont.a8 s1⟩, ⟨rfl, congrArg Cont.a8 s2⟩, trivial⟩))
      rw [h0x, h0y] at hq
      exact hq _ _ K (h _ _ rfl rfl)
    · exact h.elim
  · exact h.elim
def cRTag (R : List (BitVec 8) → List (BitVec 8)) : List SV → List Cont → Option (Bool × SV)
  | [.s k, .s s], _ => some (Nat.ble k.length 1000000 && Nat.ble s.length 1000000, .s (tagOf R (keyOf R k) s))
  | _, _ => none
theorem rtag_ok : POk Tryd.prog G 11 (cRTag rOf) := by
  intro args acs r h β M w hR hw ha
  unfold cRTag at h
  split at h
  · rename_i k s
    simp only [Option.some.injEq, Prod.mk.injEq, Bool.and_eq_true] at h
    obtain ⟨⟨hk, hs⟩, rfl⟩ := h
    have hk := Nat.le_of_ble_eq_true hk
    have hs := Nat.le_of_ble_eq_true hs
    refine pure0 (vf_ok e20_ok mixed (loop12 s) (of_eq (vc12 _ _ k s _) ?_)) rfl rfl hR
    cases hc : ilt 64 (k.length : Int)
    · have hk64 : k.length ≤ 64 := by rw [ilt_eq] at hc; have := of_decide_eq_false hc; omega
      have e1 : (64 - (k.length : Int)).toNat = 64 - k.length := by omega
      have e2 : List.take (64 - k.length) (List.drop 0 (List.replicate (64 - k.length) (0 : BitVec 8))) = List.replicate (64 - k.length) 0 := by simp
      have hf : k ++ List.replicate (64 - k.length) (0 : BitVec 8) = fillK k := by
        unfold fillK
        rw [List.take_of_length_le hk64, Nat.min_eq_left hk64, List.drop_replicate]
      simp only [e1, e2, hf, fillK_len, List.length_replicate]
      have a1 : ile 0 (64 - (k.length : Int)) = true := by rw [ile_eq]; exact decide_eq_true (by omega)
      have a2 : ile (64 - (k.length : Int)) (64 - (k.length : Int)) = true := by rw [ile_eq]; exact decide_eq_true (Int.le_refl _)
      have a3 : ile (64 - (k.length : Int)) 140737488355328 = true := by rw [ile_eq]; exact decide_eq_true (by omega)
      refine bif_of (inI_iff.2 (by omega)) (bif_of (by rw [a1, a2, a3]; rfl) (bif_of (decide_eq_true (by omega)) (bif_of (by rw [ile_eq]; exact decide_eq_true (by omega)) fun cap x hcap hx => ?_)))
      have e3 : List.take 64 (List.drop 0 x) = fillK k := by
        rw [hx, List.drop_zero, List.take_append_of_le_length (by rw [fillK_len]; exact Nat.le_refl _), List.take_of_length_le (by rw [fillK_len]; exact Nat.le_refl _)]
      have lx : 64 ≤ x.length := by rw [hx, List.length_append, fillK_len]; omega
      simp only [e3, fillK_len]
      refine bif_of (decide_eq_true (by omega)) fun cb y hcb hy => ?_
      have ly : 64 ≤ y.length := by rw [hy, List.length_append, fillK_len]; omega
      refine ⟨by trivial, ⟨lx, ly⟩, fun u v hu hv => ⟨by trivial, by trivial, by trivial, by trivial, ⟨by trivial, by trivial⟩, ⟨by trivial, by trivial⟩, ⟨by trivial, by trivial⟩, ⟨by trivial, by trivial⟩, ⟨by trivial, by trivial⟩, ?_⟩⟩
      have tu : List.take 64 (List.drop 0 u) = mask k 54 := by rw [hu, hx]; exact msk_fill k _ 54
      have tv : List.take 64 (List.drop 0 v) = mask k 92 := by rw [hv, hy]; exact msk_fill k _ 92
      have lu : 64 ≤ u.length := by rw [hu, msk_len]; exact lx
      have lv : 64 ≤ v.length := by rw [hv, msk_len]; exact ly
      rw [tu, tv]
      refine bif_of (decide_eq_true lv) (bif_of (decide_eq_true lu) (bif_of (by rw [ile_eq, mask_len]; exact decide_eq_true (by omega)) (bif_of (Nat.ble_eq_true_of_le (by rw [List.length_append, mask_len]; omega)) (bif_of (by rw [ile_eq, mask_len, rOf_len]; exact decide_eq_true (by omega)) (bif_of (Nat.ble_eq_true_of_le (by rw [List.length_append, mask_len, rOf_len]; omega)) ?_)))))
      have e : keyOf rOf k = k := by unfold keyOf; rw [hc]; rfl
      rw [e]; rfl
    · refine bif_of (Nat.ble_eq_true_of_le (by omega)) ?_
      have hk64 : (rOf k).length ≤ 64 := by rw [rOf_len]; decide
      have e1 : (64 - ((rOf k).length : Int)).toNat = 64 - (rOf k).length := by omega
      have e2 : List.take (64 - (rOf k).length) (List.drop 0 (List.replicate (64 - (rOf k).length) (0 : BitVec 8))) = List.replicate (64 - (rOf k).length) 0 := by simp
      have hf : (rOf k) ++ List.replicate (64 - (rOf k).length) (0 : BitVec 8) = fillK (rOf k) := by
        unfold fillK
        rw [List.take_of_length_le hk64, Nat.min_eq_left hk64, List.drop_replicate]
      simp only [e1, e2, hf, fillK_len, List.length_replicate]
      have a1 : ile 0 (64 - ((rOf k).length : Int)) = true := by rw [ile_eq]; exact decide_eq_true (by omega)
      have a2 : ile (64 - ((rOf k).length : Int)) (64 - ((rOf k).length : Int)) = true := by rw [ile_eq]; exact decide_eq_true (Int.le_refl _)
      have a3 : ile (64 - ((rOf k).length : Int)) 140737488355328 = true := by rw [ile_eq]; exact decide_eq_true (by omega)
      refine bif_of (inI_iff.2 (by omega)) (bif_of (by rw [a1, a2, a3]; rfl) (bif_of (decide_eq_true (by omega)) (bif_of (by rw [ile_eq]; exact decide_eq_true (by omega)) fun cap x hcap hx => ?_)))
      have e3 : List.take 64 (List.drop 0 x) = fillK (rOf k) := by
        rw [hx, List.drop_zero, List.take_append_of_le_length (by rw [fillK_len]; exact Nat.le_refl _), List.take_of_length_le (by rw [fillK_len]; exact Nat.le_refl _)]
      have lx : 64 ≤ x.length := by rw [hx, List.length_append, fillK_len]; omega
      simp only [e3, fillK_len]
      refine bif_of (decide_eq_true (by omega)) fun cb y hcb hy => ?_
      have ly : 64 ≤ y.length := by rw [hy, List.length_append, fillK_len]; omega
      refine ⟨by trivial, ⟨lx, ly⟩, fun u v hu hv => ⟨by trivial, by trivial, by trivial, by trivial, ⟨by trivial, by trivial⟩, ⟨by trivial, by trivial⟩, ⟨by trivial, by trivial⟩, ⟨by trivial, by trivial⟩, ⟨by trivial, by trivial⟩, ?_⟩⟩
      have tu : List.take 64 (List.drop 0 u) = mask (rOf k) 54 := by rw [hu, hx]; exact msk_fill (rOf k) _ 54
      have tv : List.take 64 (List.drop 0 v) = mask (rOf k) 92 := by rw [hv, hy]; exact msk_fill (rOf k) _ 92
      have lu : 64 ≤ u.length := by rw [hu, msk_len]; exact lx
      have lv : 64 ≤ v.length := by rw [hv, msk_len]; exact ly
      rw [tu, tv]
      refine bif_of (decide_eq_true lv) (bif_of (decide_eq_true lu) (bif_of (by rw [ile_eq, mask_len]; exact decide_eq_true (by omega)) (bif_of (Nat.ble_eq_true_of_le (by rw [List.length_append, mask_len]; omega)) (bif_of (by rw [ile_eq, mask_len, rOf_len]; exact decide_eq_true (by omega)) (bif_of (Nat.ble_eq_true_of_le (by rw [List.length_append, mask_len, rOf_len]; omega)) ?_)))))
      have e : keyOf rOf k = rOf k := by unfold keyOf; rw [hc]; rfl
      rw [e]; rfl
  · cases h
end Go.Proofs.YtmalnjdacmlcdaaDoor
