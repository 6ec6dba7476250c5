/-
  aead: the words that are mixed, and bytes that are added. No statement is proved here.
-/
import Derived.Test.YtgjhkfafmmkimaaDoorVdH
import Derived.Test.YtgjhkfafmmkimaaDoorVdD
import Derived.Test.YtgjhkfafmmkimaaDoorAeB
namespace Go.Proofs.YtgjhkfafmmkimaaDoor
open Go.RowKit
set_option linter.unusedVariables false
set_option linter.unusedSimpArgs false
set_option maxRecDepth 100000

theorem vf60 (x : BitVec 32) (k : Int) (K : SV → Mm → Prop) : (vf Tryd.prog E0 noL 60 [.w32 x, .i k] G K) = (K (SV.w32 (x <<< (BitVec.ofInt 64 k &&& BitVec.ofInt 64 31).toNat ||| x >>> (BitVec.ofInt 64 32 - (BitVec.ofInt 64 k &&& BitVec.ofInt 64 31)).toNat)) G) := by kernel_rfl
def cRot : List SV → List Cont → Option (Bool × SV)
  | [.w32 x, .i k], _ => some (true, .w32 (rl x (BitVec.ofInt 64 k &&& BitVec.ofInt 64 31)))
  | _, _ => none
theorem rot_ok : POk Tryd.prog G 60 cRot := by
  intro args acs r h β M w hR hw ha
  unfold cRot at h
  split at h
  · rename_i x k
    simp only [Option.some.injEq, Prod.mk.injEq, true_and] at h
    subst h
    exact pure0 (vf_ok e0_ok mixed (noL_ok _ _ _ _) (of_eq (vf60 x k _) rfl)) rfl rfl hR
  · cases h
def F1 : Env := ⟨G, noT.add 60 cRot, noC⟩
theorem f1_ok : EnvOk Tryd.prog F1 := ⟨PT.add_ok (noT_ok _ _) rot_ok, noC_ok _ _⟩
def Bw (l : Ws) : Mm := [⟨false, .ints MX⟩, ⟨true, .a32 l⟩]
theorem vf53 (l : Ws) (a b d : Nat) (k : Int) (K : SV → Mm → Prop) : (vf Tryd.prog F1 noL 53 [.ptr 1 a, .ptr 1 b, .ptr 1 d, .i k] (Bw l) K) = (bif a.blt (List.length l) then bif b.blt (List.length l) then bif a.blt (List.length l) then bif d.blt (List.set l a (List.getD l a 0 + List.getD l b 0)).length then bif a.blt (List.set l a (List.getD l a 0 + List.getD l b 0)).length then bif d.blt (List.set l a (List.getD l a 0 + List.getD l b 0)).length then K (SV.tup []) [{ rw := false, c := Cont.ints MX }, { rw := true, c := Cont.a32 ((List.set l a (List.getD l a 0 + List.getD l b 0)).set d (rl ((List.set l a (List.getD l a 0 + List.getD l b 0)).getD d 0 ^^^ (List.set l a (List.getD l a 0 + List.getD l b 0)).getD a 0) (BitVec.ofInt 64 k &&& BitVec.ofInt 64 31))) }] else False else False else False else False else False else False) := by kernel_rfl
/-- A word is added to another, and turned into a third. -/
def stD (l : Ws) (a b d : Nat) (k : Int) : Ws := xr (ad l a b) d a (BitVec.ofInt 64 k &&& BitVec.ofInt 64 31)
theorem stD_len (l : Ws) (a b d : Nat) (k : Int) : (stD l a b d k).length = l.length := by unfold stD; rw [xr_len, ad_len]
def cStir (X : Ws → Nat → Nat → Nat → Int → Ws) : List SV → Mm → (SV → Mm → Prop) → Prop
  | [.ptr k a, .ptr k1 b, .ptr k2 d, .i m], M, K => match M[k]? with
    | some ⟨true, .a32 l⟩ => vsome (Nat.beq k1 k && (Nat.beq k2 k && (Nat.blt a l.length && (Nat.blt b l.length && Nat.blt d l.length)))) (setK M k ⟨true, .a32 (X l a b d m)⟩ fun M2 => K (.tup []) M2)
    | _ => False
  | _, _, _ => False
theorem stir_ok : COk Tryd.prog G 53 (cStir stD) := by
  intro args M K h
  unfold cStir at h
  split at h
  · rename_i k a k1 b k2 d m
    split at h
    · rename_i l hk
      obtain ⟨hb, hh⟩ := vsome_iff.1 h
      simp only [Bool.and_eq_true] at hb
      obtain ⟨h0, h1, h2, h3, h4⟩ := hb
      obtain rfl := Nat.eq_of_beq_eq_true h0
      obtain rfl := Nat.eq_of_beq_eq_true h1
      refine eff_of (R := [⟨true, .a32 l⟩]) (args0 := [.ptr 1 a, .ptr 1 b, .ptr 1 d, .i m]) (K0 := fun r M => r = .tup [] ∧ M = Bw (stD l a b d m)) [k2] (vf_ok (M := Bw l) f1_ok mixed (noL_ok _ _ _ _) (of_eq (vf53 l a b d m _) ?_)) rfl rfl (by simp) ⟨⟨true, hk, fun h => h⟩, ⟨rfl, rfl⟩, trivial⟩ ?_
      · simp only [List.length_set, h2, h3, h4, cond_true]
        exact ⟨by trivial, rfl⟩
      · rintro r1 M1 ⟨rfl, rfl⟩
        rw [setK_eq] at hh
        have e : back G [⟨true, .a32 l⟩] M (sig G.length [k2]) (Bw (stD l a b d m)) = M.set k2 ⟨true, .a32 (stD l a b d m)⟩ := List.append_nil _
        rw [e]
        exact hh
    · exact h.elim
  · exact h.elim
def F2 (X : Ws → Nat → Nat → Nat → Int → Ws) : Env := ⟨G, F1.T, noC.add 53 (cStir X)⟩
theorem f2_ok : EnvOk Tryd.prog (F2 stD) := ⟨f1_ok.T, CT.add_ok (noC_ok _ _) stir_ok⟩
theorem vf47 (X : Ws → Nat → Nat → Nat → Int → Ws) (l : Ws) (a b c d : Nat) (K : SV → Mm → Prop) : (vf Tryd.prog (F2 X) noL 47 [.ptr 1 a, .ptr 1 b, .ptr 1 c, .ptr 1 d] (Bw l) K) = (bif a.blt (List.length l) && (b.blt (List.length l) && d.blt (List.length l)) then bif c.blt (List.length (X l a b d 16)) && (d.blt (List.length (X l a b d 16)) && b.blt (List.length (X l a b d 16))) then bif a.blt (List.length (X (X l a b d 16) c d b 12)) && (b.blt (List.length (X (X l a b d 16) c d b 12)) && d.blt (List.length (X (X l a b d 16) c d b 12))) then bif c.blt (List.length (X (X (X l a b d 16) c d b 12) a b d 8)) && (d.blt (List.length (X (X (X l a b d 16) c d b 12) a b d 8)) && b.blt (List.length (X (X (X l a b d 16) c d b 12) a b d 8))) then K (SV.tup []) [{ rw := false, c := Cont.ints MX }, { rw := true, c := Cont.a32 (X (X (X (X l a b d 16) c d b 12) a b d 8) c d b 7) }] else False else False else False else False) := by kernel_rfl
def cMixP (X : Ws → Nat → Nat → Nat → Nat → Ws) : List SV → Mm → (SV → Mm → Prop) → Prop
  | [.ptr k a, .ptr k1 b, .ptr k2 c, .ptr k3 d], M, K => match M[k]? with
    | some ⟨true, .a32 l⟩ => vsome (Nat.beq k1 k && (Nat.beq k2 k && (Nat.beq k3 k && (Nat.blt a 16 && (Nat.blt b 16 && (Nat.blt c 16 && (Nat.blt d 16 && Nat.beq l.length 16))))))) (setK M k ⟨true, .a32 (X l a b c d)⟩ fun M2 => K (.tup []) M2)
    | _ => False
  | _, _, _ => False
theorem st_mix (l : Ws) (a b c d : Nat) : stD (stD (stD (stD l a b d 16) c d b 12) a b d 8) c d b 7 = mixL l a b c d := rfl
theorem mixP_ok : COk Tryd.prog G 47 (cMixP mixL) := by
  intro args M K h
  unfold cMixP at h
  split at h
  · rename_i k a k1 b k2 c k3 d
    split at h
    · rename_i l hk
      obtain ⟨hb, hh⟩ := vsome_iff.1 h
      simp only [Bool.and_eq_true] at hb
      obtain ⟨h0, h1, h2, h3, h4, h5, h6, h7⟩ := hb
      obtain rfl := Nat.eq_of_beq_eq_true h0
      obtain rfl := Nat.eq_of_beq_eq_true h1
      obtain rfl := Nat.eq_of_beq_eq_true h2
      have h7 := Nat.eq_of_beq_eq_true h7
      refine eff_of (R := [⟨true, .a32 l⟩]) (args0 := [.ptr 1 a, .ptr 1 b, .ptr 1 c, .ptr 1 d]) (K0 := fun r M => r = .tup [] ∧ M = Bw (mixL l a b c d)) [k3] (vf_ok (M := Bw l) f2_ok mixed (noL_ok _ _ _ _) (of_eq (vf47 stD l a b c d _) ?_)) rfl rfl (by simp) ⟨⟨true, hk, fun h => h⟩, ⟨rfl, rfl⟩, trivial⟩ ?_
      · simp only [stD_len, h7, h3, h4, h5, h6, Bool.and_self, cond_true]
        exact ⟨by trivial, congrArg Bw (st_mix l a b c d)⟩
      · rintro r1 M1 ⟨rfl, rfl⟩
        rw [setK_eq] at hh
        have e : back G [⟨true, .a32 l⟩] M (sig G.length [k3]) (Bw (mixL l a b c d)) = M.set k3 ⟨true, .a32 (mixL l a b c d)⟩ := List.append_nil _
        rw [e]
        exact hh
    · exact h.elim
  · exact h.elim
def F3 (X : Ws → Nat → Nat → Nat → Nat → Ws) : Env := ⟨G, noT, noC.add 47 (cMixP X)⟩
theorem f3_ok : EnvOk Tryd.prog (F3 mixL) := ⟨noT_ok _ _, CT.add_ok (noC_ok _ _) mixP_ok⟩
def M35 (x : Ws) : Mm := [⟨false, .ints MX⟩, ⟨true, .a32 x⟩, ⟨true, .a32 (List.replicate 16 0)⟩]
def i35 (j : Nat) : List (Nat × SV) := [(1, .ptr 1 0), (2, .ptr 2 0), (5, .i (j : Int))]
def o35 : List (Nat × SV) := [(1, .ptr 1 0), (2, .ptr 2 0)]
def Li35 (P : Program) (X : Ws → Nat → Nat → Nat → Nat → Ws) : LT := noL.add 2 (vUn P (F3 X) noL 35 2 9)
def L35 (x y : Ws) : LT := noL.add 0 (vLoop G 27 (i35 0) (M35 x) o35 (M35 y))
theorem va35 (X : Ws → Nat → Nat → Nat → Nat → Ws) (x y : Ws) (K : SV → Mm → Prop) : (vf Tryd.prog (F3 X) (L35 x y) 35 [.a32 x] G K) = (loopOf Tryd.prog (35 : Nat) (0 : Nat) = loopOf Tryd.prog (35 : Nat) (0 : Nat) ∧ SV.ptr (1 : Nat) (0 : Nat) = SV.ptr (1 : Nat) (0 : Nat) ∧ SV.ptr ((0 : Nat) + (1 : Nat) + (1 : Nat)) (0 : Nat) = SV.ptr (2 : Nat) (0 : Nat) ∧ SV.i (0 : Int) = SV.i (↑(0 : Nat) : Int) ∧ (false = false ∧ Cont.ints MX = Cont.ints MX) ∧ (true = true ∧ Cont.a32 x = Cont.a32 x) ∧ (true = true ∧ Cont.a32 (List.replicate (16 : Nat) (0 : BitVec (32 : Nat))) = Cont.a32 (List.replicate (16 : Nat) (0 : BitVec (32 : Nat)))) ∧ bif (List.length y).beq (16 : Nat) then bif (List.length y).beq (16 : Nat) && (List.length y).beq (16 : Nat) then bif (List.length y).beq (16 : Nat) && true then K (SV.a32 y) [{ rw := false, c := Cont.ints MX }, { rw := true, c := Cont.a32 y }, { rw := true, c := Cont.a32 y }] else False else False else False) := by kernel_rfl
theorem vr35 (X : Ws → Nat → Nat → Nat → Nat → Ws) (x x1 z : Ws) (j : Nat) (p : Prop) : (frK 27 (i35 j) fun fr => vround Tryd.prog (F3 X) (Li35 Tryd.prog X) 35 0 fr (M35 x) (Kn G 0 27 p (i35 (j + 1)) (M35 x1) o35 (M35 z))) = (bif ilt (↑j : Int) (10 : Int) then loopOf Tryd.prog (35 : Nat) (2 : Nat) = loopOf Tryd.prog (35 : Nat) (2 : Nat) ∧ bif (List.length x).beq (16 : Nat) then bif (List.length (X x (0 : Nat) (4 : Nat) (8 : Nat) (12 : Nat))).beq (16 : Nat) then bif (List.length (X (X x (0 : Nat) (4 : Nat) (8 : Nat) (12 : Nat)) (1 : Nat) (5 : Nat) (9 : Nat) (13 : Nat))).beq (16 : Nat) then bif (List.length (X (X (X x (0 : Nat) (4 : Nat) (8 : Nat) (12 : Nat)) (1 : Nat) (5 : Nat) (9 : Nat) (13 : Nat)) (2 : Nat) (6 : Nat) (10 : Nat) (14 : Nat))).beq (16 : Nat) then bif (List.length (X (X (X (X x (0 : Nat) (4 : Nat) (8 : Nat) (12 : Nat)) (1 : Nat) (5 : Nat) (9 : Nat) (13 : Nat)) (2 : Nat) (6 : Nat) (10 : Nat) (14 : Nat)) (3 : Nat) (7 : Nat) (11 : Nat) (15 : Nat))).beq (16 : Nat) then bif (List.length (X (X (X (X (X x (0 : Nat) (4 : Nat) (8 : Nat) (12 : Nat)) (1 : Nat) (5 : Nat) (9 : Nat) (13 : Nat)) (2 : Nat) (6 : Nat) (10 : Nat) (14 : Nat)) (3 : Nat) (7 : Nat) (11 : Nat) (15 : Nat)) (0 : Nat) (5 : Nat) (10 : Nat) (15 : Nat))).beq (16 : Nat) then bif (List.length (X (X (X (X (X (X x (0 : Nat) (4 : Nat) (8 : Nat) (12 : Nat)) (1 : Nat) (5 : Nat) (9 : Nat) (13 : Nat)) (2 : Nat) (6 : Nat) (10 : Nat) (14 : Nat)) (3 : Nat) (7 : Nat) (11 : Nat) (15 : Nat)) (0 : Nat) (5 : Nat) (10 : Nat) (15 : Nat)) (1 : Nat) (6 : Nat) (11 : Nat) (12 : Nat))).beq (16 : Nat) then bif (List.length (X (X (X (X (X (X (X x (0 : Nat) (4 : Nat) (8 : Nat) (12 : Nat)) (1 : Nat) (5 : Nat) (9 : Nat) (13 : Nat)) (2 : Nat) (6 : Nat) (10 : Nat) (14 : Nat)) (3 : Nat) (7 : Nat) (11 : Nat) (15 : Nat)) (0 : Nat) (5 : Nat) (10 : Nat) (15 : Nat)) (1 : Nat) (6 : Nat) (11 : Nat) (12 : Nat)) (2 : Nat) (7 : Nat) (8 : Nat) (13 : Nat))).beq (16 : Nat) then bif inI ((↑j : Int) + (1 : Int)) then p ∧ SV.ptr (1 : Nat) (0 : Nat) = SV.ptr (1 : Nat) (0 : Nat) ∧ SV.ptr (2 : Nat) (0 : Nat) = SV.ptr (2 : Nat) (0 : Nat) ∧ SV.i ((↑j : Int) + (1 : Int)) = SV.i (↑(j + (1 : Nat)) : Int) ∧ (false = false ∧ Cont.ints MX = Cont.ints MX) ∧ (true = true ∧ Cont.a32 (X (X (X (X (X (X (X (X x (0 : Nat) (4 : Nat) (8 : Nat) (12 : Nat)) (1 : Nat) (5 : Nat) (9 : Nat) (13 : Nat)) (2 : Nat) (6 : Nat) (10 : Nat) (14 : Nat)) (3 : Nat) (7 : Nat) (11 : Nat) (15 : Nat)) (0 : Nat) (5 : Nat) (10 : Nat) (15 : Nat)) (1 : Nat) (6 : Nat) (11 : Nat) (12 : Nat)) (2 : Nat) (7 : Nat) (8 : Nat) (13 : Nat)) (3 : Nat) (4 : Nat) (9 : Nat) (14 : Nat)) = Cont.a32 x1) ∧ (true = true ∧ Cont.a32 (List.replicate (16 : Nat) (0 : BitVec (32 : Nat))) = Cont.a32 (List.replicate (16 : Nat) (0 : BitVec (32 : Nat)))) ∧ True else False else False else False else False else False else False else False else False else False else (0 : Nat) = (0 : Nat) ∧ SV.ptr (1 : Nat) (0 : Nat) = SV.ptr (1 : Nat) (0 : Nat) ∧ SV.ptr (2 : Nat) (0 : Nat) = SV.ptr (2 : Nat) (0 : Nat) ∧ (false = false ∧ Cont.ints MX = Cont.ints MX) ∧ (true = true ∧ Cont.a32 x = Cont.a32 z) ∧ (true = true ∧ Cont.a32 (List.replicate (16 : Nat) (0 : BitVec (32 : Nat))) = Cont.a32 (List.replicate (16 : Nat) (0 : BitVec (32 : Nat)))) ∧ True) := by kernel_rfl
theorem loop35 (l : Ws) (hl : l.length = 16) : LOk Tryd.prog G G 35 (L35 l (dbls l 10)) := by
  refine LT.add_ok (noL_ok _ _ _ _) (loop_next f3_ok mixed (LT.un_ok f3_ok mixed (noL_ok _ _ _ _) (noL_ok _ _ _ _) (by kernel_rfl) 9) (Nat.le_refl _) (by kernel_rfl) i35 (fun j => M35 (dbls l j)) (fun j => j ≤ 10) (fun j => 10 - j) (fun j => j + 1) 0 (Nat.zero_le _) (fun j hj => of_eq (vr35 mixL (dbls l j) (dbls l (j + 1)) (dbls l 10) j _) ?_))
  have hx := (dbls_len l j).trans hl
  have hnext : dbls l (j + 1) = dbl (dbls l j) := rfl
  have hfin : j = 10 → dbls l j = dbls l 10 := fun e => by subst e; rfl
  rw [hnext]
  generalize dbls l j = x at hx hfin
  generalize dbls l 10 = z at hfin
  cases hq : ilt (j : Int) 10
  · have hj2 : j = 10 := by rw [ilt_eq] at hq; have := of_decide_eq_false hq; omega
    exact ⟨rfl, rfl, rfl, ⟨rfl, rfl⟩, ⟨rfl, congrArg Cont.a32 (hfin hj2)⟩, ⟨rfl, rfl⟩, trivial⟩
  · have hj2 : j < 10 := by rw [ilt_eq] at hq; have := of_decide_eq_true hq; omega
    have i5 : inI ((j : Int) + 1) = true := inI_iff.2 (by omega)
    have h16 : Nat.beq 16 16 = true := rfl
    simp only [mixL_len, hx, h16, i5, cond_true]
    exact ⟨trivial, ⟨by omega, by omega⟩, trivial, trivial, rfl, ⟨trivial, trivial⟩, ⟨trivial, by unfold dbl; rfl⟩, ⟨trivial, trivial⟩, trivial⟩
def cMixed (X : Ws → Ws) : List SV → List Cont → Option (Bool × SV)
  | [.a32 l], _ => some (Nat.beq l.length 16, .a32 (X l))
  | _, _ => none
def mxd (l : Ws) : Ws := dbls l 10
theorem mxd_len (l : Ws) : (mxd l).length = l.length := dbls_len l 10
theorem mixed_ok : POk Tryd.prog G 35 (cMixed mxd) := by
  intro args acs r h β M w hR hw ha
  unfold cMixed at h
  split at h
  · rename_i l
    simp only [Option.some.injEq, Prod.mk.injEq] at h
    obtain ⟨hl, rfl⟩ := h
    have hl := Nat.eq_of_beq_eq_true hl
    refine pure0 (vf_ok f3_ok mixed (loop35 l hl) (of_eq (va35 mixL l (dbls l 10) _) ?_)) rfl rfl hR
    have h16 : Nat.beq 16 16 = true := rfl
    rw [show (dbls l 10).length = 16 from (dbls_len l 10).trans hl]
    exact ⟨rfl, rfl, rfl, rfl, ⟨rfl, rfl⟩, ⟨rfl, rfl⟩, ⟨rfl, rfl⟩, rfl⟩
  · cases h
end Go.Proofs.YtgjhkfafmmkimaaDoor
namespace Go.Proofs.YtgjhkfafmmkimaaDoor
open Go.RowKit
set_option linter.unusedVariables false
set_option linter.unusedSimpArgs false
set_option maxRecDepth 100000

/-- A loop's state: none is added yet; or how many bytes are, how much there is room for, and what the block holds. -/
inductive S36 where
  | fst (cap : Nat) (x : Tx)
  | more (j cap : Nat) (x : Tx)
def Ba (l : Tx) : Mm := [⟨false, .ints MX⟩, ⟨true, .a8 l⟩]
def Na (x : Tx) : Mm := [⟨false, .ints MX⟩, ⟨true, .gone⟩, ⟨true, .a8 x⟩]
def I36 (w : BitVec 64) (n len : Nat) : S36 → List (Nat × SV)
  | .fst cap _ => [(0, .sl 1 0 len cap), (1, .w64 w), (8, .i (n : Nat)), (9, .i 0)]
  | .more j cap _ => [(0, .sl 2 0 (len + j) cap), (1, .w64 w), (8, .i (n : Nat)), (9, .i (j : Nat))]
def Mi36 : S36 → Mm
  | .fst _ x => Ba x
  | .more _ _ x => Na x
def got36 (j : Nat) (fr : List SV) (M : Mm) : Option S36 := match fr with
  | SV.sl k _ _ cap :: _ => match M[k]? with
    | some ⟨_, .a8 x⟩ => some (.more (j + 1) cap x)
    | _ => none
  | _ => none
def sel36 : S36 → List SV → Mm → Option S36
  | .fst _ _ => got36 0
  | .more j _ _ => got36 j
def rs36 : S36 → List Nat
  | .fst _ _ => [3]
  | .more _ _ _ => [4]
def O36 (n len cap : Nat) : List (Nat × SV) := [(0, .sl 2 0 (len + n) cap)]
def vL36 (l : Tx) (w : BitVec 64) (n len cap : Nat) (p : Nat → Tx → Prop) (fr : List SV) (M : Mm) (K : Ko) : Prop := vLe (Ba l) fr M 22 (I36 w n len (.fst cap l)) (Ba l) (∀ cap' x, p cap' x → frK 22 (O36 n len cap') fun fr1 => K .normal fr1 (Na x))
def L36 (l : Tx) (w : BitVec 64) (n len cap : Nat) (p : Nat → Tx → Prop) : LT := noL.add 0 (vL36 l w n len cap p)
theorem vc36 (l : Tx) (w : BitVec 64) (n len cap : Nat) (p : Nat → Tx → Prop) (K : SV → Mm → Prop) : (vf Tryd.prog E0 (L36 l w n len cap p) 36 [.sl 1 0 len cap, .w64 w, .i (n : Nat)] (Ba l) K) = (loopOf Tryd.prog 36 0 = loopOf Tryd.prog 36 0 ∧ SV.sl 1 0 len cap = SV.sl 1 0 len cap ∧ SV.w64 w = SV.w64 w ∧ SV.i (↑n : Int) = SV.i (↑n : Int) ∧ SV.i 0 = SV.i 0 ∧ (false = false ∧ Cont.ints MX = Cont.ints MX) ∧ (true = true ∧ Cont.a8 l = Cont.a8 l) ∧ ∀ (cap' : Nat) (x : Tx), p cap' x → K (SV.sl 2 0 (len + n) cap') (Na x)) := by kernel_rfl
theorem vr36a (l x : Tx) (w : BitVec 64) (n len cap : Nat) (a : S36 → Prop) (q : Prop) : (frK 22 (I36 w n len (.fst cap x)) fun fr => vround Tryd.prog E0 noL 36 0 fr (Mi36 (.fst cap x)) (Ks (Ba l) 0 22 (sel36 (.fst cap x)) (rs36 (.fst cap x)) a (I36 w n len) Mi36 q (O36 n len cap) (Na x))) = (bif ilt 0 (↑n : Int) then bif decide (len ≤ cap) && decide (List.length x = cap) && decide (len + (List.take 1 (List.drop 0 [BitVec.setWidth 8 (w >>> 0)])).length ≤ 1099511627776) && true then ∀ (cap' : Nat) (rest : List (BitVec 8)), len + (List.take 1 (List.drop 0 [BitVec.setWidth 8 (w >>> 0)])).length + rest.length = cap' → a (S36.more 1 cap' (List.take len x ++ List.take 1 (List.drop 0 [BitVec.setWidth 8 (w >>> 0)]) ++ rest)) ∧ SV.sl (0 + 1 + 1 + 1) 0 (len + (List.take 1 (List.drop 0 [BitVec.setWidth 8 (w >>> 0)])).length) cap' = ren (sig (List.length (Ba l)) (rs36 (S36.fst cap x))) (SV.sl 2 0 (len + 1) cap') ∧ SV.w64 w = ren (sig (List.length (Ba l)) (rs36 (S36.fst cap x))) (SV.w64 w) ∧ SV.i (↑n : Int) = ren (sig (List.length (Ba l)) (rs36 (S36.fst cap x))) (SV.i (↑n : Int)) ∧ SV.i (0 + 1) = ren (sig (List.length (Ba l)) (rs36 (S36.fst cap x))) (SV.i (↑1 : Int)) ∧ (false = false ∧ Cont.ints MX = Cont.ren (sig (List.length (Ba l)) (rs36 (S36.fst cap x))) (Cont.ints MX)) ∧ (true = true ∧ Cont.gone = Cont.ren (sig (List.length (Ba l)) (rs36 (S36.fst cap x))) Cont.gone) ∧ (true = true ∧ Cont.a8 (List.take len x ++ List.take 1 (List.drop 0 [BitVec.setWidth 8 (w >>> 0)]) ++ rest) = Cont.ren (sig (List.length (Ba l)) (rs36 (S36.fst cap x))) (Cont.a8 (List.take len x ++ List.take 1 (List.drop 0 [BitVec.setWidth 8 (w >>> 0)]) ++ rest))) ∧ True else False else 0 = 0 ∧ q ∧ SV.sl 1 0 len cap = SV.sl 2 0 (len + n) cap ∧ (false = false ∧ Cont.ints MX = Cont.ints MX) ∧ (true = true ∧ Cont.a8 x = Cont.gone) ∧ False) := by kernel_rfl
theorem vr36b (l x : Tx) (w : BitVec 64) (n len cap j : Nat) (a : S36 → Prop) (q : Prop) : (frK 22 (I36 w n len (.more j cap x)) fun fr => vround Tryd.prog E0 noL 36 0 fr (Mi36 (.more j cap x)) (Ks (Ba l) 0 22 (sel36 (.more j cap x)) (rs36 (.more j cap x)) a (I36 w n len) Mi36 q (O36 n len cap) (Na x))) = (bif ilt (↑j : Int) (↑n : Int) then bif inI (8 * (↑j : Int)) then bif decide (len + j ≤ cap) && decide (List.length x = cap) && decide (len + j + (List.take 1 (List.drop 0 [BitVec.setWidth 8 (w >>> (8 * (↑j : Int)).toNat)])).length ≤ 1099511627776) && true then ∀ (cap' : Nat) (rest : List (BitVec 8)), len + j + (List.take 1 (List.drop 0 [BitVec.setWidth 8 (w >>> (8 * (↑j : Int)).toNat)])).length + rest.length = cap' → bif inI ((↑j : Int) + 1) then a (S36.more (j + 1) cap' (List.take (len + j) x ++ List.take 1 (List.drop 0 [BitVec.setWidth 8 (w >>> (8 * (↑j : Int)).toNat)]) ++ rest)) ∧ SV.sl (0 + 1 + 1 + 1 + 1) 0 (len + j + (List.take 1 (List.drop 0 [BitVec.setWidth 8 (w >>> (8 * (↑j : Int)).toNat)])).length) cap' = ren (sig (List.length (Ba l)) (rs36 (S36.more j cap x))) (SV.sl 2 0 (len + (j + 1)) cap') ∧ SV.w64 w = ren (sig (List.length (Ba l)) (rs36 (S36.more j cap x))) (SV.w64 w) ∧ SV.i (↑n : Int) = ren (sig (List.length (Ba l)) (rs36 (S36.more j cap x))) (SV.i (↑n : Int)) ∧ SV.i ((↑j : Int) + 1) = ren (sig (List.length (Ba l)) (rs36 (S36.more j cap x))) (SV.i (↑(j + 1) : Int)) ∧ (false = false ∧ Cont.ints MX = Cont.ren (sig (List.length (Ba l)) (rs36 (S36.more j cap x))) (Cont.ints MX)) ∧ (true = true ∧ Cont.gone = Cont.ren (sig (List.length (Ba l)) (rs36 (S36.more j cap x))) Cont.gone) ∧ (true = true ∧ Cont.a8 (List.take (len + j) x ++ List.take 1 (List.drop 0 [BitVec.setWidth 8 (w >>> (8 * (↑j : Int)).toNat)]) ++ rest) = Cont.ren (sig (List.length (Ba l)) (rs36 (S36.more j cap x))) (Cont.a8 (List.take (len + j) x ++ List.take 1 (List.drop 0 [BitVec.setWidth 8 (w >>> (8 * (↑j : Int)).toNat)]) ++ rest))) ∧ True else False else False else False else 0 = 0 ∧ q ∧ SV.sl 2 0 (len + j) cap = SV.sl 2 0 (len + n) cap ∧ (false = false ∧ Cont.ints MX = Cont.ints MX) ∧ (true = true ∧ Cont.gone = Cont.gone) ∧ (true = true ∧ Cont.a8 x = Cont.a8 x) ∧ True) := by kernel_rfl
/-- The lowest bytes of a word, the lowest first. -/
def lo (w : BitVec 64) (n : Nat) : Tx := (List.range n).map fun k => (w >>> (8 * k)).setWidth 8
theorem lo_len (w : BitVec 64) (n : Nat) : (lo w n).length = n := by simp [lo]
theorem lo_take (w : BitVec 64) (n j : Nat) (h : j < n) : (lo w n).take (j + 1) = (lo w n).take j ++ [(w >>> (8 * j)).setWidth 8] := by
  rw [List.take_add_one]
  congr 1
  simp [lo, h]
theorem take_app {α : Type} (a b c : List α) (n : Nat) (h : a.length + b.length = n) : (a ++ b ++ c).take n = a ++ b := by
  rw [List.take_append_of_le_length (by simp; omega), List.take_of_length_le (by simp; omega)]
def p36 (l : Tx) (w : BitVec 64) (n len cap : Nat) : S36 → Prop
  | .fst c x => c = cap ∧ x = l
  | .more j c x => j ≤ n ∧ x.length = c ∧ ∃ rest, x = l.take len ++ (lo w n).take j ++ rest
def m36 (n : Nat) : S36 → Nat
  | .fst _ _ => n + 1
  | .more j _ _ => n - j
def q36 (n : Nat) : S36 → Prop
  | .fst _ _ => False
  | .more j _ _ => j = n
def o36 (n len : Nat) : S36 → List (Nat × SV)
  | .fst c _ => O36 n len c
  | .more _ c _ => O36 n len c
def n36 : S36 → Mm
  | .fst _ x => Na x
  | .more _ _ x => Na x
def P36 (l : Tx) (w : BitVec 64) (n len : Nat) (cap : Nat) (x : Tx) : Prop := x.length = cap ∧ ∃ rest, x = l.take len ++ lo w n ++ rest
theorem shr0 {n : Nat} (x : BitVec n) : x >>> (8 * 0) = x >>> 0 := rfl
theorem loop36 (l : Tx) (w : BitVec 64) (n len cap : Nat) (hn : 1 ≤ n) (hn8 : n ≤ 8) (h1 : len ≤ cap) (h2 : l.length = cap) (h3 : len + 8 ≤ 1099511627776) : LOk Tryd.prog G (Ba l) 36 (L36 l w n len cap (P36 l w n len)) := by
  refine LT.add_ok (noL_ok _ _ _ _) fun fr M K h => ?_
  obtain ⟨h0, hK⟩ := vLe_ok h
  refine loop_sel e0_ok mixed (noL_ok _ _ _ _) (by show 1 ≤ 2; decide) (by kernel_rfl) (I36 w n len) Mi36 (p36 l w n len cap) (m36 n) sel36 rs36 (q36 n) (o36 n len) n36 (.fst cap l) ⟨rfl, rfl⟩ (fun i hp => ?_) h0 (fun i hp hq => ?_)
  · cases i with
    | fst c x =>
      obtain ⟨rfl, rfl⟩ := hp
      refine of_eq (vr36a x x w n len c _ _) ?_
      have hc : ilt 0 (n : Int) = true := by rw [ilt_eq]; exact decide_eq_true (by omega)
      rw [hc]
      refine bif_of ?_ fun cap' rest hc => ?_
      · simp; omega
      · refine ⟨⟨⟨hn, ?_, rest, ?_⟩, ?_⟩, rfl, rfl, rfl, rfl, ⟨rfl, rfl⟩, ⟨rfl, rfl⟩, ⟨rfl, rfl⟩, trivial⟩
        · simp at hc ⊢; omega
        · rw [lo_take w n 0 (by omega)]; rfl
        · show n - (0 + 1) < n + 1; omega
    | more j c x =>
      obtain ⟨hj, hx, rest, hr⟩ := hp
      have hl : (l.take len).length + ((lo w n).take j).length = len + j := by rw [List.length_take, List.length_take, lo_len]; omega
      have hcl : len + j ≤ c := by rw [← hx, hr, List.length_append, List.length_append, hl]; omega
      have ht : x.take (len + j) = l.take len ++ (lo w n).take j := by rw [hr]; exact take_app _ _ _ _ hl
      refine of_eq (vr36b l x w n len c j _ _) ?_
      cases hc : ilt (j : Int) (n : Int)
      · have hj2 : j = n := by rw [ilt_eq] at hc; have := of_decide_eq_false hc; omega
        subst hj2
        exact ⟨rfl, rfl, rfl, ⟨rfl, rfl⟩, ⟨rfl, rfl⟩, ⟨rfl, rfl⟩, trivial⟩
      · have hj2 : j < n := by rw [ilt_eq] at hc; have := of_decide_eq_true hc; omega
        have e : (8 * (j : Int)).toNat = 8 * j := by omega
        rw [e, ht]
        refine bif_of (inI_iff.2 (by omega)) (bif_of ?_ fun cap' rest' hc' => bif_of (inI_iff.2 (by omega)) ?_)
        · simp; omega
        · refine ⟨⟨⟨by omega, ?_, rest', ?_⟩, ?_⟩, rfl, rfl, rfl, ?_, ⟨rfl, rfl⟩, ⟨rfl, rfl⟩, ⟨rfl, rfl⟩, trivial⟩
          · rw [← hc', List.length_append, List.length_append, List.length_append, hl]
          · rw [lo_take w n j hj2]
            simp
          · show n - (j + 1) < n - j; omega
          · exact congrArg SV.i (by omega)
  · cases i with
    | fst c x => exact hq.elim
    | more j c x =>
      obtain ⟨hj, hx, rest, hr⟩ := hp
      replace hq : j = n := hq
      rw [hq, List.take_of_length_le (l := lo w n) (by rw [lo_len]; omega)] at hr
      have := hK c x ⟨hx, rest, hr⟩
      rw [frK_eq] at this
      exact this
-- the same, onto nothing
def Bn (x : Tx) : Mm := [⟨false, .ints MX⟩, ⟨true, .a8 x⟩]
def J36 (w : BitVec 64) (n : Nat) : S36 → List (Nat × SV)
  | .fst cap _ => [(0, .v (.slice none 0 0)), (1, .w64 w), (8, .i (n : Nat)), (9, .i 0)]
  | .more j cap _ => [(0, .sl 1 0 j cap), (1, .w64 w), (8, .i (n : Nat)), (9, .i (j : Nat))]
def Mj36 : S36 → Mm
  | .fst _ x => G
  | .more _ _ x => Bn x
def rt36 : S36 → List Nat
  | .fst _ _ => [2]
  | .more _ _ _ => [3]
def Q36 (n cap : Nat) : List (Nat × SV) := [(0, .sl 1 0 n cap)]
def vN36 (w : BitVec 64) (n : Nat) (p : Nat → Tx → Prop) (fr : List SV) (M : Mm) (K : Ko) : Prop := vLe G fr M 22 (J36 w n (.fst 0 [])) G (∀ cap' x, p cap' x → frK 22 (Q36 n cap') fun fr1 => K .normal fr1 (Bn x))
def LN36 (w : BitVec 64) (n : Nat) (p : Nat → Tx → Prop) : LT := noL.add 0 (vN36 w n p)
theorem vc36n (w : BitVec 64) (n : Nat) (p : Nat → Tx → Prop) (K : SV → Mm → Prop) : (vf Tryd.prog E0 (LN36 w n p) 36 [.v (.slice none 0 0), .w64 w, .i (n : Nat)] G K) = (loopOf Tryd.prog 36 0 = loopOf Tryd.prog 36 0 ∧ SV.v (Value.slice none 0 0) = SV.v (Value.slice none 0 0) ∧ SV.w64 w = SV.w64 w ∧ SV.i (↑n : Int) = SV.i (↑n : Int) ∧ SV.i 0 = SV.i 0 ∧ (false = false ∧ Cont.ints MX = Cont.ints MX) ∧ ∀ (cap' : Nat) (x : Tx), p cap' x → K (SV.sl 1 0 n cap') (Bn x)) := by kernel_rfl
theorem vr36c (x : Tx) (w : BitVec 64) (n cap : Nat) (a : S36 → Prop) (q : Prop) : (frK 22 (J36 w n (.fst cap x)) fun fr => vround Tryd.prog E0 noL 36 0 fr (Mj36 (.fst cap x)) (Ks G 0 22 (sel36 (.fst cap x)) (rt36 (.fst cap x)) a (J36 w n) Mj36 q (Q36 n cap) (Bn x))) = (bif ilt 0 (↑n : Int) then ∀ (cap' : Nat) (rest : List (BitVec 8)), (List.take 1 (List.drop 0 [BitVec.setWidth 8 (w >>> 0)])).length + rest.length = cap' → a (S36.more 1 cap' (List.take 1 (List.drop 0 [BitVec.setWidth 8 (w >>> 0)]) ++ rest)) ∧ SV.sl (0 + 1 + 1) 0 (List.take 1 (List.drop 0 [BitVec.setWidth 8 (w >>> 0)])).length cap' = ren (sig 1 (rt36 (S36.fst cap x))) (SV.sl 1 0 1 cap') ∧ SV.w64 w = ren (sig 1 (rt36 (S36.fst cap x))) (SV.w64 w) ∧ SV.i (↑n : Int) = ren (sig 1 (rt36 (S36.fst cap x))) (SV.i (↑n : Int)) ∧ SV.i (0 + 1) = ren (sig 1 (rt36 (S36.fst cap x))) (SV.i (↑1 : Int)) ∧ (false = false ∧ Cont.ints MX = Cont.ren (sig 1 (rt36 (S36.fst cap x))) (Cont.ints MX)) ∧ (true = true ∧ Cont.a8 (List.take 1 (List.drop 0 [BitVec.setWidth 8 (w >>> 0)]) ++ rest) = Cont.ren (sig 1 (rt36 (S36.fst cap x))) (Cont.a8 (List.take 1 (List.drop 0 [BitVec.setWidth 8 (w >>> 0)]) ++ rest))) ∧ True else 0 = 0 ∧ q ∧ SV.v (Value.slice none 0 0) = SV.sl 1 0 n cap ∧ (false = false ∧ Cont.ints MX = Cont.ints MX) ∧ False) := by kernel_rfl
theorem vr36d (x : Tx) (w : BitVec 64) (n cap j : Nat) (a : S36 → Prop) (q : Prop) : (frK 22 (J36 w n (.more j cap x)) fun fr => vround Tryd.prog E0 noL 36 0 fr (Mj36 (.more j cap x)) (Ks G 0 22 (sel36 (.more j cap x)) (rt36 (.more j cap x)) a (J36 w n) Mj36 q (Q36 n cap) (Bn x))) = (bif ilt (↑j : Int) (↑n : Int) then bif inI (8 * (↑j : Int)) then bif decide (j ≤ cap) && decide (List.length x = cap) && decide (j + (List.take 1 (List.drop 0 [BitVec.setWidth 8 (w >>> (8 * (↑j : Int)).toNat)])).length ≤ 1099511627776) && true then ∀ (cap' : Nat) (rest : List (BitVec 8)), j + (List.take 1 (List.drop 0 [BitVec.setWidth 8 (w >>> (8 * (↑j : Int)).toNat)])).length + rest.length = cap' → bif inI ((↑j : Int) + 1) then a (S36.more (j + 1) cap' (List.take j x ++ List.take 1 (List.drop 0 [BitVec.setWidth 8 (w >>> (8 * (↑j : Int)).toNat)]) ++ rest)) ∧ SV.sl (0 + 1 + 1 + 1) 0 (j + (List.take 1 (List.drop 0 [BitVec.setWidth 8 (w >>> (8 * (↑j : Int)).toNat)])).length) cap' = ren (sig 1 (rt36 (S36.more j cap x))) (SV.sl 1 0 (j + 1) cap') ∧ SV.w64 w = ren (sig 1 (rt36 (S36.more j cap x))) (SV.w64 w) ∧ SV.i (↑n : Int) = ren (sig 1 (rt36 (S36.more j cap x))) (SV.i (↑n : Int)) ∧ SV.i ((↑j : Int) + 1) = ren (sig 1 (rt36 (S36.more j cap x))) (SV.i (↑(j + 1) : Int)) ∧ (false = false ∧ Cont.ints MX = Cont.ren (sig 1 (rt36 (S36.more j cap x))) (Cont.ints MX)) ∧ (true = true ∧ Cont.a8 (List.take j x ++ List.take 1 (List.drop 0 [BitVec.setWidth 8 (w >>> (8 * (↑j : Int)).toNat)]) ++ rest) = Cont.ren (sig 1 (rt36 (S36.more j cap x))) (Cont.a8 (List.take j x ++ List.take 1 (List.drop 0 [BitVec.setWidth 8 (w >>> (8 * (↑j : Int)).toNat)]) ++ rest))) ∧ True else False else False else False else 0 = 0 ∧ q ∧ SV.sl 1 0 j cap = SV.sl 1 0 n cap ∧ (false = false ∧ Cont.ints MX = Cont.ints MX) ∧ (true = true ∧ Cont.a8 x = Cont.a8 x) ∧ True) := by kernel_rfl
def pn36 (w : BitVec 64) (n : Nat) : S36 → Prop
  | .fst c x => True
  | .more j c x => 1 ≤ j ∧ j ≤ n ∧ x.length = c ∧ ∃ rest, x = (lo w n).take j ++ rest
def on36 (n : Nat) : S36 → List (Nat × SV)
  | .fst c _ => Q36 n c
  | .more _ c _ => Q36 n c
def nn36 : S36 → Mm
  | .fst _ x => Bn x
  | .more _ _ x => Bn x
def PN36 (w : BitVec 64) (n : Nat) (cap : Nat) (x : Tx) : Prop := x.length = cap ∧ ∃ rest, x = lo w n ++ rest
theorem loop36n (w : BitVec 64) (n : Nat) (hn : 1 ≤ n) (hn8 : n ≤ 8) : LOk Tryd.prog G G 36 (LN36 w n (PN36 w n)) := by
  refine LT.add_ok (noL_ok _ _ _ _) fun fr M K h => ?_
  obtain ⟨h0, hK⟩ := vLe_ok h
  refine loop_sel e0_ok mixed (noL_ok _ _ _ _) (Nat.le_refl _) (by kernel_rfl) (J36 w n) Mj36 (pn36 w n) (m36 n) sel36 rt36 (q36 n) (on36 n) nn36 (.fst 0 []) trivial (fun i hp => ?_) h0 (fun i hp hq => ?_)
  · cases i with
    | fst c x =>
      refine of_eq (vr36c x w n c _ _) ?_
      have hc : ilt 0 (n : Int) = true := by rw [ilt_eq]; exact decide_eq_true (by omega)
      rw [hc]
      intro cap' rest hc
      refine ⟨⟨⟨Nat.le_refl _, hn, ?_, rest, ?_⟩, ?_⟩, rfl, rfl, rfl, rfl, ⟨rfl, rfl⟩, ⟨rfl, rfl⟩, trivial⟩
      · simp at hc ⊢; omega
      · rw [lo_take w n 0 (by omega)]; rfl
      · show n - (0 + 1) < n + 1; omega
    | more j c x =>
      obtain ⟨hj0, hj, hx, rest, hr⟩ := hp
      have hl : ((lo w n).take j).length = j := by rw [List.length_take, lo_len]; omega
      have hcl : j ≤ c := by rw [← hx, hr, List.length_append, hl]; omega
      have ht : x.take j = (lo w n).take j := by rw [hr, List.take_append_of_le_length (by omega), List.take_of_length_le (by omega)]
      refine of_eq (vr36d x w n c j _ _) ?_
      cases hc : ilt (j : Int) (n : Int)
      · have hj2 : j = n := by rw [ilt_eq] at hc; have := of_decide_eq_false hc; omega
        subst hj2
        exact ⟨rfl, rfl, rfl, ⟨rfl, rfl⟩, ⟨rfl, rfl⟩, trivial⟩
      · have hj2 : j < n := by rw [ilt_eq] at hc; have := of_decide_eq_true hc; omega
        have e : (8 * (j : Int)).toNat = 8 * j := by omega
        rw [e, ht]
        refine bif_of (inI_iff.2 (by omega)) (bif_of ?_ fun cap' rest' hc' => bif_of (inI_iff.2 (by omega)) ?_)
        · simp; omega
        · refine ⟨⟨⟨by omega, by omega, ?_, rest', ?_⟩, ?_⟩, rfl, rfl, rfl, ?_, ⟨rfl, rfl⟩, ⟨rfl, rfl⟩, trivial⟩
          · rw [← hc', List.length_append, List.length_append, hl]
          · rw [lo_take w n j hj2]
            simp
          · show n - (j + 1) < n - j; omega
          · exact congrArg SV.i (by omega)
  · cases i with
    | fst c x => exact hq.elim
    | more j c x =>
      obtain ⟨hj0, hj, hx, rest, hr⟩ := hp
      replace hq : j = n := hq
      rw [hq, List.take_of_length_le (l := lo w n) (by rw [lo_len]; omega)] at hr
      have := hK c x ⟨hx, rest, hr⟩
      rw [frK_eq] at this
      exact this
/-- What is told of adding a word's bytes to a slice. -/
def cPack (lo : BitVec 64 → Nat → Tx) : List SV → Mm → (SV → Mm → Prop) → Prop
  | [.sl k off len cap, .w64 w, .i n], M, K => match M[k]? with
    | some ⟨true, .a8 l⟩ => vsome ((ile 1 n && ile n 8) && Nat.beq off 0 && (decide (len ≤ cap) && (decide (l.length = cap) && decide (len + 8 ≤ 1099511627776)))) <|
      ∀ (cap' : Nat) (rest : List (BitVec 8)), len + n.toNat + rest.length = cap' → setK M k ⟨true, .gone⟩ fun M1 => snocK M1 ⟨true, .a8 (l.take len ++ lo w n.toNat ++ rest)⟩ fun M2 => K (.sl M.length 0 (len + n.toNat) cap') M2
    | _ => False
  | [.v (.slice none 0 0), .w64 w, .i n], M, K => vsome (ile 1 n && ile n 8) <|
      ∀ (cap' : Nat) (rest : List (BitVec 8)), n.toNat + rest.length = cap' → snocK M ⟨true, .a8 (lo w n.toNat ++ rest)⟩ fun M2 => K (.sl M.length 0 n.toNat cap') M2
  | _, _, _ => False
theorem pack_ok : COk Tryd.prog G 36 (cPack lo) := by
  intro args M K h
  unfold cPack at h
  split at h
  · rename_i k off len cap w z
    split at h
    · rename_i l hk
      obtain ⟨hb, hh⟩ := vsome_iff.1 h
      simp only [Bool.and_eq_true, decide_eq_true_eq, ile_eq] at hb
      obtain ⟨⟨⟨hz1, hz8⟩, h0⟩, h1, h2, h3⟩ := hb
      obtain rfl := Nat.eq_of_beq_eq_true h0
      obtain ⟨n, rfl⟩ : ∃ n : Nat, z = (n : Int) := ⟨z.toNat, by omega⟩
      rw [Int.toNat_natCast] at hh
      refine eff_of (R := [⟨true, .a8 l⟩]) (args0 := [.sl 1 0 len cap, .w64 w, .i (n : Nat)]) (K0 := fun r M => ∃ cap' rest, len + n + rest.length = cap' ∧ r = .sl 2 0 (len + n) cap' ∧ M = Na (l.take len ++ lo w n ++ rest)) [k] (vf_ok (M := Ba l) e0_ok mixed (loop36 l w n len cap (by omega) (by omega) h1 h2 h3) (of_eq (vc36 l w n len cap _ _) ?_)) rfl rfl (by simp) ⟨⟨true, hk, fun h => h⟩, ⟨rfl, rfl⟩, trivial⟩ ?_
      · refine ⟨rfl, rfl, rfl, rfl, rfl, ⟨rfl, rfl⟩, ⟨rfl, rfl⟩, fun cap' x hx => ?_⟩
        obtain ⟨hx, rest, rfl⟩ := hx
        refine ⟨cap', rest, ?_, rfl, rfl⟩
        simp [lo_len] at hx
        omega
      · rintro r1 M1 ⟨cap', rest, hc, rfl, rfl⟩
        have := hh cap' rest hc
        rw [setK_eq, snocK_eq] at this
        exact this
    · exact h.elim
  · rename_i w z
    obtain ⟨hb, hh⟩ := vsome_iff.1 h
    simp only [Bool.and_eq_true, ile_eq, decide_eq_true_eq] at hb
    obtain ⟨n, rfl⟩ : ∃ n : Nat, z = (n : Int) := ⟨z.toNat, by omega⟩
    rw [Int.toNat_natCast] at hh
    refine eff_of (R := []) (args0 := [.v (.slice none 0 0), .w64 w, .i (n : Nat)]) (K0 := fun r M => ∃ cap' rest, n + rest.length = cap' ∧ r = .sl 1 0 n cap' ∧ M = Bn (lo w n ++ rest)) [] (vf_ok (M := G) e0_ok mixed (loop36n w n (by omega) (by omega)) (of_eq (vc36n w n _ _) ?_)) rfl rfl List.nodup_nil trivial ?_
    · refine ⟨rfl, rfl, rfl, rfl, rfl, ⟨rfl, rfl⟩, fun cap' x hx => ?_⟩
      obtain ⟨hx, rest, rfl⟩ := hx
      refine ⟨cap', rest, ?_, rfl, rfl⟩
      simp [lo_len] at hx
      omega
    · rintro r1 M1 ⟨cap', rest, hc, rfl, rfl⟩
      have := hh cap' rest hc
      rw [snocK_eq] at this
      exact this
  · exact h.elim
end Go.Proofs.YtgjhkfafmmkimaaDoor
