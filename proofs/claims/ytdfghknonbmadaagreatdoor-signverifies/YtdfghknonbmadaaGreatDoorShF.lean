/-
  sha: what ends a text, the bytes of all words, and a text that is taken in. No statement is proved here.
-/
import Derived.Test.YtdfghknonbmadaaGreatDoorShC
namespace Go.Proofs.YtdfghknonbmadaaGreatDoor
namespace Sh
open Go.RowKit
set_option linter.unusedVariables false
set_option linter.unusedSimpArgs false
set_option maxRecDepth 100000
def zs (c : BitVec 64) : Nat := (BitVec.ofInt 64 1 + (BitVec.ofInt 64 239 - c % BitVec.ofInt 64 128) % BitVec.ofInt 64 128).toNat
def ends (c : BitVec 64) : List (BitVec 8) := ((List.replicate 256 0).set 0 (BitVec.ofInt 8 128)).take (zs c) ++ by64 (c >>> 61) ++ by64 (c <<< 3)
theorem vc15 (c : BitVec 64) (K : SV → Mm → Prop) : (vf Tryz.prog E4 noL 77 [.w64 c] G K) = (bif ile (↑(BitVec.ofInt 64 1 + (BitVec.ofInt 64 239 - c % BitVec.ofInt 64 128) % BitVec.ofInt 64 128).toNat : Int) 256 && true then bif inR 0 (BitVec.ofInt 64 1 + (BitVec.ofInt 64 239 - c % BitVec.ofInt 64 128) % BitVec.ofInt 64 128).toNat then bif decide ((BitVec.ofInt 64 1 + (BitVec.ofInt 64 239 - c % BitVec.ofInt 64 128) % BitVec.ofInt 64 128).toNat ≤ 256) && decide ((BitVec.ofInt 64 1 + (BitVec.ofInt 64 239 - c % BitVec.ofInt 64 128) % BitVec.ofInt 64 128).toNat + 8 ≤ 1099511627776) then ∀ (cap' : Nat) (rest : List (BitVec 8)), (BitVec.ofInt 64 1 + (BitVec.ofInt 64 239 - c % BitVec.ofInt 64 128) % BitVec.ofInt 64 128).toNat + 8 + rest.length = cap' → bif decide ((BitVec.ofInt 64 1 + (BitVec.ofInt 64 239 - c % BitVec.ofInt 64 128) % BitVec.ofInt 64 128).toNat + 8 ≤ cap') && (decide ((List.take (BitVec.ofInt 64 1 + (BitVec.ofInt 64 239 - c % BitVec.ofInt 64 128) % BitVec.ofInt 64 128).toNat ((List.replicate 256 0).set 0 (BitVec.ofInt 8 128)) ++ by64 (c >>> 61) ++ rest).length = cap') && decide ((BitVec.ofInt 64 1 + (BitVec.ofInt 64 239 - c % BitVec.ofInt 64 128) % BitVec.ofInt 64 128).toNat + 8 + 8 ≤ 1099511627776)) then ∀ (cap' : Nat) (rest_1 : List (BitVec 8)), (BitVec.ofInt 64 1 + (BitVec.ofInt 64 239 - c % BitVec.ofInt 64 128) % BitVec.ofInt 64 128).toNat + 8 + 8 + rest_1.length = cap' → bif decide (0 + ((BitVec.ofInt 64 1 + (BitVec.ofInt 64 239 - c % BitVec.ofInt 64 128) % BitVec.ofInt 64 128).toNat + 8 + 8) ≤ (List.take ((BitVec.ofInt 64 1 + (BitVec.ofInt 64 239 - c % BitVec.ofInt 64 128) % BitVec.ofInt 64 128).toNat + 8) (List.take (BitVec.ofInt 64 1 + (BitVec.ofInt 64 239 - c % BitVec.ofInt 64 128) % BitVec.ofInt 64 128).toNat ((List.replicate 256 0).set 0 (BitVec.ofInt 8 128)) ++ by64 (c >>> 61) ++ rest) ++ by64 (c <<< 3) ++ rest_1).length) then K (SV.s (List.take ((BitVec.ofInt 64 1 + (BitVec.ofInt 64 239 - c % BitVec.ofInt 64 128) % BitVec.ofInt 64 128).toNat + 8 + 8) (List.drop 0 (List.take ((BitVec.ofInt 64 1 + (BitVec.ofInt 64 239 - c % BitVec.ofInt 64 128) % BitVec.ofInt 64 128).toNat + 8) (List.take (BitVec.ofInt 64 1 + (BitVec.ofInt 64 239 - c % BitVec.ofInt 64 128) % BitVec.ofInt 64 128).toNat ((List.replicate 256 0).set 0 (BitVec.ofInt 8 128)) ++ by64 (c >>> 61) ++ rest) ++ by64 (c <<< 3) ++ rest_1)))) [{ rw := false, c := Cont.a64 BEG }, { rw := false, c := Cont.a64 PRI }, { rw := false, c := Cont.a64 CON }, { rw := false, c := Cont.a64 WHO }, { rw := false, c := Cont.a64 ROM }, { rw := true, c := Cont.gone }, { rw := true, c := Cont.gone }, { rw := true, c := Cont.a8 (List.take ((BitVec.ofInt 64 1 + (BitVec.ofInt 64 239 - c % BitVec.ofInt 64 128) % BitVec.ofInt 64 128).toNat + 8) (List.take (BitVec.ofInt 64 1 + (BitVec.ofInt 64 239 - c % BitVec.ofInt 64 128) % BitVec.ofInt 64 128).toNat ((List.replicate 256 0).set 0 (BitVec.ofInt 8 128)) ++ by64 (c >>> 61) ++ rest) ++ by64 (c <<< 3) ++ rest_1) }] else False else False else False else False else False) := by kernel_rfl
theorem zs_val (c : BitVec 64) : zs c = 1 + (239 - c.toNat % 128) % 128 := by
 have h2 : (BitVec.ofInt 64 239).toNat = 239 := rfl
 have h3 : (BitVec.ofInt 64 128).toNat = 128 := rfl
 have h1 : (BitVec.ofInt 64 1).toNat = 1 := rfl
 unfold zs
 rw [BitVec.toNat_add, BitVec.toNat_umod, BitVec.toNat_sub, BitVec.toNat_umod, h1, h2, h3]
 omega
def cEnd : List SV → List Cont → Option (Bool × SV)
 | [.w64 c], _ => some (true, .s (ends c))
 | _, _ => none
theorem end_ok : POk Tryz.prog G 77 cEnd := by
 intro args acs r h β M w hR hw ha
 unfold cEnd at h
 split at h
 ·rename_i c
  simp only [Option.some.injEq, Prod.mk.injEq, true_and] at h
  subst h
  refine pure0 (vf_ok e4_ok mixed (noL_ok _ _ _ _) (of_eq (vc15 c _) ?_)) rfl rfl hR
  have hz := zs_val c
  show _
  have hz1 : 1 ≤ zs c := by omega
  have hz2 : zs c ≤ 128 := by omega
  have el : ((List.replicate 256 (0 : BitVec 8)).set 0 (BitVec.ofInt 8 128)).length = 256 := by rw [List.length_set, List.length_replicate]
  have e1 : (((List.replicate 256 0).set 0 (BitVec.ofInt 8 128)).take (zs c)).length = zs c := by rw [List.length_take, el]; omega
  have hs : SV.s (ends c) = SV.s (((List.replicate 256 0).set 0 (BitVec.ofInt 8 128)).take (zs c) ++ by64 (c >>> 61) ++ by64 (c <<< 3)) := rfl
  rw [hs]
  clear hs hz
  change bif ile ((zs c : Nat) : Int) 256 && true then _ else False
  unfold zs at *
  generalize (BitVec.ofInt 64 1 + (BitVec.ofInt 64 239 - c % BitVec.ofInt 64 128) % BitVec.ofInt 64 128).toNat = z at *
  generalize (List.replicate 256 (0 : BitVec 8)).set 0 (BitVec.ofInt 8 128) = l at *
  refine bif_of ?_ (bif_of (inR_iff.2 (by omega)) (bif_of ?_ fun cap' rest hc => bif_of ?_ fun cap2 rest2 hc2 => bif_of ?_ ?_))
  ·simp [ile_eq]; omega
  ·simp; omega
  ·simp only [List.length_append, e1, by64_len, Bool.and_eq_true, decide_eq_true_eq]; omega
  ·have : (List.take (z + 8) (List.take z l ++ by64 (c >>> 61) ++ rest)).length = z + 8 := by rw [List.length_take, List.length_append, List.length_append, e1, by64_len]; omega
   simp only [List.length_append, this, by64_len, decide_eq_true_eq]; omega
  ·have q1 : List.take (z + 8) (List.take z l ++ by64 (c >>> 61) ++ rest) = List.take z l ++ by64 (c >>> 61) := take_app _ _ _ _ (by rw [e1, by64_len])
   rw [q1, List.drop_zero, take_app _ _ _ _ (by rw [List.length_append, e1, by64_len, by64_len])]
 ·cases h
def wr (h : S8) : List (BitVec 8) := h.l.flatMap by64
def S16 (h : S8) (x : List (BitVec 8)) : Mm := [⟨false, .a64 BEG⟩, ⟨false, .a64 PRI⟩, ⟨false, .a64 CON⟩, ⟨false, .a64 WHO⟩, ⟨false, .a64 ROM⟩, ⟨true, .a64 h.l⟩, ⟨true, .a8 x⟩]
structure I16 where
 j : Nat
 cap : Nat
 x : List (BitVec 8)
def i16 (h : S8) (i : I16) : List (Nat × SV) := [(3, .sl 6 0 (8 * i.j) i.cap), (7, .a64 h.l), (8, .i (i.j : Nat))]
def o16 (cap : Nat) : List (Nat × SV) := [(3, .sl 6 0 64 cap)]
def got16 (i : I16) (fr : List SV) (M : Mm) : Option I16 := match fr with
 | _ :: _ :: _ :: SV.sl k _ _ cap :: _ => match M[k]? with
  | some ⟨_, .a8 x⟩ => some ⟨i.j + 1, cap, x⟩
  | _ => none
 | _ => none
def vL16 (h : S8) (p : Nat → List (BitVec 8) → Prop) (fr : List SV) (M : Mm) (K : Ko) : Prop := vLe G fr M 17 (i16 h ⟨0, 64, List.replicate 64 0⟩) (S16 h (List.replicate 64 0)) (∀ cap x, p cap x → frK 17 (o16 cap) fun fr1 => K .normal fr1 (S16 h x))
def L16 (h : S8) (p : Nat → List (BitVec 8) → Prop) : LT := noL.add 0 (vL16 h p)
theorem vc16 (h : S8) (p : Nat → List (BitVec 8) → Prop) (K : SV → Mm → Prop) : (vf Tryz.prog E4 (L16 h p) 78 [.a64 h.l] G K) = (loopOf Tryz.prog 78 0 = loopOf Tryz.prog 78 0 ∧ SV.sl (0 + 1 + 1 + 1 + 1 + 1 + 1) 0 0 64 = SV.sl 6 0 0 64 ∧ SV.a64 h.l = SV.a64 h.l ∧ SV.i 0 = SV.i (↑0 : Int) ∧ (false = false ∧ Cont.a64 BEG = Cont.a64 BEG) ∧ (false = false ∧ Cont.a64 PRI = Cont.a64 PRI) ∧ (false = false ∧ Cont.a64 CON = Cont.a64 CON) ∧ (false = false ∧ Cont.a64 WHO = Cont.a64 WHO) ∧ (false = false ∧ Cont.a64 ROM = Cont.a64 ROM) ∧ (true = true ∧ Cont.a64 h.l = Cont.a64 h.l) ∧ (true = true ∧ Cont.a8 (List.replicate 64 0) = Cont.a8 (List.replicate 64 0)) ∧ ∀ (cap : Nat) (x : List (BitVec 8)), p cap x → bif decide (64 ≤ x.length) then K (SV.s (List.take 64 (List.drop 0 x))) (S16 h x) else False) := by kernel_rfl
theorem vr16 (h : S8) (i : I16) (a : I16 → Prop) (q : Prop) : (frK 17 (i16 h i) fun fr => vround Tryz.prog E4 noL 78 0 fr (S16 h i.x) (Ks G 0 17 (got16 i) [5, 7] a (i16 h) (fun i => S16 h i.x) q (o16 i.cap) (S16 h i.x))) = (bif ilt (↑i.j : Int) 8 then bif inR (↑i.j : Int) 8 then bif decide (8 * i.j ≤ i.cap) && (decide (i.x.length = i.cap) && decide (8 * i.j + 8 ≤ 1099511627776)) then ∀ (cap' : Nat) (rest : List (BitVec 8)), 8 * i.j + 8 + rest.length = cap' → bif inI ((↑i.j : Int) + 1) then a { j := i.j + 1, cap := cap', x := List.take (8 * i.j) i.x ++ by64 (h.l.getD i.j 0) ++ rest } ∧ SV.sl (List.length (S16 h i.x)) 0 (8 * i.j + 8) cap' = ren (sig 5 [5, 7]) (SV.sl 6 0 (8 * (i.j + 1)) cap') ∧ SV.a64 h.l = ren (sig 5 [5, 7]) (SV.a64 h.l) ∧ SV.i ((↑i.j : Int) + 1) = ren (sig 5 [5, 7]) (SV.i (↑(i.j + 1) : Int)) ∧ (false = false ∧ Cont.a64 BEG = Cont.ren (sig 5 [5, 7]) (Cont.a64 BEG)) ∧ (false = false ∧ Cont.a64 PRI = Cont.ren (sig 5 [5, 7]) (Cont.a64 PRI)) ∧ (false = false ∧ Cont.a64 CON = Cont.ren (sig 5 [5, 7]) (Cont.a64 CON)) ∧ (false = false ∧ Cont.a64 WHO = Cont.ren (sig 5 [5, 7]) (Cont.a64 WHO)) ∧ (false = false ∧ Cont.a64 ROM = Cont.ren (sig 5 [5, 7]) (Cont.a64 ROM)) ∧ (true = true ∧ Cont.a64 h.l = Cont.ren (sig 5 [5, 7]) (Cont.a64 h.l)) ∧ (true = true ∧ Cont.a8 (List.take (8 * i.j) i.x ++ by64 (h.l.getD i.j 0) ++ rest) = Cont.ren (sig 5 [5, 7]) (Cont.a8 (List.take (8 * i.j) i.x ++ by64 (h.l.getD i.j 0) ++ rest))) ∧ True else False else False else False else 0 = 0 ∧ q ∧ SV.sl 6 0 (8 * i.j) i.cap = SV.sl 6 0 64 i.cap ∧ (false = false ∧ Cont.a64 BEG = Cont.a64 BEG) ∧ (false = false ∧ Cont.a64 PRI = Cont.a64 PRI) ∧ (false = false ∧ Cont.a64 CON = Cont.a64 CON) ∧ (false = false ∧ Cont.a64 WHO = Cont.a64 WHO) ∧ (false = false ∧ Cont.a64 ROM = Cont.a64 ROM) ∧ (true = true ∧ Cont.a64 h.l = Cont.a64 h.l) ∧ (true = true ∧ Cont.a8 i.x = Cont.a8 i.x) ∧ True) := by kernel_rfl
def p16 (h : S8) (i : I16) : Prop := i.j ≤ 8 ∧ i.x.length = i.cap ∧ ∃ rest, i.x = (h.l.take i.j).flatMap by64 ++ rest
theorem fm_len (l : List (BitVec 64)) : (l.flatMap by64).length = 8 * l.length := by
 induction l with
 | nil => rfl
 | cons x l ih => rw [List.flatMap_cons, List.length_append, ih, by64_len, List.length_cons]; omega
theorem s8_len (h : S8) : h.l.length = 8 := rfl
def P16 (h : S8) (cap : Nat) (x : List (BitVec 8)) : Prop := x.length = cap ∧ ∃ rest, x = wr h ++ rest
theorem loop16 (h : S8) : LOk Tryz.prog G G 78 (L16 h (P16 h)) := by
 refine LT.add_ok (noL_ok _ _ _ _) fun fr M K hh => ?_
 obtain ⟨h0, hK⟩ := vLe_ok hh
 refine loop_sel e4_ok mixed (noL_ok _ _ _ _) (Nat.le_refl _) (by kernel_rfl) (i16 h) (fun i => S16 h i.x) (p16 h) (fun i => 8 - i.j) got16 (fun _ => [5, 7]) (fun i => i.j = 8) (fun i => o16 i.cap) (fun i => S16 h i.x) ⟨0, 64, List.replicate 64 0⟩ ⟨by decide, by simp, List.replicate 64 0, by simp⟩ (fun i hp => of_eq (vr16 h i _ _) ?_) h0 (fun i hp hq => ?_)
 ·obtain ⟨j, c, x⟩ := i
  obtain ⟨hj, hx, rest, hr⟩ := hp
  dsimp only at hj hx hr ⊢
  cases hc : ilt (j : Int) 8
  ·have hj2 : j = 8 := by rw [ilt_eq] at hc; have := of_decide_eq_false hc; omega
   subst hj2
   exact ⟨rfl, rfl, rfl, ⟨rfl, rfl⟩, ⟨rfl, rfl⟩, ⟨rfl, rfl⟩, ⟨rfl, rfl⟩, ⟨rfl, rfl⟩, ⟨rfl, rfl⟩, ⟨rfl, rfl⟩, trivial⟩
  ·have hj2 : j < 8 := by rw [ilt_eq] at hc; have := of_decide_eq_true hc; omega
   have hl : ((h.l.take j).flatMap by64).length = 8 * j := by rw [fm_len, List.length_take, s8_len]; omega
   have hcl : 8 * j ≤ c := by rw [← hx, hr, List.length_append, hl]; omega
   have ht : x.take (8 * j) = (h.l.take j).flatMap by64 := by rw [hr, List.take_append_of_le_length (by omega), List.take_of_length_le (by omega)]
   rw [ht]
   refine bif_of (inR_nat hj2) (bif_of ?_ fun cap' rest' hc' => bif_of (inI_iff.2 (by omega)) ?_)
   ·simp; omega
   ·refine ⟨⟨⟨by show j + 1 ≤ 8; omega, ?_, rest', ?_⟩, by show 8 - (j + 1) < 8 - j; omega⟩, rfl, rfl, rfl, ⟨rfl, rfl⟩, ⟨rfl, rfl⟩, ⟨rfl, rfl⟩, ⟨rfl, rfl⟩, ⟨rfl, rfl⟩, ⟨rfl, rfl⟩, ⟨rfl, rfl⟩, trivial⟩
    ·rw [List.length_append, List.length_append, hl, by64_len]; exact hc'
    ·dsimp only
     rw [List.take_add_one, getD_get 0 (show j < h.l.length by rw [s8_len]; exact hj2)]
     simp
 ·obtain ⟨j, c, x⟩ := i
  obtain ⟨hj, hx, rest, hr⟩ := hp
  obtain rfl : j = 8 := hq
  have := hK c x ⟨hx, rest, hr⟩
  rw [frK_eq] at this
  exact this
def cWrite : List SV → List Cont → Option (Bool × SV)
 | [.a64 [a, b, c, d, e, f, g, h]], _ => some (true, .s (wr ⟨a, b, c, d, e, f, g, h⟩))
 | _, _ => none
theorem write_ok : POk Tryz.prog G 78 cWrite := by
 intro args acs r h β M w hR hw ha
 unfold cWrite at h
 split at h
 ·rename_i a b c d e f g h'
  simp only [Option.some.injEq, Prod.mk.injEq, true_and] at h
  subst h
  refine pure0 (vf_ok e4_ok mixed (loop16 ⟨a, b, c, d, e, f, g, h'⟩) (of_eq (vc16 ⟨a, b, c, d, e, f, g, h'⟩ _ _) ?_)) rfl rfl hR
  refine ⟨rfl, rfl, rfl, rfl, ⟨rfl, rfl⟩, ⟨rfl, rfl⟩, ⟨rfl, rfl⟩, ⟨rfl, rfl⟩, ⟨rfl, rfl⟩, ⟨rfl, rfl⟩, ⟨rfl, rfl⟩, fun cap x hx => ?_⟩
  obtain ⟨hx, rest, hr⟩ := hx
  have hl : (wr ⟨a, b, c, d, e, f, g, h'⟩).length = 64 := by unfold wr; rw [fm_len, s8_len]
  refine bif_of ?_ ?_
  ·rw [hr, List.length_append, hl]; exact decide_eq_true (by omega)
  ·rw [hr, List.drop_zero, List.take_append_of_le_length (by omega), List.take_of_length_le (by omega)]
 ·cases h
structure St where
 b : List (BitVec 8)
 c : BitVec 64
 h : S8
def St.off (x : St) : Nat := (x.c % 128).toNat
def stp (x : St) (s : List (BitVec 8)) : St :=
 ⟨x.b.take x.off ++ s.take (128 - x.off) ++ x.b.drop (x.off + min s.length (128 - x.off)),
  x.c + BitVec.ofInt 64 ((min s.length (128 - x.off) : Nat) : Int),
  bif (x.c + BitVec.ofInt 64 ((min s.length (128 - x.off) : Nat) : Int)) % 128 == 0 then nextS x.h (x.b.take x.off ++ s.take (128 - x.off) ++ x.b.drop (x.off + min s.length (128 - x.off))) else x.h⟩
def rst (x : St) (s : List (BitVec 8)) : List (BitVec 8) := s.drop (min s.length (128 - x.off))
def feed : Nat → St → List (BitVec 8) → St
 | 0, x, _ => x
 | n + 1, x, s => bif s.isEmpty then x else feed n (stp x s) (rst x s)
def fd (x : St) (s : List (BitVec 8)) : St := feed s.length x s
theorem off_lt (x : St) : x.off < 128 := by
 have : (128 : BitVec 64).toNat = 128 := rfl
 unfold St.off; rw [BitVec.toNat_umod, this]; omega
theorem rst_lt (x : St) (s : List (BitVec 8)) (h : s ≠ []) : (rst x s).length < s.length := by
 have := off_lt x
 have : 0 < s.length := List.length_pos_iff.2 h
 unfold rst
 rw [List.length_drop]
 omega
theorem feed_irr : ∀ (n m : Nat) (x : St) (s : List (BitVec 8)), s.length ≤ n → s.length ≤ m → feed n x s = feed m x s := by
 intro n
 induction n with
 | zero =>
  intro m x s h _
  obtain rfl := List.length_eq_zero_iff.1 (Nat.le_zero.1 h)
  cases m <;> rfl
 | succ n ih =>
  intro m x s h hm
  cases s with
  | nil => cases m <;> rfl
  | cons y l =>
   have h1 := rst_lt x (y :: l) (by simp)
   simp only [List.length_cons] at h1 h hm
   obtain ⟨m', rfl⟩ : ∃ m', m = m' + 1 := ⟨m - 1, by omega⟩
   exact ih m' _ _ (by omega) (by omega)
theorem fd_step (x : St) (s : List (BitVec 8)) (h : s ≠ []) : fd x s = fd (stp x s) (rst x s) := by
 have h1 := rst_lt x s h
 cases s with
 | nil => exact absurd rfl h
 | cons y l =>
  show feed l.length (stp x (y :: l)) (rst x (y :: l)) = _
  exact feed_irr _ _ _ _ (by simp only [List.length_cons] at h1; omega) (Nat.le_refl _)
theorem stp_blen (x : St) (s : List (BitVec 8)) (h : x.b.length = 128) : (stp x s).b.length = 128 := by
 have := off_lt x
 simp only [stp, List.length_append, List.length_take, List.length_drop, h]
 omega
theorem feed_blen : ∀ (n : Nat) (x : St) (s : List (BitVec 8)), x.b.length = 128 → (feed n x s).b.length = 128
 | 0, x, s, h => h
 | n + 1, x, [], h => h
 | n + 1, x, y :: l, h => feed_blen n _ _ (stp_blen x (y :: l) h)
theorem fd_blen (x : St) (s : List (BitVec 8)) (h : x.b.length = 128) : (fd x s).b.length = 128 := feed_blen _ _ _ h
def T5 : PT := (T4.add 77 cEnd).add 78 cWrite
def E5 : Env := ⟨G, T5, C4⟩
theorem e5_ok : EnvOk Tryz.prog E5 := ⟨PT.add_ok (PT.add_ok e4_ok.T end_ok) write_ok, e4_ok.C⟩
def M13 (x : St) : Mm := [⟨false, .a64 BEG⟩, ⟨false, .a64 PRI⟩, ⟨false, .a64 CON⟩, ⟨false, .a64 WHO⟩, ⟨false, .a64 ROM⟩, ⟨true, .a8 x.b⟩, ⟨true, .row [.w64 x.c]⟩, ⟨true, .a64 x.h.l⟩]
def I13 (s : List (BitVec 8)) : List (Nat × SV) := [(0, .s s), (1, .ptr 5 0), (2, .ptr 6 0), (3, .ptr 7 0)]
def L13 (x : St) (s : List (BitVec 8)) (fin : St) : LT := noL.add 0 (vLoop (M13 x) 27 (I13 s) (M13 x) [] (M13 fin))
theorem vc13 (x : St) (s : List (BitVec 8)) (fin : St) (K : SV → Mm → Prop) : (vf Tryz.prog E5 (L13 x s fin) 75 [.s s, .ptr 5 0, .ptr 6 0, .ptr 7 0] (M13 x) K) = (loopOf Tryz.prog 75 0 = loopOf Tryz.prog 75 0 ∧ SV.s s = SV.s s ∧ SV.ptr 5 0 = SV.ptr 5 0 ∧ SV.ptr 6 0 = SV.ptr 6 0 ∧ SV.ptr 7 0 = SV.ptr 7 0 ∧ (false = false ∧ Cont.a64 BEG = Cont.a64 BEG) ∧ (false = false ∧ Cont.a64 PRI = Cont.a64 PRI) ∧ (false = false ∧ Cont.a64 CON = Cont.a64 CON) ∧ (false = false ∧ Cont.a64 WHO = Cont.a64 WHO) ∧ (false = false ∧ Cont.a64 ROM = Cont.a64 ROM) ∧ (true = true ∧ Cont.a8 x.b = Cont.a8 x.b) ∧ (true = true ∧ Cont.row [SV.w64 x.c] = Cont.row [SV.w64 x.c]) ∧ (true = true ∧ Cont.a64 x.h.l = Cont.a64 x.h.l) ∧ K (SV.tup []) (M13 fin)) := by kernel_rfl
theorem vr13 (y x : St) (s : List (BitVec 8)) (fin : St) (a : Prop) : (frK 27 (I13 s) fun fr => vround Tryz.prog E5 noL 75 0 fr (M13 x) (Kn (M13 y) 0 27 a (I13 (rst x s)) (M13 (stp x s)) [] (M13 fin))) = (bif ilt 0 (↑s.length : Int) then bif ile (↑(x.c % BitVec.ofInt 64 128).toNat : Int) (↑128 : Int) && true && ilt (↑(x.c % BitVec.ofInt 64 128).toNat : Int) (↑128 : Int) then bif decide ((x.c % BitVec.ofInt 64 128).toNat + (128 - (x.c % BitVec.ofInt 64 128).toNat) ≤ x.b.length) then bif ile (↑(min s.length (128 - (x.c % BitVec.ofInt 64 128).toNat)) : Int) (↑s.length : Int) && ile (↑s.length : Int) (↑s.length : Int) then bif (x.c + BitVec.ofInt 64 (↑(min s.length (128 - (x.c % BitVec.ofInt 64 128).toNat)) : Int)) % BitVec.ofInt 64 128 == BitVec.ofInt 64 0 then bif (List.take (x.c % BitVec.ofInt 64 128).toNat x.b ++ List.take (128 - (x.c % BitVec.ofInt 64 128).toNat) s ++ List.drop ((x.c % BitVec.ofInt 64 128).toNat + min s.length (128 - (x.c % BitVec.ofInt 64 128).toNat)) x.b).length.beq 128 then bif (List.take (x.c % BitVec.ofInt 64 128).toNat x.b ++ List.take (128 - (x.c % BitVec.ofInt 64 128).toNat) s ++ List.drop ((x.c % BitVec.ofInt 64 128).toNat + min s.length (128 - (x.c % BitVec.ofInt 64 128).toNat)) x.b).length.beq 128 then a ∧ SV.s (List.drop (min s.length (128 - (x.c % BitVec.ofInt 64 128).toNat)) (List.take s.length s)) = SV.s (rst x s) ∧ SV.ptr 5 0 = SV.ptr 5 0 ∧ SV.ptr 6 0 = SV.ptr 6 0 ∧ SV.ptr 7 0 = SV.ptr 7 0 ∧ (false = false ∧ Cont.a64 BEG = Cont.a64 BEG) ∧ (false = false ∧ Cont.a64 PRI = Cont.a64 PRI) ∧ (false = false ∧ Cont.a64 CON = Cont.a64 CON) ∧ (false = false ∧ Cont.a64 WHO = Cont.a64 WHO) ∧ (false = false ∧ Cont.a64 ROM = Cont.a64 ROM) ∧ (true = true ∧ Cont.a8 (List.take (x.c % BitVec.ofInt 64 128).toNat x.b ++ List.take (128 - (x.c % BitVec.ofInt 64 128).toNat) s ++ List.drop ((x.c % BitVec.ofInt 64 128).toNat + min s.length (128 - (x.c % BitVec.ofInt 64 128).toNat)) x.b) = Cont.a8 (stp x s).b) ∧ (true = true ∧ Cont.row ([SV.w64 x.c].set 0 (SV.w64 (x.c + BitVec.ofInt 64 (↑(min s.length (128 - (x.c % BitVec.ofInt 64 128).toNat)) : Int)))) = Cont.row [SV.w64 (stp x s).c]) ∧ (true = true ∧ Cont.a64 (nextS x.h (List.take (x.c % BitVec.ofInt 64 128).toNat x.b ++ List.take (128 - (x.c % BitVec.ofInt 64 128).toNat) s ++ List.drop ((x.c % BitVec.ofInt 64 128).toNat + min s.length (128 - (x.c % BitVec.ofInt 64 128).toNat)) x.b)).l = Cont.a64 (stp x s).h.l) ∧ True else False else False else a ∧ SV.s (List.drop (min s.length (128 - (x.c % BitVec.ofInt 64 128).toNat)) (List.take s.length s)) = SV.s (rst x s) ∧ SV.ptr 5 0 = SV.ptr 5 0 ∧ SV.ptr 6 0 = SV.ptr 6 0 ∧ SV.ptr 7 0 = SV.ptr 7 0 ∧ (false = false ∧ Cont.a64 BEG = Cont.a64 BEG) ∧ (false = false ∧ Cont.a64 PRI = Cont.a64 PRI) ∧ (false = false ∧ Cont.a64 CON = Cont.a64 CON) ∧ (false = false ∧ Cont.a64 WHO = Cont.a64 WHO) ∧ (false = false ∧ Cont.a64 ROM = Cont.a64 ROM) ∧ (true = true ∧ Cont.a8 (List.take (x.c % BitVec.ofInt 64 128).toNat x.b ++ List.take (128 - (x.c % BitVec.ofInt 64 128).toNat) s ++ List.drop ((x.c % BitVec.ofInt 64 128).toNat + min s.length (128 - (x.c % BitVec.ofInt 64 128).toNat)) x.b) = Cont.a8 (stp x s).b) ∧ (true = true ∧ Cont.row ([SV.w64 x.c].set 0 (SV.w64 (x.c + BitVec.ofInt 64 (↑(min s.length (128 - (x.c % BitVec.ofInt 64 128).toNat)) : Int)))) = Cont.row [SV.w64 (stp x s).c]) ∧ (true = true ∧ Cont.a64 x.h.l = Cont.a64 (stp x s).h.l) ∧ True else False else False else False else 0 = 0 ∧ (false = false ∧ Cont.a64 BEG = Cont.a64 BEG) ∧ (false = false ∧ Cont.a64 PRI = Cont.a64 PRI) ∧ (false = false ∧ Cont.a64 CON = Cont.a64 CON) ∧ (false = false ∧ Cont.a64 WHO = Cont.a64 WHO) ∧ (false = false ∧ Cont.a64 ROM = Cont.a64 ROM) ∧ (true = true ∧ Cont.a8 x.b = Cont.a8 fin.b) ∧ (true = true ∧ Cont.row [SV.w64 x.c] = Cont.row [SV.w64 fin.c]) ∧ (true = true ∧ Cont.a64 x.h.l = Cont.a64 fin.h.l) ∧ True) := by kernel_rfl
theorem loop13 (x : St) (s : List (BitVec 8)) (hb : x.b.length = 128) (hs : s.length ≤ 1099511627776) : LOk Tryz.prog G (M13 x) 75 (L13 x s (fd x s)) := by
 refine LT.add_ok (noL_ok _ _ _ _) (loop_next e5_ok mixed (noL_ok _ _ _ _) (by show 5 ≤ 8; decide) (by kernel_rfl) (fun i : St × List (BitVec 8) => I13 i.2) (fun i => M13 i.1) (fun i => i.1.b.length = 128 ∧ i.2.length ≤ 1099511627776 ∧ fd i.1 i.2 = fd x s) (fun i => i.2.length) (fun i => (stp i.1 i.2, rst i.1 i.2)) (x, s) ⟨hb, hs, rfl⟩ fun i hi => of_eq (vr13 x i.1 i.2 (fd x s) _) ?_)
 obtain ⟨y, t⟩ := i
 obtain ⟨h1, h2, h3⟩ := hi
 dsimp only at h1 h2 h3 ⊢
 rw [← h3]
 have ho := off_lt y
 cases hc : ilt 0 (t.length : Int)
 ·have ht : t.length = 0 := by rw [ilt_eq] at hc; have := of_decide_eq_false hc; omega
  obtain rfl := List.length_eq_zero_iff.1 ht
  exact ⟨rfl, ⟨rfl, rfl⟩, ⟨rfl, rfl⟩, ⟨rfl, rfl⟩, ⟨rfl, rfl⟩, ⟨rfl, rfl⟩, ⟨rfl, rfl⟩, ⟨rfl, rfl⟩, ⟨rfl, rfl⟩, trivial⟩
 ·have ht : 0 < t.length := by rw [ilt_eq] at hc; have := of_decide_eq_true hc; omega
  have hne : t ≠ [] := List.length_pos_iff.1 ht
  have hr := rst_lt y t hne
  have ha : ((stp y t).b.length = 128 ∧ (rst y t).length ≤ 1099511627776 ∧ fd (stp y t) (rst y t) = fd x s) ∧ (rst y t).length < t.length := ⟨⟨stp_blen y t h1, by omega, by rw [← fd_step y t hne]; exact h3⟩, hr⟩
  have e1 : (y.c % BitVec.ofInt 64 128).toNat = y.off := rfl
  rw [e1]
  have el := stp_blen y t h1
  have es : SV.s (List.drop (min t.length (128 - y.off)) (List.take t.length t)) = SV.s (rst y t) := by rw [List.take_of_length_le (Nat.le_refl _)]; rfl
  refine bif_of ?_ (bif_of ?_ (bif_of ?_ ?_))
  ·simp [ile_eq, ilt_eq]; omega
  ·simp; omega
  ·simp [ile_eq]; omega
  ·cases hd : (y.c + BitVec.ofInt 64 ((min t.length (128 - y.off) : Nat) : Int)) % BitVec.ofInt 64 128 == BitVec.ofInt 64 0
   ·refine ⟨by rw [h3]; exact ha, es, rfl, rfl, rfl, ⟨rfl, rfl⟩, ⟨rfl, rfl⟩, ⟨rfl, rfl⟩, ⟨rfl, rfl⟩, ⟨rfl, rfl⟩, ⟨rfl, rfl⟩, ⟨rfl, rfl⟩, ⟨rfl, ?_⟩, trivial⟩
    have : (stp y t).h = y.h := by
     show (bif _ then _ else _) = _
     rw [show ((y.c + BitVec.ofInt 64 ((min t.length (128 - y.off) : Nat) : Int)) % 128 == 0) = false from hd]; rfl
    rw [this]
   ·refine bif_of (by show Nat.beq (stp y t).b.length 128 = true; rw [el]; rfl) (bif_of (by show Nat.beq (stp y t).b.length 128 = true; rw [el]; rfl) ⟨by rw [h3]; exact ha, es, rfl, rfl, rfl, ⟨rfl, rfl⟩, ⟨rfl, rfl⟩, ⟨rfl, rfl⟩, ⟨rfl, rfl⟩, ⟨rfl, rfl⟩, ⟨rfl, rfl⟩, ⟨rfl, rfl⟩, ⟨rfl, ?_⟩, trivial⟩)
    have : (stp y t).h = nextS y.h (stp y t).b := by
     show (bif _ then _ else _) = _
     rw [show ((y.c + BitVec.ofInt 64 ((min t.length (128 - y.off) : Nat) : Int)) % 128 == 0) = true from hd]; rfl
    rw [this]
    rfl
def cAdd : List SV → Mm → (SV → Mm → Prop) → Prop
 | [.s s, .ptr kb ob, .ptr kc oc, .ptr kh oh], M, K => match M[kb]?, M[kc]?, M[kh]? with
  | some ⟨true, .a8 b⟩, some ⟨true, .row [.w64 c]⟩, some ⟨true, .a64 [x1, x2, x3, x4, x5, x6, x7, x8]⟩ => vsome (Nat.beq ob 0 && (Nat.beq oc 0 && (Nat.beq oh 0 && (!Nat.beq kb kc && (!Nat.beq kb kh && (!Nat.beq kc kh && (Nat.beq b.length 128 && Nat.ble s.length 1099511627776)))))) ) <|
   setK M kb ⟨true, .a8 (fd ⟨b, c, ⟨x1, x2, x3, x4, x5, x6, x7, x8⟩⟩ s).b⟩ fun M1 => setK M1 kc ⟨true, .row [.w64 (fd ⟨b, c, ⟨x1, x2, x3, x4, x5, x6, x7, x8⟩⟩ s).c]⟩ fun M2 => setK M2 kh ⟨true, .a64 (fd ⟨b, c, ⟨x1, x2, x3, x4, x5, x6, x7, x8⟩⟩ s).h.l⟩ fun M3 => K (.tup []) M3
  | _, _, _ => False
 | _, _, _ => False
theorem beq_ne {a b : Nat} (h : (!Nat.beq a b) = true) : a ≠ b := fun e => by subst e; rw [Nat.beq_refl] at h; cases h
theorem add_ok : COk Tryz.prog G 75 cAdd := by
 intro args M K h
 unfold cAdd at h
 split at h
 ·rename_i s kb ob kc oc kh oh
  split at h
  ·rename_i b c x1 x2 x3 x4 x5 x6 x7 x8 hkb hkc hkh
   obtain ⟨hb, hh⟩ := vsome_iff.1 h
   simp only [Bool.and_eq_true] at hb
   obtain ⟨q1, q2, q3, q4, q5, q6, q7, q8⟩ := hb
   obtain rfl := Nat.eq_of_beq_eq_true q1
   obtain rfl := Nat.eq_of_beq_eq_true q2
   obtain rfl := Nat.eq_of_beq_eq_true q3
   replace q4 := beq_ne q4
   replace q5 := beq_ne q5
   replace q6 := beq_ne q6
   replace q7 := Nat.eq_of_beq_eq_true q7
   replace q8 := Nat.le_of_ble_eq_true q8
   rw [setK_eq, setK_eq, setK_eq] at hh
   refine eff_of (R := [⟨true, .a8 b⟩, ⟨true, .row [.w64 c]⟩, ⟨true, .a64 [x1, x2, x3, x4, x5, x6, x7, x8]⟩]) (args0 := [.s s, .ptr 5 0, .ptr 6 0, .ptr 7 0]) (K0 := fun r M => r = .tup [] ∧ M = M13 (fd ⟨b, c, ⟨x1, x2, x3, x4, x5, x6, x7, x8⟩⟩ s)) [kb, kc, kh] (vf_ok (M := M13 ⟨b, c, ⟨x1, x2, x3, x4, x5, x6, x7, x8⟩⟩) e5_ok mixed (loop13 ⟨b, c, ⟨x1, x2, x3, x4, x5, x6, x7, x8⟩⟩ s q7 q8) (of_eq (vc13 ⟨b, c, ⟨x1, x2, x3, x4, x5, x6, x7, x8⟩⟩ s _ _) ?_)) rfl rfl ?_ ⟨⟨true, hkb, fun h => h⟩, ⟨rfl, rfl⟩, ⟨true, hkc, fun h => h⟩, ⟨rfl, rfl⟩, ⟨true, hkh, fun h => h⟩, ⟨rfl, rfl⟩, trivial⟩ ?_
   ·exact ⟨rfl, rfl, rfl, rfl, rfl, ⟨rfl, rfl⟩, ⟨rfl, rfl⟩, ⟨rfl, rfl⟩, ⟨rfl, rfl⟩, ⟨rfl, rfl⟩, ⟨rfl, rfl⟩, ⟨rfl, rfl⟩, ⟨rfl, rfl⟩, rfl, rfl⟩
   ·simp [q4, q5, q6]
   ·rintro r1 M1 ⟨rfl, rfl⟩
    rw [show back G _ M _ _ = ((M.set kb _).set kc _).set kh _ ++ [] from rfl, List.append_nil]
    exact hh
  ·exact h.elim
 ·exact h.elim
def C6 : CT := C4.add 75 cAdd
def E6 : Env := ⟨G, T5, C6⟩
theorem e6_ok : EnvOk Tryz.prog E6 := ⟨e5_ok.T, CT.add_ok e5_ok.C add_ok⟩
end Sh
end Go.Proofs.YtdfghknonbmadaaGreatDoor
