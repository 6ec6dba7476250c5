/-
  ip: the law IpWhole: the texts are cut. No statement is proved here.
-/
import Derived.Test.YtggoncamiafclaaJqB
import Derived.Test.YtggoncamiafclaaJqM
namespace Go.Proofs.Ytggoncamiafclaa
open Go.RowKit
set_option linter.unusedVariables false
set_option linter.unusedSimpArgs false
set_option maxRecDepth 100000
theorem bif_f {c : Bool} {p q : Prop} (h : c = false) (hq : q) : bif c then p else q := by rw [h]; exact hq
structure Opq (x : SV) (e : Ent) : Prop where
 w : x.wf 3 = true
 r : ∀ rs, ren (sig 3 rs) x = x
 rc : ∀ σ, e.c.ren σ = e.c
 wc : ∀ n, e.c.wf n = true
theorem Opq.wn {x : SV} {e : Ent} (h : Opq x e) {n : Nat} (hn : 3 ≤ n) : x.wf n = true := wf_mono hn x h.w
theorem opq_z (a : Option Addr) (k : Nat) : Opq (.v (.slice a 0 k)) zE := ⟨rfl, fun _ => rfl, fun _ => rfl, fun _ => rfl⟩
theorem opq_o (o : Ot) : Opq o.x o.e := ⟨rfl, fun _ => rfl, fun _ => rfl, fun _ => rfl⟩
theorem opq_c (o : Ct) : Opq o.x o.e := ⟨rfl, fun _ => rfl, fun _ => rfl, fun _ => rfl⟩
theorem rok1 {fs : List Fk} {i m : Nat} (pre : List Value) (h1 : fs.length = 1) (h : i < m) : rok pre.length i 1 fs pre m = true := by
 unfold rok
 rw [Nat.sub_self, h1, show Nat.beq 1 1 = true from rfl, show Nat.blt 0 1 = true from rfl, show Nat.ble pre.length pre.length = true from by rw [Nat.ble_eq]; exact Nat.le_refl _]
 show Nat.blt (i + 0) m = true
 rw [Nat.blt_eq]; exact h
def mkR (i : Nat) (c : Cz) : Pr := (BitVec.ofInt 32 1, BitVec.ofInt 32 2, BitVec.ofInt 8 6, BitVec.ofInt 8 5, BitVec.ofInt 16 (i : Nat), false, c.2.2, BitVec.ofInt 16 ((c.1 : Int).tdiv 8), c.2.1, ())
theorem pcR_eq (d : Dt) (i A Z : Nat) : pcR d i (A : Nat) (Z : Nat) = mkR i (czOf (dat d i) A Z) := by
 unfold pcR mkR czOf
 have e1 : ilt ((A : Int) + (Z : Nat)) (dln d i) = decide (A + Z < (dat d i).length) := by
  rw [ilt_eq]
  refine decide_eq_decide.2 ⟨fun h => ?_, fun h => ?_⟩
  ·unfold dln at h; omega
  ·unfold dln; omega
 have e2 : ((A : Int) + (Z : Nat)).toNat = A + Z := by omega
 rw [e1, e2, Int.toNat_natCast, List.drop_take, Nat.add_sub_cancel_left]
theorem cy_b (e : Ct) (c : Int) : 1 ≤ cy e c ∧ cy e c ≤ 20 := by
 unfold cy
 have h1 := Int.tmod_nonneg 20 (show (0 : Int) ≤ ((BitVec.toNat (e.l.getD (c.toNat + (e.pre.length - e.pre.length) / 1) (rz [Fk.u8])).fst : Nat) : Int) by omega)
 have h2 := Int.tmod_lt_of_pos ((BitVec.toNat (e.l.getD (c.toNat + (e.pre.length - e.pre.length) / 1) (rz [Fk.u8])).fst : Nat) : Int) (show (0 : Int) < 20 by decide)
 omega
theorem mn_cut {n A : Nat} {S : Int} (hA : A < n) (hn : n ≤ 8192) (hS : (∃ y : Int, S = 8 * y ∧ 1 ≤ y ∧ y ≤ 20) ∨ S = (n : Int) + 8) : ∃ Z : Nat, mnI S ((n : Int) - A) = Z ∧ 0 < Z ∧ A + Z ≤ n ∧ (A + Z < n → Z % 8 = 0) ∧ (S = (n : Int) + 8 → A + Z = n) := by
 unfold mnI
 cases h : ilt ((n : Int) - A) S
 ·have h' : ¬ (n : Int) - A < S := by rw [ilt_eq] at h; exact of_decide_eq_false h
  refine ⟨S.toNat, ?_, ?_, ?_, ?_, ?_⟩
  ·show S = _
   rcases hS with ⟨y, rfl, h1, h2⟩ | rfl <;> omega
  ·rcases hS with ⟨y, rfl, h1, h2⟩ | rfl <;> omega
  ·rcases hS with ⟨y, rfl, h1, h2⟩ | rfl <;> omega
  ·rcases hS with ⟨y, rfl, h1, h2⟩ | rfl <;> omega
  ·rcases hS with ⟨y, rfl, h1, h2⟩ | rfl <;> omega
 ·refine ⟨n - A, ?_, by omega, by omega, fun q => by omega, fun _ => by omega⟩
  show (n : Int) - A = _
  omega
structure HD (d : Dt) : Prop where
 n8 : d.n ≤ 8
 nl : d.n ≤ d.l.length
 few : ∀ i, i < d.n → (dat d i).length ≤ 8192
structure P4 (d : Dt) (i nC : Nat) (L0 : List Pr) (c0 : Int) (st : S4) : Prop where
 ok : okPl st.p
 cut : ∃ A C, st.a = (A : Nat) ∧ Cut (dat d i) A C ∧ acP st.p = L0 ++ C.map (mkR i) ∧ st.c = c0 + (C.length : Nat) ∧ (A < (dat d i).length → st.c ≤ (nC : Nat) + (i : Nat)) ∧ st.c ≤ (nC : Nat) + (i : Nat) + 1
 len : ((acP st.p).length : Int) = st.c
def X4 (d : Dt) (nC i : Nat) (L : List Pr) (c : Int) : Prop := i < d.n ∧ (L.length : Int) = c ∧ c ≤ (nC : Nat) + (i : Nat)
def Q4 (d : Dt) (nC i : Nat) (L : List Pr) (c : Int) (L' : List Pr) (c' : Int) : Prop := ∃ C, Cut (dat d i) (dat d i).length C ∧ L' = L ++ C.map (mkR i) ∧ (L'.length : Int) = c' ∧ c' ≤ (nC : Nat) + (i : Nat) + 1
def mu4 (d : Dt) (i : Nat) (st : S4) : Nat := ((dat d i).length - st.a).toNat
theorem p4_next {d : Dt} {i nC : Nat} {L0 : List Pr} {c0 : Int} {st : S4} {A Z : Nat} {C : List Cz} {p' : Option Pl} (hA : st.a = (A : Nat)) (hC : Cut (dat d i) A C) (hac : acP st.p = L0 ++ C.map (mkR i)) (hc : st.c = c0 + (C.length : Nat)) (hlen : ((acP st.p).length : Int) = st.c)
  (h1 : A < (dat d i).length) (hz : 0 < Z) (hle : A + Z ≤ (dat d i).length) (h8 : A + Z < (dat d i).length → Z % 8 = 0) (hb : st.c ≤ (nC : Nat) + (i : Nat)) (hb' : A + Z < (dat d i).length → st.c + 1 ≤ (nC : Nat) + (i : Nat)) (hok : okPl p') (hp : acP p' = acP st.p ++ [mkR i (czOf (dat d i) A Z)]) {a' c' : Int} (ha' : a' = st.a + (Z : Nat)) (hc' : c' = st.c + 1) : P4 d i nC L0 c0 ⟨p', c', a'⟩ ∧ mu4 d i ⟨p', c', a'⟩ < mu4 d i st := by
 subst ha' hc'
 refine ⟨⟨hok, ⟨A + Z, C ++ [czOf (dat d i) A Z], ?_, .snoc Z hC h1 hz hle h8, ?_, ?_, fun q => hb' q, ?_⟩, ?_⟩, ?_⟩
 ·show st.a + (Z : Nat) = _
  rw [hA]; omega
 ·show acP p' = _
  rw [hp, hac, List.map_append, List.append_assoc]; rfl
 ·show st.c + 1 = _
  rw [hc, List.length_append]
  show _ = c0 + ((C.length + 1 : Nat) : Int)
  omega
 ·show st.c + 1 ≤ _
  omega
 ·show ((acP p').length : Int) = st.c + 1
  rw [hp, List.length_append]
  show (((acP st.p).length + 1 : Nat) : Int) = _
  omega
 ·unfold mu4
  show (((dat d i).length : Int) - (st.a + (Z : Nat))).toNat < (((dat d i).length : Int) - st.a).toNat
  rw [hA]
  omega
theorem snoc_pl (l : List Pr) (len : Nat) (r : Pr) (rest : List Pr) (cap' : Nat) (hl : len ≤ l.length) (h : len + (one r).length + rest.length = cap') : okPl (some (len + (one r).length, cap', List.take len l ++ one r ++ rest)) ∧ acP (some (len + (one r).length, cap', List.take len l ++ one r ++ rest)) = l.take len ++ [r] := by
 have e1 : one r = [r] := rfl
 rw [e1] at h ⊢
 have e2 : [r].length = 1 := rfl
 refine ⟨⟨by omega, ?_⟩, ?_⟩
 ·rw [List.length_append, List.length_append, List.length_take, Nat.min_eq_left hl]; exact h
 ·show List.take (len + 1) (List.take len l ++ [r] ++ rest) = _
  rw [List.take_append_of_le_length (by rw [List.length_append, List.length_take, Nat.min_eq_left hl]; exact Nat.le_refl _), List.take_of_length_le (by rw [List.length_append, List.length_take, Nat.min_eq_left hl]; exact Nat.le_refl _)]
theorem first_pl (r : Pr) (rest : List Pr) (cap' : Nat) (h : (one r).length + rest.length = cap') : okPl (some ((one r).length, cap', one r ++ rest)) ∧ acP (some ((one r).length, cap', one r ++ rest)) = [r] := by
 have e1 : one r = [r] := rfl
 rw [e1] at h ⊢
 exact ⟨⟨by have e2 : [r].length = 1 := rfl
            omega, by rw [List.length_append]; exact h⟩, rfl⟩
theorem round4zn (d : Dt) (aC : Option Addr) (kC : Nat) (xo : SV) (eO : Ent) (i : Nat) (c a : Int) (L0 : List Pr) (c0 : Int) (H : HD d) (hi : i < d.n) (O : Opq xo eO) (hp : P4 d i 0 L0 c0 ⟨none, c, a⟩) :
  frK 274 (i4 d.x (.v (.slice aC 0 kC)) xo i ⟨none, c, a⟩) fun fr => vround Try.prog E6w noL 6 4 fr (mP d.e zE eO none) (Kp (mB d.e zE eO) 4 274 sel4 (fun st => P4 d i 0 L0 c0 st ∧ mu4 d i st < mu4 d i ⟨none, c, a⟩) (i4 d.x (.v (.slice aC 0 kC)) xo i) (fun st => mP d.e zE eO st.p) ((dat d i).length ≤ a.toNat) (o4 d.x (.v (.slice aC 0 kC)) xo i none c) (mP d.e zE eO none)) := by
 refine of_eq (r4zn d aC kC xo eO i c a _ _) ?_
 obtain ⟨hok, ⟨A, C, hA, hC, hac, hc, hb1, hb2⟩, hlen⟩ := hp
 have hA : a = (A : Nat) := hA
 have hc : c = c0 + (C.length : Nat) := hc
 have hb1 : A < (dat d i).length → c ≤ (0 : Nat) + (i : Nat) := hb1
 have hlen : ((acP none).length : Int) = c := hlen
 have h8 := H.n8
 have hD := H.few i hi
 have t1 : inR (i : Int) d.n = true := inR_iff.2 ⟨by omega, by omega⟩
 have t2 : rok d.pre.length i 1 [Fk.s] d.pre d.l.length = true := rok1 _ rfl (by have := H.nl; omega)
 have c0' : 0 ≤ c := by omega
 refine bif_of t1 (bif_of t2 ?_)
 cases q1 : ilt a (dln d i)
 ·have q1' : ¬ a < dln d i := by rw [ilt_eq] at q1; exact of_decide_eq_false q1
  unfold dln at q1'
  exact ⟨rfl, by omega, rfl, rfl, eqA_of rfl (O.wn (Nat.le_refl 3)) ⟨rfl, rfl, rfl, ⟨rfl, rfl⟩, ⟨rfl, rfl⟩, ⟨rfl, rfl⟩, bif_of (O.wc _) trivial⟩⟩
 ·have q1' : a < dln d i := by rw [ilt_eq] at q1; exact of_decide_eq_true q1
  have hAl : A < (dat d i).length := by unfold dln at q1'; omega
  have hb1 := hb1 hAl
  refine bif_t rfl ?_
  refine bif_f (ilt_no (by omega)) ?_
  obtain ⟨Z, z1, z2, z3, z4, z5⟩ := mn_cut (S := ((dln d i) + 8)) hAl hD (.inr rfl)
  have z1' : mnI ((dln d i) + 8) (dln d i - a) = (Z : Nat) := by rw [hA]; exact z1
  have eR : pcR d i a (mnI ((dln d i) + 8) (dln d i - a)) = mkR i (czOf (dat d i) A Z) := by rw [z1', hA]; exact pcR_eq d i A Z
  refine bif_of t1 (bif_of t2 (bif_of (inI_iff.2 (by unfold dln; omega)) (bif_of (inI_iff.2 (by omega)) (bif_of t1 (bif_of t2 (bif_of (inI_iff.2 (by unfold dln; omega)) (bif_of (inI_iff.2 (by omega)) (bif_of (inI_iff.2 (by rw [z1']; omega)) (bif_of t1 (bif_of t2 (bif_of t1 (bif_of t2 (bif_of (inI_iff.2 (by rw [z1']; omega)) (bif_of (and_t (and_t (ile_of (by omega)) (ile_of (by rw [z1']; omega))) (ile_of (by rw [z1']; unfold dln; omega))) (fun cap' rest hr => bif_of (inI_iff.2 (by rw [z1']; omega)) ?_)))))))))))))))
  obtain ⟨k1, k2⟩ := first_pl _ rest cap' hr
  rw [eR] at k1 k2 ⊢
  have HA := p4_next (nC := 0) (st := ⟨none, c, a⟩) hA hC hac hc hlen hAl z2 z3 z4 hb1 (fun q => absurd (z5 rfl) (by omega)) k1 k2 (a' := a + mnI ((dln d i) + 8) (dln d i - a)) (c' := c + 1) (by rw [z1']) rfl
  exact ⟨HA, rfl, rfl, eqA_of (O.r _).symm (O.wn (Nat.le_succ 3)) ⟨rfl, rfl, rfl, rfl, ⟨rfl, rfl⟩, ⟨rfl, rfl⟩, ⟨rfl, (O.rc _).symm⟩, bif_of (and_t (O.wc _) (by rw [O.wc]; exact Bool.or_true _)) ⟨⟨rfl, rfl⟩, trivial⟩⟩⟩
theorem round4zs (d : Dt) (aC : Option Addr) (kC : Nat) (xo : SV) (eO : Ent) (i : Nat) (len cap : Nat) (l : List Pr) (c a : Int) (L0 : List Pr) (c0 : Int) (H : HD d) (hi : i < d.n) (O : Opq xo eO) (hp : P4 d i 0 L0 c0 ⟨(some (len, cap, l)), c, a⟩) :
  frK 274 (i4 d.x (.v (.slice aC 0 kC)) xo i ⟨(some (len, cap, l)), c, a⟩) fun fr => vround Try.prog E6w noL 6 4 fr (mP d.e zE eO (some (len, cap, l))) (Kp (mB d.e zE eO) 4 274 sel4 (fun st => P4 d i 0 L0 c0 st ∧ mu4 d i st < mu4 d i ⟨(some (len, cap, l)), c, a⟩) (i4 d.x (.v (.slice aC 0 kC)) xo i) (fun st => mP d.e zE eO st.p) ((dat d i).length ≤ a.toNat) (o4 d.x (.v (.slice aC 0 kC)) xo i (some (len, cap, l)) c) (mP d.e zE eO (some (len, cap, l)))) := by
 refine of_eq (r4zs d aC kC xo eO i len cap l c a _ _) ?_
 obtain ⟨hok, ⟨A, C, hA, hC, hac, hc, hb1, hb2⟩, hlen⟩ := hp
 have hA : a = (A : Nat) := hA
 have hc : c = c0 + (C.length : Nat) := hc
 have hb1 : A < (dat d i).length → c ≤ (0 : Nat) + (i : Nat) := hb1
 have hlen : ((acP (some (len, cap, l))).length : Int) = c := hlen
 have h8 := H.n8
 have hD := H.few i hi
 have t1 : inR (i : Int) d.n = true := inR_iff.2 ⟨by omega, by omega⟩
 have t2 : rok d.pre.length i 1 [Fk.s] d.pre d.l.length = true := rok1 _ rfl (by have := H.nl; omega)
 have c0' : 0 ≤ c := by omega
 refine bif_of t1 (bif_of t2 ?_)
 cases q1 : ilt a (dln d i)
 ·have q1' : ¬ a < dln d i := by rw [ilt_eq] at q1; exact of_decide_eq_false q1
  unfold dln at q1'
  exact ⟨rfl, by omega, rfl, rfl, eqA_of rfl (O.wn (Nat.le_succ 3)) ⟨rfl, rfl, rfl, ⟨rfl, rfl⟩, ⟨rfl, rfl⟩, ⟨rfl, rfl⟩, bif_of (O.wc _) ⟨⟨rfl, rfl⟩, trivial⟩⟩⟩
 ·have q1' : a < dln d i := by rw [ilt_eq] at q1; exact of_decide_eq_true q1
  have hAl : A < (dat d i).length := by unfold dln at q1'; omega
  have hb1 := hb1 hAl
  refine bif_t rfl ?_
  have hsm : ∀ r : Pr, len + (one r).length ≤ 33554432 := fun r => by
   have e1 : (one r).length = 1 := rfl
   have e2 : (acP (some (len, cap, l))).length = len := by
    show (l.take len).length = len
    rw [List.length_take]; have := hok.1; have := hok.2; omega
   rw [e2] at hlen
   omega
  refine bif_f (ilt_no (by omega)) ?_
  obtain ⟨Z, z1, z2, z3, z4, z5⟩ := mn_cut (S := ((dln d i) + 8)) hAl hD (.inr rfl)
  have z1' : mnI ((dln d i) + 8) (dln d i - a) = (Z : Nat) := by rw [hA]; exact z1
  have eR : pcR d i a (mnI ((dln d i) + 8) (dln d i - a)) = mkR i (czOf (dat d i) A Z) := by rw [z1', hA]; exact pcR_eq d i A Z
  refine bif_of t1 (bif_of t2 (bif_of (inI_iff.2 (by unfold dln; omega)) (bif_of (inI_iff.2 (by omega)) (bif_of t1 (bif_of t2 (bif_of (inI_iff.2 (by unfold dln; omega)) (bif_of (inI_iff.2 (by omega)) (bif_of (inI_iff.2 (by rw [z1']; omega)) (bif_of t1 (bif_of t2 (bif_of t1 (bif_of t2 (bif_of (inI_iff.2 (by rw [z1']; omega)) (bif_of (and_t (and_t (ile_of (by omega)) (ile_of (by rw [z1']; omega))) (ile_of (by rw [z1']; unfold dln; omega))) (bif_of (and_t (ble_of hok.1) (and_t (by rw [hok.2]; exact Nat.beq_refl _) (and_t (ble_of (hsm _)) rfl))) (fun cap' rest hr => bif_of (inI_iff.2 (by rw [z1']; omega)) ?_))))))))))))))))
  obtain ⟨k1, k2⟩ := snoc_pl l len _ rest cap' (by have := hok.2; have := hok.1; omega) hr
  rw [eR] at k1 k2 ⊢
  have HA := p4_next (nC := 0) (st := ⟨(some (len, cap, l)), c, a⟩) hA hC hac hc hlen hAl z2 z3 z4 hb1 (fun q => absurd (z5 rfl) (by omega)) k1 k2 (a' := a + mnI ((dln d i) + 8) (dln d i - a)) (c' := c + 1) (by rw [z1']) rfl
  exact ⟨HA, rfl, rfl, eqA_of (O.r _).symm (O.wn (Nat.le_succ 3)) ⟨rfl, rfl, rfl, rfl, ⟨rfl, rfl⟩, ⟨rfl, rfl⟩, ⟨rfl, (O.rc _).symm⟩, bif_of (and_t (O.wc _) (by rw [O.wc]; exact Bool.or_true _)) ⟨⟨rfl, rfl⟩, trivial⟩⟩⟩
theorem round4rn (d : Dt) (e : Ct) (xo : SV) (eO : Ent) (i : Nat) (c a : Int) (L0 : List Pr) (c0 : Int) (H : HD d) (hi : i < d.n) (hE : e.n ≤ e.l.length) (hE6 : e.n ≤ 60) (O : Opq xo eO) (hp : P4 d i e.n L0 c0 ⟨none, c, a⟩) :
  frK 274 (i4 d.x e.x xo i ⟨none, c, a⟩) fun fr => vround Try.prog E6w noL 6 4 fr (mP d.e e.e eO none) (Kp (mB d.e e.e eO) 4 274 sel4 (fun st => P4 d i e.n L0 c0 st ∧ mu4 d i st < mu4 d i ⟨none, c, a⟩) (i4 d.x e.x xo i) (fun st => mP d.e e.e eO st.p) ((dat d i).length ≤ a.toNat) (o4 d.x e.x xo i none c) (mP d.e e.e eO none)) := by
 refine of_eq (r4rn d e xo eO i c a _ _) ?_
 obtain ⟨hok, ⟨A, C, hA, hC, hac, hc, hb1, hb2⟩, hlen⟩ := hp
 have hA : a = (A : Nat) := hA
 have hc : c = c0 + (C.length : Nat) := hc
 have hb1 : A < (dat d i).length → c ≤ (e.n : Nat) + (i : Nat) := hb1
 have hlen : ((acP none).length : Int) = c := hlen
 have h8 := H.n8
 have hD := H.few i hi
 have t1 : inR (i : Int) d.n = true := inR_iff.2 ⟨by omega, by omega⟩
 have t2 : rok d.pre.length i 1 [Fk.s] d.pre d.l.length = true := rok1 _ rfl (by have := H.nl; omega)
 have c0' : 0 ≤ c := by omega
 refine bif_of t1 (bif_of t2 ?_)
 cases q1 : ilt a (dln d i)
 ·have q1' : ¬ a < dln d i := by rw [ilt_eq] at q1; exact of_decide_eq_false q1
  unfold dln at q1'
  exact ⟨rfl, by omega, rfl, rfl, eqA_of rfl (O.wn (Nat.le_refl 3)) ⟨rfl, rfl, rfl, ⟨rfl, rfl⟩, ⟨rfl, rfl⟩, ⟨rfl, rfl⟩, bif_of (O.wc _) trivial⟩⟩
 ·have q1' : a < dln d i := by rw [ilt_eq] at q1; exact of_decide_eq_true q1
  have hAl : A < (dat d i).length := by unfold dln at q1'; omega
  have hb1 := hb1 hAl
  refine bif_t rfl ?_
  cases q2 : ilt c (e.n : Int)
  ·have q2' : ¬ c < (e.n : Int) := by rw [ilt_eq] at q2; exact of_decide_eq_false q2
   refine bif_f rfl ?_
   obtain ⟨Z, z1, z2, z3, z4, z5⟩ := mn_cut (S := ((dln d i) + 8)) hAl hD (.inr rfl)
   have z1' : mnI ((dln d i) + 8) (dln d i - a) = (Z : Nat) := by rw [hA]; exact z1
   have eR : pcR d i a (mnI ((dln d i) + 8) (dln d i - a)) = mkR i (czOf (dat d i) A Z) := by rw [z1', hA]; exact pcR_eq d i A Z
   refine bif_of t1 (bif_of t2 (bif_of (inI_iff.2 (by unfold dln; omega)) (bif_of (inI_iff.2 (by omega)) (bif_of t1 (bif_of t2 (bif_of (inI_iff.2 (by unfold dln; omega)) (bif_of (inI_iff.2 (by omega)) (bif_of (inI_iff.2 (by rw [z1']; omega)) (bif_of t1 (bif_of t2 (bif_of t1 (bif_of t2 (bif_of (inI_iff.2 (by rw [z1']; omega)) (bif_of (and_t (and_t (ile_of (by omega)) (ile_of (by rw [z1']; omega))) (ile_of (by rw [z1']; unfold dln; omega))) (fun cap' rest hr => bif_of (inI_iff.2 (by rw [z1']; omega)) ?_)))))))))))))))
   obtain ⟨k1, k2⟩ := first_pl _ rest cap' hr
   rw [eR] at k1 k2 ⊢
   have HA := p4_next (nC := e.n) (st := ⟨none, c, a⟩) hA hC hac hc hlen hAl z2 z3 z4 hb1 (fun q => absurd (z5 rfl) (by omega)) k1 k2 (a' := a + mnI ((dln d i) + 8) (dln d i - a)) (c' := c + 1) (by rw [z1']) rfl
   exact ⟨HA, rfl, rfl, eqA_of (O.r _).symm (O.wn (Nat.le_succ 3)) ⟨rfl, rfl, rfl, rfl, ⟨rfl, rfl⟩, ⟨rfl, rfl⟩, ⟨rfl, (O.rc _).symm⟩, bif_of (and_t (O.wc _) (by rw [O.wc]; exact Bool.or_true _)) ⟨⟨rfl, rfl⟩, trivial⟩⟩⟩
  ·have q2' : c < (e.n : Int) := by rw [ilt_eq] at q2; exact of_decide_eq_true q2
   have hy := cy_b e c
   refine bif_t rfl ?_
   obtain ⟨Z, z1, z2, z3, z4, z5⟩ := mn_cut (S := (cz e c)) hAl hD (.inl ⟨cy e c, rfl, (cy_b e c).1, (cy_b e c).2⟩)
   have z1' : mnI (cz e c) (dln d i - a) = (Z : Nat) := by rw [hA]; exact z1
   have eR : pcR d i a (mnI (cz e c) (dln d i - a)) = mkR i (czOf (dat d i) A Z) := by rw [z1', hA]; exact pcR_eq d i A Z
   refine bif_of (inR_iff.2 ⟨by omega, by omega⟩) (bif_of (rok1 _ rfl (by omega)) (bif_of (inI_iff.2 (by omega)) (bif_of (inI_iff.2 (by unfold cz; omega)) (bif_of (inI_iff.2 (by omega)) (bif_of t1 (bif_of t2 (bif_of (inI_iff.2 (by unfold dln; omega)) (bif_of (inI_iff.2 (by omega)) (bif_of (inI_iff.2 (by rw [z1']; omega)) (bif_of t1 (bif_of t2 (bif_of t1 (bif_of t2 (bif_of (inI_iff.2 (by rw [z1']; omega)) (bif_of (and_t (and_t (ile_of (by omega)) (ile_of (by rw [z1']; omega))) (ile_of (by rw [z1']; unfold dln; omega))) (fun cap' rest hr => bif_of (inI_iff.2 (by rw [z1']; omega)) ?_))))))))))))))))
   obtain ⟨k1, k2⟩ := first_pl _ rest cap' hr
   rw [eR] at k1 k2 ⊢
   have HA := p4_next (nC := e.n) (st := ⟨none, c, a⟩) hA hC hac hc hlen hAl z2 z3 z4 hb1 (fun q => by omega) k1 k2 (a' := a + mnI (cz e c) (dln d i - a)) (c' := c + 1) (by rw [z1']) rfl
   exact ⟨HA, rfl, rfl, eqA_of (O.r _).symm (O.wn (Nat.le_succ 3)) ⟨rfl, rfl, rfl, rfl, ⟨rfl, rfl⟩, ⟨rfl, rfl⟩, ⟨rfl, (O.rc _).symm⟩, bif_of (and_t (O.wc _) (by rw [O.wc]; exact Bool.or_true _)) ⟨⟨rfl, rfl⟩, trivial⟩⟩⟩
theorem round4rs (d : Dt) (e : Ct) (xo : SV) (eO : Ent) (i : Nat) (len cap : Nat) (l : List Pr) (c a : Int) (L0 : List Pr) (c0 : Int) (H : HD d) (hi : i < d.n) (hE : e.n ≤ e.l.length) (hE6 : e.n ≤ 60) (O : Opq xo eO) (hp : P4 d i e.n L0 c0 ⟨(some (len, cap, l)), c, a⟩) :
  frK 274 (i4 d.x e.x xo i ⟨(some (len, cap, l)), c, a⟩) fun fr => vround Try.prog E6w noL 6 4 fr (mP d.e e.e eO (some (len, cap, l))) (Kp (mB d.e e.e eO) 4 274 sel4 (fun st => P4 d i e.n L0 c0 st ∧ mu4 d i st < mu4 d i ⟨(some (len, cap, l)), c, a⟩) (i4 d.x e.x xo i) (fun st => mP d.e e.e eO st.p) ((dat d i).length ≤ a.toNat) (o4 d.x e.x xo i (some (len, cap, l)) c) (mP d.e e.e eO (some (len, cap, l)))) := by
 refine of_eq (r4rs d e xo eO i len cap l c a _ _) ?_
 obtain ⟨hok, ⟨A, C, hA, hC, hac, hc, hb1, hb2⟩, hlen⟩ := hp
 have hA : a = (A : Nat) := hA
 have hc : c = c0 + (C.length : Nat) := hc
 have hb1 : A < (dat d i).length → c ≤ (e.n : Nat) + (i : Nat) := hb1
 have hlen : ((acP (some (len, cap, l))).length : Int) = c := hlen
 have h8 := H.n8
 have hD := H.few i hi
 have t1 : inR (i : Int) d.n = true := inR_iff.2 ⟨by omega, by omega⟩
 have t2 : rok d.pre.length i 1 [Fk.s] d.pre d.l.length = true := rok1 _ rfl (by have := H.nl; omega)
 have c0' : 0 ≤ c := by omega
 refine bif_of t1 (bif_of t2 ?_)
 cases q1 : ilt a (dln d i)
 ·have q1' : ¬ a < dln d i := by rw [ilt_eq] at q1; exact of_decide_eq_false q1
  unfold dln at q1'
  exact ⟨rfl, by omega, rfl, rfl, eqA_of rfl (O.wn (Nat.le_succ 3)) ⟨rfl, rfl, rfl, ⟨rfl, rfl⟩, ⟨rfl, rfl⟩, ⟨rfl, rfl⟩, bif_of (O.wc _) ⟨⟨rfl, rfl⟩, trivial⟩⟩⟩
 ·have q1' : a < dln d i := by rw [ilt_eq] at q1; exact of_decide_eq_true q1
  have hAl : A < (dat d i).length := by unfold dln at q1'; omega
  have hb1 := hb1 hAl
  refine bif_t rfl ?_
  have hsm : ∀ r : Pr, len + (one r).length ≤ 33554432 := fun r => by
   have e1 : (one r).length = 1 := rfl
   have e2 : (acP (some (len, cap, l))).length = len := by
    show (l.take len).length = len
    rw [List.length_take]; have := hok.1; have := hok.2; omega
   rw [e2] at hlen
   omega
  cases q2 : ilt c (e.n : Int)
  ·have q2' : ¬ c < (e.n : Int) := by rw [ilt_eq] at q2; exact of_decide_eq_false q2
   refine bif_f rfl ?_
   obtain ⟨Z, z1, z2, z3, z4, z5⟩ := mn_cut (S := ((dln d i) + 8)) hAl hD (.inr rfl)
   have z1' : mnI ((dln d i) + 8) (dln d i - a) = (Z : Nat) := by rw [hA]; exact z1
   have eR : pcR d i a (mnI ((dln d i) + 8) (dln d i - a)) = mkR i (czOf (dat d i) A Z) := by rw [z1', hA]; exact pcR_eq d i A Z
   refine bif_of t1 (bif_of t2 (bif_of (inI_iff.2 (by unfold dln; omega)) (bif_of (inI_iff.2 (by omega)) (bif_of t1 (bif_of t2 (bif_of (inI_iff.2 (by unfold dln; omega)) (bif_of (inI_iff.2 (by omega)) (bif_of (inI_iff.2 (by rw [z1']; omega)) (bif_of t1 (bif_of t2 (bif_of t1 (bif_of t2 (bif_of (inI_iff.2 (by rw [z1']; omega)) (bif_of (and_t (and_t (ile_of (by omega)) (ile_of (by rw [z1']; omega))) (ile_of (by rw [z1']; unfold dln; omega))) (bif_of (and_t (ble_of hok.1) (and_t (by rw [hok.2]; exact Nat.beq_refl _) (and_t (ble_of (hsm _)) rfl))) (fun cap' rest hr => bif_of (inI_iff.2 (by rw [z1']; omega)) ?_))))))))))))))))
   obtain ⟨k1, k2⟩ := snoc_pl l len _ rest cap' (by have := hok.2; have := hok.1; omega) hr
   rw [eR] at k1 k2 ⊢
   have HA := p4_next (nC := e.n) (st := ⟨(some (len, cap, l)), c, a⟩) hA hC hac hc hlen hAl z2 z3 z4 hb1 (fun q => absurd (z5 rfl) (by omega)) k1 k2 (a' := a + mnI ((dln d i) + 8) (dln d i - a)) (c' := c + 1) (by rw [z1']) rfl
   exact ⟨HA, rfl, rfl, eqA_of (O.r _).symm (O.wn (Nat.le_succ 3)) ⟨rfl, rfl, rfl, rfl, ⟨rfl, rfl⟩, ⟨rfl, rfl⟩, ⟨rfl, (O.rc _).symm⟩, bif_of (and_t (O.wc _) (by rw [O.wc]; exact Bool.or_true _)) ⟨⟨rfl, rfl⟩, trivial⟩⟩⟩
  ·have q2' : c < (e.n : Int) := by rw [ilt_eq] at q2; exact of_decide_eq_true q2
   have hy := cy_b e c
   refine bif_t rfl ?_
   obtain ⟨Z, z1, z2, z3, z4, z5⟩ := mn_cut (S := (cz e c)) hAl hD (.inl ⟨cy e c, rfl, (cy_b e c).1, (cy_b e c).2⟩)
   have z1' : mnI (cz e c) (dln d i - a) = (Z : Nat) := by rw [hA]; exact z1
   have eR : pcR d i a (mnI (cz e c) (dln d i - a)) = mkR i (czOf (dat d i) A Z) := by rw [z1', hA]; exact pcR_eq d i A Z
   refine bif_of (inR_iff.2 ⟨by omega, by omega⟩) (bif_of (rok1 _ rfl (by omega)) (bif_of (inI_iff.2 (by omega)) (bif_of (inI_iff.2 (by unfold cz; omega)) (bif_of (inI_iff.2 (by omega)) (bif_of t1 (bif_of t2 (bif_of (inI_iff.2 (by unfold dln; omega)) (bif_of (inI_iff.2 (by omega)) (bif_of (inI_iff.2 (by rw [z1']; omega)) (bif_of t1 (bif_of t2 (bif_of t1 (bif_of t2 (bif_of (inI_iff.2 (by rw [z1']; omega)) (bif_of (and_t (and_t (ile_of (by omega)) (ile_of (by rw [z1']; omega))) (ile_of (by rw [z1']; unfold dln; omega))) (bif_of (and_t (ble_of hok.1) (and_t (by rw [hok.2]; exact Nat.beq_refl _) (and_t (ble_of (hsm _)) rfl))) (fun cap' rest hr => bif_of (inI_iff.2 (by rw [z1']; omega)) ?_)))))))))))))))))
   obtain ⟨k1, k2⟩ := snoc_pl l len _ rest cap' (by have := hok.2; have := hok.1; omega) hr
   rw [eR] at k1 k2 ⊢
   have HA := p4_next (nC := e.n) (st := ⟨(some (len, cap, l)), c, a⟩) hA hC hac hc hlen hAl z2 z3 z4 hb1 (fun q => by omega) k1 k2 (a' := a + mnI (cz e c) (dln d i - a)) (c' := c + 1) (by rw [z1']) rfl
   exact ⟨HA, rfl, rfl, eqA_of (O.r _).symm (O.wn (Nat.le_succ 3)) ⟨rfl, rfl, rfl, rfl, ⟨rfl, rfl⟩, ⟨rfl, rfl⟩, ⟨rfl, (O.rc _).symm⟩, bif_of (and_t (O.wc _) (by rw [O.wc]; exact Bool.or_true _)) ⟨⟨rfl, rfl⟩, trivial⟩⟩⟩
theorem LeR.self {B : Mm} {fr : List SV} {M : Mm} {fr' : List SV} {M' : Mm} {σ : Nat → Nat} (h : LeR B fr M fr' M' σ) : Le B fr' M' fr' M' :=
 ⟨rfl, fun t x hx => (h.at' t x hx).elim .inl (fun q => .inr ⟨hx, q.2⟩), ⟨[], (List.append_nil _).symm⟩, fun k e he => (h.mem k e he).2, h.base⟩
theorem loop4z (d : Dt) (aC : Option Addr) (kC : Nat) (xo : SV) (eO : Ent) (i : Nat) (H : HD d) (O : Opq xo eO) : LOk Try.prog G (mB d.e zE eO) 6 (L4 d.e zE eO d.x (.v (.slice aC 0 kC)) xo i (X4 d 0 i) (Q4 d 0 i)) := by
 refine LT.add_ok (noL_ok _ _ _ _) fun fr M K hh => ?_
 unfold v4L at hh
 split at hh
 ·rename_i p rs c _ _
  obtain ⟨-, hh⟩ := hh
  obtain ⟨hle, ⟨hok, hi, hX1, hX2⟩, hN, hS⟩ := vLeR_ok hh
  refine Wp.leR (Nat.zero_le _) hle (loop_pick e6w_ok mixed (Nat.zero_le _) (by kernel_rfl) (i4 d.x (.v (.slice aC 0 kC)) xo i) (fun st => mP d.e zE eO st.p) (P4 d i 0 (acP p) c) (mu4 d i) (fun _ => sel4) (fun st => (dat d i).length ≤ st.a.toNat) (fun st => o4 d.x (.v (.slice aC 0 kC)) xo i st.p st.c) (fun st => mP d.e zE eO st.p) ⟨p, c, 0⟩ ⟨hok, ⟨0, [], rfl, .nil, (List.append_nil _).symm, by show c = c + ((0 : Nat) : Int); omega, fun _ => hX2, by show c ≤ _; omega⟩, hX1⟩ (fun _ => noL) (fun _ _ => noL_ok _ _ _ _) (fun st hp => ?_) hle.self (fun st hp hq => ?_))
  ·obtain ⟨p', c', a'⟩ := st
   match p', hp with
   | none, hp => exact round4zn d aC kC xo eO i c' a' _ _ H hi O hp
   | some (len, cap, l), hp => exact round4zs d aC kC xo eO i len cap l c' a' _ _ H hi O hp
  ·obtain ⟨p', c', a'⟩ := st
   obtain ⟨hok', ⟨A, C, hA, hC, hac, hc, hb1, hb2⟩, hlen⟩ := hp
   have hq : (dat d i).length ≤ a'.toNat := hq
   have hA : a' = (A : Nat) := hA
   have hAn : A = (dat d i).length := by have := (czs_ok hC).2.1; omega
   subst hAn
   match p', hok', hac, hlen with
   | none, hok', hac, hlen =>
    have := hN c' ⟨C, hC, hac, hlen, hb2⟩
    rw [frK_eq] at this
    exact this
   | some (len, cap, l), hok', hac, hlen =>
    have := hS c' len cap l hok' ⟨C, hC, hac, hlen, hb2⟩
    rw [frK_eq] at this
    exact this
 ·exact hh.elim
theorem loop4r (d : Dt) (e : Ct) (xo : SV) (eO : Ent) (i : Nat) (H : HD d) (hE : e.n ≤ e.l.length) (hE6 : e.n ≤ 60) (O : Opq xo eO) : LOk Try.prog G (mB d.e e.e eO) 6 (L4 d.e e.e eO d.x e.x xo i (X4 d e.n i) (Q4 d e.n i)) := by
 refine LT.add_ok (noL_ok _ _ _ _) fun fr M K hh => ?_
 unfold v4L at hh
 split at hh
 ·rename_i p rs c _ _
  obtain ⟨-, hh⟩ := hh
  obtain ⟨hle, ⟨hok, hi, hX1, hX2⟩, hN, hS⟩ := vLeR_ok hh
  refine Wp.leR (Nat.zero_le _) hle (loop_pick e6w_ok mixed (Nat.zero_le _) (by kernel_rfl) (i4 d.x e.x xo i) (fun st => mP d.e e.e eO st.p) (P4 d i e.n (acP p) c) (mu4 d i) (fun _ => sel4) (fun st => (dat d i).length ≤ st.a.toNat) (fun st => o4 d.x e.x xo i st.p st.c) (fun st => mP d.e e.e eO st.p) ⟨p, c, 0⟩ ⟨hok, ⟨0, [], rfl, .nil, (List.append_nil _).symm, by show c = c + ((0 : Nat) : Int); omega, fun _ => hX2, by show c ≤ _; omega⟩, hX1⟩ (fun _ => noL) (fun _ _ => noL_ok _ _ _ _) (fun st hp => ?_) hle.self (fun st hp hq => ?_))
  ·obtain ⟨p', c', a'⟩ := st
   match p', hp with
   | none, hp => exact round4rn d e xo eO i c' a' _ _ H hi hE hE6 O hp
   | some (len, cap, l), hp => exact round4rs d e xo eO i len cap l c' a' _ _ H hi hE hE6 O hp
  ·obtain ⟨p', c', a'⟩ := st
   obtain ⟨hok', ⟨A, C, hA, hC, hac, hc, hb1, hb2⟩, hlen⟩ := hp
   have hq : (dat d i).length ≤ a'.toNat := hq
   have hA : a' = (A : Nat) := hA
   have hAn : A = (dat d i).length := by have := (czs_ok hC).2.1; omega
   subst hAn
   match p', hok', hac, hlen with
   | none, hok', hac, hlen =>
    have := hN c' ⟨C, hC, hac, hlen, hb2⟩
    rw [frK_eq] at this
    exact this
   | some (len, cap, l), hok', hac, hlen =>
    have := hS c' len cap l hok' ⟨C, hC, hac, hlen, hb2⟩
    rw [frK_eq] at this
    exact this
 ·exact hh.elim
theorem flatMap_cong {α β : Type} {f g : α → List β} : ∀ {l : List α}, (∀ x ∈ l, f x = g x) → l.flatMap f = l.flatMap g
 | [], _ => rfl
 | x :: l, h => by
  rw [List.flatMap_cons, List.flatMap_cons, h x (List.mem_cons_self ..), flatMap_cong fun y hy => h y (List.mem_cons_of_mem _ hy)]
def AllC (d : Dt) (i : Nat) (L : List Pr) : Prop := ∃ F : Nat → List Cz, (∀ j, j < i → Cut (dat d j) (dat d j).length (F j)) ∧ L = (List.range i).flatMap fun j => (F j).map (mkR j)
theorem allC_succ {d : Dt} {i : Nat} {L : List Pr} {C : List Cz} (h : AllC d i L) (hC : Cut (dat d i) (dat d i).length C) : AllC d (i + 1) (L ++ C.map (mkR i)) := by
 obtain ⟨F, h1, rfl⟩ := h
 refine ⟨fun j => if j = i then C else F j, fun j hj => ?_, ?_⟩
 ·by_cases q : j = i
  ·subst q; simp only [if_true]; exact hC
  ·simp only [if_neg q]; exact h1 j (by omega)
 ·rw [List.range_succ, List.flatMap_append]
  congr 1
  ·refine flatMap_cong fun j hj => ?_
   have hne : j ≠ i := by have := List.mem_range.1 hj; omega
   show List.map _ (F j) = List.map _ (if j = i then C else F j)
   rw [if_neg hne]
  ·simp
structure P2w (d : Dt) (nC : Nat) (st : S2w) : Prop where
 le : st.i ≤ d.n
 ok : okPl st.p
 all : AllC d st.i (acP st.p)
 len : ((acP st.p).length : Int) = st.c
 few : st.c ≤ (nC : Nat) + (st.i : Nat)
theorem round2zn (d : Dt) (aC : Option Addr) (kC : Nat) (xo : SV) (eO : Ent) (i : Nat) (c : Int) (H : HD d) (O : Opq xo eO) (hp : P2w d 0 ⟨i, none, c⟩) :
  frK 274 (i2 d.x (.v (.slice aC 0 kC)) xo ⟨i, none, c⟩) fun fr => vround Try.prog E6w (L4 d.e zE eO d.x (.v (.slice aC 0 kC)) xo i (X4 d 0 i) (Q4 d 0 i)) 6 2 fr (mP d.e zE eO none) (Kp (mB d.e zE eO) 2 274 (sel2 i) (fun st => P2w d 0 st ∧ d.n - st.i < d.n - i) (i2 d.x (.v (.slice aC 0 kC)) xo) (fun st => mP d.e zE eO st.p) (i = d.n) (o2 d.x xo none) (mP d.e zE eO none)) := by
 refine of_eq (r2zn d aC kC xo eO i c _ _ _ _) ?_
 obtain ⟨hle, hok, hall, hlen, hfew⟩ := hp
 have hle : i ≤ d.n := hle
 have hall : AllC d i (acP none) := hall
 have hfew : c ≤ (0 : Nat) + (i : Nat) := hfew
 have h8 := H.n8
 have hnext : ∀ (p' : Option Pl) (c' : Int), okPl p' → i < d.n → Q4 d 0 i (acP none) c (acP p') c' → P2w d 0 ⟨i + 1, p', c'⟩ ∧ d.n - (i + 1) < d.n - i := fun p' c' ho hi ⟨C, q1, q2, q3, q4⟩ => by
  refine ⟨⟨hi, ho, ?_, q3, ?_⟩, by omega⟩
  ·show AllC d (i + 1) (acP p')
   rw [q2]; exact allC_succ hall q1
  ·show c' ≤ (0 : Nat) + ((i + 1 : Nat) : Int)
   omega
 cases q1 : ilt (i : Int) (d.n : Int)
 ·have := of_nilt q1
  exact ⟨rfl, by omega, rfl, eqA_of rfl (O.wn (Nat.le_refl 3)) ⟨rfl, ⟨rfl, rfl⟩, ⟨rfl, rfl⟩, ⟨rfl, rfl⟩, bif_of (O.wc _) trivial⟩⟩
 ·have hi := of_ilt q1
  refine bif_t rfl ⟨rfl, trivial, rfl, rfl, eqA_of (O.r _).symm (O.wn (Nat.le_refl 3)) ⟨rfl, rfl, rfl, rfl, ⟨rfl, rfl⟩, ⟨rfl, rfl⟩, ⟨rfl, (O.rc _).symm⟩, bif_of (and_t (O.wc _) (by rw [O.wc]; exact Bool.or_true _)) ⟨⟨trivial, hi, hlen, hfew⟩, fun c' hQ => bif_of (inI_iff.2 (by omega)) ?_, fun c' len' cap' l' ho hQ => bif_of (inI_iff.2 (by omega)) ?_⟩⟩⟩
  ·have HA := hnext none c' trivial hi hQ
   exact ⟨HA, rfl, rfl, eqA_of (O.r _).symm (O.wn (Nat.le_refl 3)) ⟨rfl, rfl, rfl, ⟨rfl, rfl⟩, ⟨rfl, rfl⟩, ⟨rfl, (O.rc _).symm⟩, bif_of (and_t (O.wc _) (by rw [O.wc]; exact Bool.or_true _)) trivial⟩⟩
  ·have HA := hnext (some (len', cap', l')) c' ho hi hQ
   exact ⟨HA, rfl, rfl, eqA_of (O.r _).symm (O.wn (Nat.le_succ 3)) ⟨rfl, rfl, rfl, ⟨rfl, rfl⟩, ⟨rfl, rfl⟩, ⟨rfl, (O.rc _).symm⟩, bif_of (and_t (O.wc _) (by rw [O.wc]; exact Bool.or_true _)) ⟨⟨rfl, rfl⟩, trivial⟩⟩⟩
theorem round2zs (d : Dt) (aC : Option Addr) (kC : Nat) (xo : SV) (eO : Ent) (i : Nat) (len cap : Nat) (l : List Pr) (c : Int) (H : HD d) (O : Opq xo eO) (hp : P2w d 0 ⟨i, (some (len, cap, l)), c⟩) :
  frK 274 (i2 d.x (.v (.slice aC 0 kC)) xo ⟨i, (some (len, cap, l)), c⟩) fun fr => vround Try.prog E6w (L4 d.e zE eO d.x (.v (.slice aC 0 kC)) xo i (X4 d 0 i) (Q4 d 0 i)) 6 2 fr (mP d.e zE eO (some (len, cap, l))) (Kp (mB d.e zE eO) 2 274 (sel2 i) (fun st => P2w d 0 st ∧ d.n - st.i < d.n - i) (i2 d.x (.v (.slice aC 0 kC)) xo) (fun st => mP d.e zE eO st.p) (i = d.n) (o2 d.x xo (some (len, cap, l))) (mP d.e zE eO (some (len, cap, l)))) := by
 refine of_eq (r2zs d aC kC xo eO i len cap l c _ _ _ _) ?_
 obtain ⟨hle, hok, hall, hlen, hfew⟩ := hp
 have hle : i ≤ d.n := hle
 have hall : AllC d i (acP (some (len, cap, l))) := hall
 have hfew : c ≤ (0 : Nat) + (i : Nat) := hfew
 have h8 := H.n8
 have hnext : ∀ (p' : Option Pl) (c' : Int), okPl p' → i < d.n → Q4 d 0 i (acP (some (len, cap, l))) c (acP p') c' → P2w d 0 ⟨i + 1, p', c'⟩ ∧ d.n - (i + 1) < d.n - i := fun p' c' ho hi ⟨C, q1, q2, q3, q4⟩ => by
  refine ⟨⟨hi, ho, ?_, q3, ?_⟩, by omega⟩
  ·show AllC d (i + 1) (acP p')
   rw [q2]; exact allC_succ hall q1
  ·show c' ≤ (0 : Nat) + ((i + 1 : Nat) : Int)
   omega
 cases q1 : ilt (i : Int) (d.n : Int)
 ·have := of_nilt q1
  exact ⟨rfl, by omega, rfl, eqA_of rfl (O.wn (Nat.le_succ 3)) ⟨rfl, ⟨rfl, rfl⟩, ⟨rfl, rfl⟩, ⟨rfl, rfl⟩, bif_of (O.wc _) ⟨⟨rfl, rfl⟩, trivial⟩⟩⟩
 ·have hi := of_ilt q1
  refine bif_t rfl ⟨rfl, trivial, rfl, rfl, eqA_of (O.r _).symm (O.wn (Nat.le_succ 3)) ⟨rfl, rfl, rfl, rfl, ⟨rfl, rfl⟩, ⟨rfl, rfl⟩, ⟨rfl, (O.rc _).symm⟩, bif_of (and_t (O.wc _) (by rw [O.wc]; exact Bool.or_true _)) ⟨⟨rfl, rfl⟩, ⟨hok, hi, hlen, hfew⟩, fun c' hQ => bif_of (inI_iff.2 (by omega)) ?_, fun c' len' cap' l' ho hQ => bif_of (inI_iff.2 (by omega)) ?_⟩⟩⟩
  ·have HA := hnext none c' trivial hi hQ
   exact ⟨HA, rfl, rfl, eqA_of (O.r _).symm (O.wn (Nat.le_refl 3)) ⟨rfl, rfl, rfl, ⟨rfl, rfl⟩, ⟨rfl, rfl⟩, ⟨rfl, (O.rc _).symm⟩, bif_of (and_t (O.wc _) (by rw [O.wc]; exact Bool.or_true _)) trivial⟩⟩
  ·have HA := hnext (some (len', cap', l')) c' ho hi hQ
   exact ⟨HA, rfl, rfl, eqA_of (O.r _).symm (O.wn (Nat.le_succ 3)) ⟨rfl, rfl, rfl, ⟨rfl, rfl⟩, ⟨rfl, rfl⟩, ⟨rfl, (O.rc _).symm⟩, bif_of (and_t (O.wc _) (by rw [O.wc]; exact Bool.or_true _)) ⟨⟨rfl, rfl⟩, trivial⟩⟩⟩
theorem round2rn (d : Dt) (e : Ct) (xo : SV) (eO : Ent) (i : Nat) (c : Int) (H : HD d) (O : Opq xo eO) (hp : P2w d e.n ⟨i, none, c⟩) :
  frK 274 (i2 d.x e.x xo ⟨i, none, c⟩) fun fr => vround Try.prog E6w (L4 d.e e.e eO d.x e.x xo i (X4 d e.n i) (Q4 d e.n i)) 6 2 fr (mP d.e e.e eO none) (Kp (mB d.e e.e eO) 2 274 (sel2 i) (fun st => P2w d e.n st ∧ d.n - st.i < d.n - i) (i2 d.x e.x xo) (fun st => mP d.e e.e eO st.p) (i = d.n) (o2 d.x xo none) (mP d.e e.e eO none)) := by
 refine of_eq (r2rn d e xo eO i c _ _ _ _) ?_
 obtain ⟨hle, hok, hall, hlen, hfew⟩ := hp
 have hle : i ≤ d.n := hle
 have hall : AllC d i (acP none) := hall
 have hfew : c ≤ (e.n : Nat) + (i : Nat) := hfew
 have h8 := H.n8
 have hnext : ∀ (p' : Option Pl) (c' : Int), okPl p' → i < d.n → Q4 d e.n i (acP none) c (acP p') c' → P2w d e.n ⟨i + 1, p', c'⟩ ∧ d.n - (i + 1) < d.n - i := fun p' c' ho hi ⟨C, q1, q2, q3, q4⟩ => by
  refine ⟨⟨hi, ho, ?_, q3, ?_⟩, by omega⟩
  ·show AllC d (i + 1) (acP p')
   rw [q2]; exact allC_succ hall q1
  ·show c' ≤ (e.n : Nat) + ((i + 1 : Nat) : Int)
   omega
 cases q1 : ilt (i : Int) (d.n : Int)
 ·have := of_nilt q1
  exact ⟨rfl, by omega, rfl, eqA_of rfl (O.wn (Nat.le_refl 3)) ⟨rfl, ⟨rfl, rfl⟩, ⟨rfl, rfl⟩, ⟨rfl, rfl⟩, bif_of (O.wc _) trivial⟩⟩
 ·have hi := of_ilt q1
  refine bif_t rfl ⟨rfl, trivial, rfl, rfl, eqA_of (O.r _).symm (O.wn (Nat.le_refl 3)) ⟨rfl, rfl, rfl, rfl, ⟨rfl, rfl⟩, ⟨rfl, rfl⟩, ⟨rfl, (O.rc _).symm⟩, bif_of (and_t (O.wc _) (by rw [O.wc]; exact Bool.or_true _)) ⟨⟨trivial, hi, hlen, hfew⟩, fun c' hQ => bif_of (inI_iff.2 (by omega)) ?_, fun c' len' cap' l' ho hQ => bif_of (inI_iff.2 (by omega)) ?_⟩⟩⟩
  ·have HA := hnext none c' trivial hi hQ
   exact ⟨HA, rfl, rfl, eqA_of (O.r _).symm (O.wn (Nat.le_refl 3)) ⟨rfl, rfl, rfl, ⟨rfl, rfl⟩, ⟨rfl, rfl⟩, ⟨rfl, (O.rc _).symm⟩, bif_of (and_t (O.wc _) (by rw [O.wc]; exact Bool.or_true _)) trivial⟩⟩
  ·have HA := hnext (some (len', cap', l')) c' ho hi hQ
   exact ⟨HA, rfl, rfl, eqA_of (O.r _).symm (O.wn (Nat.le_succ 3)) ⟨rfl, rfl, rfl, ⟨rfl, rfl⟩, ⟨rfl, rfl⟩, ⟨rfl, (O.rc _).symm⟩, bif_of (and_t (O.wc _) (by rw [O.wc]; exact Bool.or_true _)) ⟨⟨rfl, rfl⟩, trivial⟩⟩⟩
theorem round2rs (d : Dt) (e : Ct) (xo : SV) (eO : Ent) (i : Nat) (len cap : Nat) (l : List Pr) (c : Int) (H : HD d) (O : Opq xo eO) (hp : P2w d e.n ⟨i, (some (len, cap, l)), c⟩) :
  frK 274 (i2 d.x e.x xo ⟨i, (some (len, cap, l)), c⟩) fun fr => vround Try.prog E6w (L4 d.e e.e eO d.x e.x xo i (X4 d e.n i) (Q4 d e.n i)) 6 2 fr (mP d.e e.e eO (some (len, cap, l))) (Kp (mB d.e e.e eO) 2 274 (sel2 i) (fun st => P2w d e.n st ∧ d.n - st.i < d.n - i) (i2 d.x e.x xo) (fun st => mP d.e e.e eO st.p) (i = d.n) (o2 d.x xo (some (len, cap, l))) (mP d.e e.e eO (some (len, cap, l)))) := by
 refine of_eq (r2rs d e xo eO i len cap l c _ _ _ _) ?_
 obtain ⟨hle, hok, hall, hlen, hfew⟩ := hp
 have hle : i ≤ d.n := hle
 have hall : AllC d i (acP (some (len, cap, l))) := hall
 have hfew : c ≤ (e.n : Nat) + (i : Nat) := hfew
 have h8 := H.n8
 have hnext : ∀ (p' : Option Pl) (c' : Int), okPl p' → i < d.n → Q4 d e.n i (acP (some (len, cap, l))) c (acP p') c' → P2w d e.n ⟨i + 1, p', c'⟩ ∧ d.n - (i + 1) < d.n - i := fun p' c' ho hi ⟨C, q1, q2, q3, q4⟩ => by
  refine ⟨⟨hi, ho, ?_, q3, ?_⟩, by omega⟩
  ·show AllC d (i + 1) (acP p')
   rw [q2]; exact allC_succ hall q1
  ·show c' ≤ (e.n : Nat) + ((i + 1 : Nat) : Int)
   omega
 cases q1 : ilt (i : Int) (d.n : Int)
 ·have := of_nilt q1
  exact ⟨rfl, by omega, rfl, eqA_of rfl (O.wn (Nat.le_succ 3)) ⟨rfl, ⟨rfl, rfl⟩, ⟨rfl, rfl⟩, ⟨rfl, rfl⟩, bif_of (O.wc _) ⟨⟨rfl, rfl⟩, trivial⟩⟩⟩
 ·have hi := of_ilt q1
  refine bif_t rfl ⟨rfl, trivial, rfl, rfl, eqA_of (O.r _).symm (O.wn (Nat.le_succ 3)) ⟨rfl, rfl, rfl, rfl, ⟨rfl, rfl⟩, ⟨rfl, rfl⟩, ⟨rfl, (O.rc _).symm⟩, bif_of (and_t (O.wc _) (by rw [O.wc]; exact Bool.or_true _)) ⟨⟨rfl, rfl⟩, ⟨hok, hi, hlen, hfew⟩, fun c' hQ => bif_of (inI_iff.2 (by omega)) ?_, fun c' len' cap' l' ho hQ => bif_of (inI_iff.2 (by omega)) ?_⟩⟩⟩
  ·have HA := hnext none c' trivial hi hQ
   exact ⟨HA, rfl, rfl, eqA_of (O.r _).symm (O.wn (Nat.le_refl 3)) ⟨rfl, rfl, rfl, ⟨rfl, rfl⟩, ⟨rfl, rfl⟩, ⟨rfl, (O.rc _).symm⟩, bif_of (and_t (O.wc _) (by rw [O.wc]; exact Bool.or_true _)) trivial⟩⟩
  ·have HA := hnext (some (len', cap', l')) c' ho hi hQ
   exact ⟨HA, rfl, rfl, eqA_of (O.r _).symm (O.wn (Nat.le_succ 3)) ⟨rfl, rfl, rfl, ⟨rfl, rfl⟩, ⟨rfl, rfl⟩, ⟨rfl, (O.rc _).symm⟩, bif_of (and_t (O.wc _) (by rw [O.wc]; exact Bool.or_true _)) ⟨⟨rfl, rfl⟩, trivial⟩⟩⟩
end Go.Proofs.Ytggoncamiafclaa
