/-
  seg: SegOptions' law. No statement is proved here.
-/
import Derived.Test.YtmeipcgkhgagpaaSgR
namespace Go.Proofs.Ytmeipcgkhgagpaa
open Go.RowKit
set_option linter.unusedVariables false
set_option linter.unusedSimpArgs false
set_option maxRecDepth 100000

/-- A head of sixteen bytes, its thirteenth told. -/
def hdB (a b : BitVec 16) (q k : BitVec 32) (y f : BitVec 8) (w : BitVec 16) : Tx := t2 a ++ t2 b ++ t4 t2 q ++ t4 t2 k ++ [y, f] ++ t2 w
def mkT (a b : BitVec 16) (q k : BitVec 32) (y f : BitVec 8) (w : BitVec 16) (r : Tx) (s d : BitVec 32) : Tx := hdB a b q k y f w ++ t2 (sgS (hdB a b q k y f w ++ [0, 0] ++ r) s d) ++ r
theorem hdB_len (a b : BitVec 16) (q k : BitVec 32) (y f : BitVec 8) (w : BitVec 16) : (hdB a b q k y f w).length = 16 := rfl
theorem mk_len (a b : BitVec 16) (q k : BitVec 32) (y f : BitVec 8) (w : BitVec 16) (r : Tx) (s d : BitVec 32) : (mkT a b q k y f w r s d).length = 18 + r.length := by
  unfold mkT
  simp only [List.length_append, hdB_len, t2_len]
theorem mk_sum (a b : BitVec 16) (q k : BitVec 32) (y f : BitVec 8) (w : BitVec 16) (r : Tx) (s d : BitVec 32) : sgS (mkT a b q k y f w r s d) s d = BitVec.ofInt 16 0 := by
  have hl : ((mkT a b q k y f w r s d).length : Int) = ((hdB a b q k y f w ++ [0, 0] ++ r).length : Int) := by
    rw [mk_len]; simp only [List.length_append, hdB_len, List.length_cons, List.length_nil]
  unfold sgS
  rw [hl]
  have e1 : sgS (hdB a b q k y f w ++ [0, 0] ++ r) s d = sumX ((psT (BitVec.ofInt 16 (((hdB a b q k y f w ++ [0, 0] ++ r).length : Nat) : Int)) s d ++ hdB a b q k y f w) ++ r) := by
    rw [← sum_mid _ _ (by rw [List.length_append, ps_len, hdB_len])]
    unfold sgS
    simp only [List.append_assoc]
  unfold mkT
  rw [e1]
  have hA : (psT (BitVec.ofInt 16 (((hdB a b q k y f w ++ [0, 0] ++ r).length : Nat) : Int)) s d ++ hdB a b q k y f w).length % 2 = 0 := by rw [List.length_append, ps_len, hdB_len]
  have := sum_self _ r hA
  simp only [List.append_assoc] at this ⊢
  exact this
theorem mk_hd (a b : BitVec 16) (q k : BitVec 32) (y f : BitVec 8) (w : BitVec 16) (r : Tx) (s d : BitVec 32) : hdX (mkT a b q k y f w r s d) = ⟨a, b, q, k, f, w⟩ := by
  have e1 : (nmX (List.drop 0 (List.take 2 (mkT a b q k y f w r s d)))).setWidth 16 = a := nm_t2w a
  have e2 : (nmX (List.drop 2 (List.take 4 (mkT a b q k y f w r s d)))).setWidth 16 = b := nm_t2w b
  have e3 : nmX (List.drop 4 (List.take 8 (mkT a b q k y f w r s d))) = q := nm_t4 q
  have e4 : nmX (List.drop 8 (List.take 12 (mkT a b q k y f w r s d))) = k := nm_t4 k
  have e5 : (mkT a b q k y f w r s d).getD 13 0 = f := rfl
  have e6 : (nmX (List.drop 14 (List.take 16 (mkT a b q k y f w r s d)))).setWidth 16 = w := nm_t2w w
  unfold hdX
  rw [e1, e2, e3, e4, e5, e6]
theorem hb_sz (n : Nat) (h4 : n % 4 = 0) (hn : n ≤ 60) : (((BitVec.ofInt 8 ((n : Nat) : Int)) <<< 2) >>> 4).toNat = n / 4 := by
  simp only [BitVec.toNat_ushiftRight, BitVec.toNat_shiftLeft, BitVec.toNat_ofInt, Nat.shiftRight_eq_div_pow, Nat.shiftLeft_eq]
  omega
theorem syn_or (f : BitVec 8) : syn (f ||| BitVec.ofInt 8 2) = true := by
  unfold syn
  have e : (f ||| BitVec.ofInt 8 2) &&& BitVec.ofInt 8 2 = BitVec.ofInt 8 2 := by
    apply BitVec.eq_of_getElem_eq
    intro i hi
    simp only [BitVec.getElem_and, BitVec.getElem_or]
    cases f[i] <;> cases (BitVec.ofInt 8 2)[i] <;> rfl
  rw [e]; rfl
/-- A segment, other options ahead of its own: it is read as it is. -/
theorem mk_read (g : Sg) (s d : BitVec 32) (O : Tx) (y : BitVec 8) (hB : mayB g.f g.m g.h g.c = true) (hS : syn g.f = true) (hO : ∀ r m h c, opX (O ++ r) m h c = opX r m h c) (h4 : O.length % 4 = 0) (hn : 20 + (optT g.m g.h g.c).length + O.length ≤ 60) (hy : y = BitVec.ofInt 8 ((20 + (optT g.m g.h g.c).length + O.length : Nat) : Int) <<< 2) :
    deE (mkT g.a g.b g.q g.k y g.f g.w ([0, 0] ++ O ++ (optT g.m g.h g.c ++ g.l)) s d) s d = 0 ∧ deG (mkT g.a g.b g.q g.k y g.f g.w ([0, 0] ++ O ++ (optT g.m g.h g.c ++ g.l)) s d) s d = g := by
  obtain ⟨h1, h2, h3⟩ := may_of hB
  have ho4 : (optT g.m g.h g.c).length % 4 = 0 := by rcases opt_lens g.m g.h g.c with h | h | h <;> omega
  have hhd := mk_hd g.a g.b g.q g.k y g.f g.w ([0, 0] ++ O ++ (optT g.m g.h g.c ++ g.l)) s d
  have hsum := mk_sum g.a g.b g.q g.k y g.f g.w ([0, 0] ++ O ++ (optT g.m g.h g.c ++ g.l)) s d
  have hlen := mk_len g.a g.b g.q g.k y g.f g.w ([0, 0] ++ O ++ (optT g.m g.h g.c ++ g.l)) s d
  have e12 : (mkT g.a g.b g.q g.k y g.f g.w ([0, 0] ++ O ++ (optT g.m g.h g.c ++ g.l)) s d).getD 12 0 = y := rfl
  have hz : hsz (mkT g.a g.b g.q g.k y g.f g.w ([0, 0] ++ O ++ (optT g.m g.h g.c ++ g.l)) s d) = ((20 + (optT g.m g.h g.c).length + O.length : Nat) : Int) := by
    unfold hsz
    rw [e12, hy, hb_sz _ (by omega) hn]
    omega
  have hT : mkT g.a g.b g.q g.k y g.f g.w ([0, 0] ++ O ++ (optT g.m g.h g.c ++ g.l)) s d = (hdB g.a g.b g.q g.k y g.f g.w ++ t2 (sgS (hdB g.a g.b g.q g.k y g.f g.w ++ [0, 0] ++ ([0, 0] ++ O ++ (optT g.m g.h g.c ++ g.l))) s d) ++ [0, 0]) ++ ((O ++ optT g.m g.h g.c) ++ g.l) := by
    unfold mkT
    simp only [List.append_assoc]
  have hob : optB (mkT g.a g.b g.q g.k y g.f g.w ([0, 0] ++ O ++ (optT g.m g.h g.c ++ g.l)) s d) = O ++ optT g.m g.h g.c := by
    unfold optB
    rw [hz, Int.toNat_natCast, hT]
    have hl : (hdB g.a g.b g.q g.k y g.f g.w ++ t2 (sgS (hdB g.a g.b g.q g.k y g.f g.w ++ [0, 0] ++ ([0, 0] ++ O ++ (optT g.m g.h g.c ++ g.l))) s d) ++ [0, 0]).length = 20 := rfl
    rw [List.drop_take, List.drop_left' hl]
    exact List.take_left' (by rw [List.length_append]; omega)
  have hdt : (mkT g.a g.b g.q g.k y g.f g.w ([0, 0] ++ O ++ (optT g.m g.h g.c ++ g.l)) s d).drop (hsz (mkT g.a g.b g.q g.k y g.f g.w ([0, 0] ++ O ++ (optT g.m g.h g.c ++ g.l)) s d)).toNat = g.l := by
    rw [hz, Int.toNat_natCast, hT]
    have hl : (hdB g.a g.b g.q g.k y g.f g.w ++ t2 (sgS (hdB g.a g.b g.q g.k y g.f g.w ++ [0, 0] ++ ([0, 0] ++ O ++ (optT g.m g.h g.c ++ g.l))) s d) ++ [0, 0]).length = 20 := rfl
    rw [← List.append_assoc]
    exact List.drop_left' (by rw [List.length_append, hl, List.length_append]; omega)
  have hop : opO (mkT g.a g.b g.q g.k y g.f g.w ([0, 0] ++ O ++ (optT g.m g.h g.c ++ g.l)) s d) = ⟨true, g.m, g.h, g.c⟩ := by
    unfold opO
    rw [hob, hO, opt_read _ _ _ h1 h2]
  generalize mkT g.a g.b g.q g.k y g.f g.w ([0, 0] ++ O ++ (optT g.m g.h g.c ++ g.l)) s d = X at *
  have hxl : X.length = 20 + O.length + (optT g.m g.h g.c).length + g.l.length := by
    rw [hlen]; simp only [List.length_append, List.length_cons, List.length_nil]; omega
  have e1 : ilt ((X.length : Nat) : Int) 20 = false := ilt_no (by omega)
  have e2 : ilt (hsz X) 20 = false := ilt_no (by omega)
  have e3 : ilt ((X.length : Nat) : Int) (hsz X) = false := ilt_no (by omega)
  have hE : deE X s d = 0 := by
    unfold deE
    rw [e1, e2, e3, hsum, hop]; rfl
  refine ⟨hE, ?_⟩
  unfold deG
  rw [hE]
  show sgO X = g
  unfold sgO
  rw [hop, hhd, hdt]
  show (⟨g.a, g.b, g.q, g.k, g.f, g.w, bif syn g.f then g.m else 0, bif syn g.f then g.h else false, bif syn g.f then g.c else 0, g.l⟩ : Sg) = g
  rw [hS]; rfl
section
variable (a b : BitVec 16) (q k : BitVec 32) (f : BitVec 8) (w m : BitVec 16) (h : Bool) (c : BitVec 8) (l : Tx) (s d : BitVec 32) (O : Tx)
abbrev g6 (a b : BitVec 16) (q k : BitVec 32) (f : BitVec 8) (w m : BitVec 16) (h : Bool) (c : BitVec 8) (l : Tx) : Sg := ⟨a, b, q, k, f ||| BitVec.ofInt 8 2, w, m, h, c, l⟩
theorem rq_by (hR : enR (g6 a b q k f w m h c l) s d = byT (g6 a b q k f w m h c l) s d) : rq6 enR a b q k f w m h c l s d = byT (g6 a b q k f w m h c l) s d := hR
theorem t6_eq (hR : enR (g6 a b q k f w m h c l) s d = byT (g6 a b q k f w m h c l) s d) : t6 enR a b q k f w m h c l s d O = hdB a b q k (hb6 enR a b q k f w m h c l s d O) (f ||| BitVec.ofInt 8 2) w ++ [0, 0] ++ ([0, 0] ++ O ++ (optT m h c ++ l)) := by
  unfold t6
  rw [rq_by a b q k f w m h c l s d hR]
  have e1 : List.drop 0 (List.take 12 (byT (g6 a b q k f w m h c l) s d)) = t2 a ++ t2 b ++ t4 t2 q ++ t4 t2 k := rfl
  have e2 : List.drop 13 (List.take 16 (byT (g6 a b q k f w m h c l) s d)) = [f ||| BitVec.ofInt 8 2] ++ t2 w := rfl
  have e3 : List.drop 18 (List.take 20 (byT (g6 a b q k f w m h c l) s d)) = [0, 0] := rfl
  have e4 : List.drop 20 (List.take (List.length (byT (g6 a b q k f w m h c l) s d)) (byT (g6 a b q k f w m h c l) s d)) = optT m h c ++ l := by
    rw [List.take_length]; rfl
  rw [e1, e2, e3, e4]
  generalize hb6 enR a b q k f w m h c l s d O = y
  unfold hdB
  simp only [List.append_assoc, List.drop_zero, List.take_succ_cons, List.take_zero, List.cons_append, List.nil_append]
  rfl
theorem t7_eq (hR : enR (g6 a b q k f w m h c l) s d = byT (g6 a b q k f w m h c l) s d) : t7 enR sgS a b q k f w m h c l s d O = mkT a b q k (hb6 enR a b q k f w m h c l s d O) (f ||| BitVec.ofInt 8 2) w ([0, 0] ++ O ++ (optT m h c ++ l)) s d := by
  unfold t7
  have e := t6_eq a b q k f w m h c l s d O hR
  generalize t6 enR a b q k f w m h c l s d O = X at e ⊢
  generalize hb6 enR a b q k f w m h c l s d O = y at e ⊢
  have e1 : List.drop 0 (List.take 16 X) = hdB a b q k y (f ||| BitVec.ofInt 8 2) w := by
    rw [e, List.drop_zero, List.append_assoc]
    exact List.take_left' (hdB_len ..)
  have e2 : List.drop 18 (List.take X.length X) = [0, 0] ++ O ++ (optT m h c ++ l) := by
    rw [List.take_length, e]
    exact List.drop_left' (by rw [List.length_append, hdB_len]; rfl)
  rw [e1, e2]
  unfold mkT
  rw [← e]
  rfl
end
end Go.Proofs.Ytmeipcgkhgagpaa
