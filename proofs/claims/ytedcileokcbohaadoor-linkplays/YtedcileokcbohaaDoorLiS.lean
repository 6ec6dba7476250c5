/-
  link: the law LinkBack answers true. No statement is proved here.
-/
import Derived.Test.YtedcileokcbohaaDoorLiQ
namespace Go.Proofs.YtedcileokcbohaaDoor
open Go.RowKit
set_option linter.unusedVariables false
set_option linter.unusedSimpArgs false
set_option maxRecDepth 100000

def mB (d s : Tx) (t : BitVec 16) (x : Tx) (o : BitVec 16) (a : Tx) (u : BitVec 32) (b : Tx) (v : BitVec 32) (y1 y2 : Tx) (y3 : BitVec 16) (y4 : Tx) : Mm := [⟨false, .a8 HD⟩, ⟨true, .row [.s d, .s s, .w16 t, .s x]⟩, ⟨true, .row [.w16 o, .s a, .w32 u, .s b, .w32 v]⟩, ⟨true, .row [.s y1, .s y2, .w16 y3, .s y4]⟩]
def iB (z : Tx) (i : Nat) : List (Nat × SV) := [(2, .s z), (3, .ptr 1 0), (4, .ptr 2 0), (9, .ptr 3 0), (11, .i (i : Nat))]
def oB (z : Tx) : List (Nat × SV) := [(2, .s z), (3, .ptr 1 0), (4, .ptr 2 0)]
def LB (d s : Tx) (t : BitVec 16) (x : Tx) (o : BitVec 16) (a : Tx) (u : BitVec 32) (b : Tx) (v : BitVec 32) (y1 y2 : Tx) (y3 : BitVec 16) (y4 z : Tx) : LT := noL.add 0 (vLoop G 144 (iB z x.length) (mB d s t x o a u b v y1 y2 y3 y4) (oB z) (mB d s t x o a u b v y1 y2 y3 y4))
theorem rB (d s : Tx) (t : BitVec 16) (x : Tx) (o : BitVec 16) (a : Tx) (u : BitVec 32) (b : Tx) (v : BitVec 32) (y1 y2 : Tx) (y3 : BitVec 16) (y4 z : Tx) (i : Nat) (p : Prop) : (frK 144 (iB z i) fun fr => vround Tryd.prog E0 noL 4 0 fr (mB d s t x o a u b v y1 y2 y3 y4) (Kn G 0 144 p (iB z (i + 1)) (mB d s t x o a u b v y1 y2 y3 y4) (oB z) (mB d s t x o a u b v y1 y2 y3 y4))) = (bif ilt (↑i : Int) (↑(List.length y4) : Int) then bif inR (↑i : Int) (List.length y4) then bif List.getD y4 i 0 != BitVec.ofInt 8 0 then False else bif inI ((↑i : Int) + 1) then p ∧ SV.s z = SV.s z ∧ SV.ptr 1 0 = SV.ptr 1 0 ∧ SV.ptr 2 0 = SV.ptr 2 0 ∧ SV.ptr 3 0 = SV.ptr 3 0 ∧ SV.i ((↑i : Int) + 1) = SV.i (↑(i + 1) : Int) ∧ (false = false ∧ Cont.a8 HD = Cont.a8 HD) ∧ (true = true ∧ Cont.row [SV.s d, SV.s s, SV.w16 t, SV.s x] = Cont.row [SV.s d, SV.s s, SV.w16 t, SV.s x]) ∧ (true = true ∧ Cont.row [SV.w16 o, SV.s a, SV.w32 u, SV.s b, SV.w32 v] = Cont.row [SV.w16 o, SV.s a, SV.w32 u, SV.s b, SV.w32 v]) ∧ (true = true ∧ Cont.row [SV.s y1, SV.s y2, SV.w16 y3, SV.s y4] = Cont.row [SV.s y1, SV.s y2, SV.w16 y3, SV.s y4]) ∧ True else False else False else 0 = 0 ∧ SV.s z = SV.s z ∧ SV.ptr 1 0 = SV.ptr 1 0 ∧ SV.ptr 2 0 = SV.ptr 2 0 ∧ (false = false ∧ Cont.a8 HD = Cont.a8 HD) ∧ (true = true ∧ Cont.row [SV.s d, SV.s s, SV.w16 t, SV.s x] = Cont.row [SV.s d, SV.s s, SV.w16 t, SV.s x]) ∧ (true = true ∧ Cont.row [SV.w16 o, SV.s a, SV.w32 u, SV.s b, SV.w32 v] = Cont.row [SV.w16 o, SV.s a, SV.w32 u, SV.s b, SV.w32 v]) ∧ (true = true ∧ Cont.row [SV.s y1, SV.s y2, SV.w16 y3, SV.s y4] = Cont.row [SV.s y1, SV.s y2, SV.w16 y3, SV.s y4]) ∧ True) := by kernel_rfl
def E4 (ET : Tx → Tx → BitVec 16 → Tx → Tx) (EE : Tx → Tx → BitVec 16 → Tx → Int) (AT : BitVec 16 → Tx → BitVec 32 → Tx → BitVec 32 → Tx) (AE : BitVec 16 → Tx → Tx → Int) (C1 C2 : Tx → Tx) (C3 : Tx → BitVec 16) (C4 : Tx → Tx) (CE : Tx → Int) (D1 : Tx → BitVec 16) (D2 : Tx → Tx) (D3 : Tx → BitVec 32) (D4 : Tx → Tx) (D5 : Tx → BitVec 32) (DE : Tx → Int) : Env := ⟨G, (((((T0.add 8 cWorks).add 9 (cEn ET EE)).add 11 (cAr AT AE)).add 13 (cDc C1 C2 C3 C4 CE))).add 15 (cDa D1 D2 D3 D4 D5 DE), noC⟩
theorem v4 (ET : Tx → Tx → BitVec 16 → Tx → Tx) (EE : Tx → Tx → BitVec 16 → Tx → Int) (AT : BitVec 16 → Tx → BitVec 32 → Tx → BitVec 32 → Tx) (AE : BitVec 16 → Tx → Tx → Int) (C1 C2 : Tx → Tx) (C3 : Tx → BitVec 16) (C4 : Tx → Tx) (CE : Tx → Int) (D1 : Tx → BitVec 16) (D2 : Tx → Tx) (D3 : Tx → BitVec 32) (D4 : Tx → Tx) (D5 : Tx → BitVec 32) (DE : Tx → Int) (d s x z a b : Tx) (t o : BitVec 16) (u v : BitVec 32) (K : SV → Prop) : (vf Tryd.prog (E4 ET EE AT AE C1 C2 C3 C4 CE D1 D2 D3 D4 D5 DE) (LB d s t x o a u b v (C1 (ET d s t x)) (C2 (ET d s t x)) (C3 (ET d s t x)) (C4 (ET d s t x)) z) 4 [.agg [.s d, .s s, .w16 t, .s x], .agg [.w16 o, .s a, .w32 u, .s b, .w32 v], .s z] G (fun r _ => K r)) = (bif inI ((↑(List.length d) : Int) + (↑(List.length s) : Int)) then bif inI ((↑(List.length d) : Int) + (↑(List.length s) : Int) + (↑(List.length a) : Int)) then bif inI ((↑(List.length d) : Int) + (↑(List.length s) : Int) + (↑(List.length a) : Int) + (↑(List.length b) : Int)) then bif ilt 1024 ((↑(List.length d) : Int) + (↑(List.length s) : Int) + (↑(List.length a) : Int) + (↑(List.length b) : Int)) then K (SV.b true) else bif bif false then true else ilt 8192 (↑(List.length x) : Int) then K (SV.b true) else bif bif false then true else ilt 1024 (↑(List.length z) : Int) then K (SV.b true) else bif EE d s t x == 0 then bif (List.length (ET d s t x)).ble 4294967296 then bif CE (ET d s t x) != 0 then K (SV.b false) else bif bif false then true else !C1 (ET d s t x) == d then K (SV.b false) else bif bif false then true else !C2 (ET d s t x) == s then K (SV.b false) else bif bif false then true else C3 (ET d s t x) != t then K (SV.b false) else bif bif false then true else (↑(List.length (C4 (ET d s t x))) : Int) != bif ilt (↑(List.length x) : Int) 46 then 46 else (↑(List.length x) : Int) then K (SV.b false) else bif ile (↑(List.length x) : Int) (↑(List.length (C4 (ET d s t x))) : Int) then bif bif false then true else !List.drop 0 (List.take (List.length x) (C4 (ET d s t x))) == x then K (SV.b false) else loopOf Tryd.prog 4 0 = loopOf Tryd.prog 4 0 ∧ SV.s z = SV.s z ∧ SV.ptr 1 0 = SV.ptr 1 0 ∧ SV.ptr (0 + 1 + 1) 0 = SV.ptr 2 0 ∧ SV.ptr (0 + 1 + 1 + 1) 0 = SV.ptr 3 0 ∧ SV.i (↑(List.length x) : Int) = SV.i (↑(List.length x) : Int) ∧ (false = false ∧ Cont.a8 HD = Cont.a8 HD) ∧ (true = true ∧ Cont.row [SV.s d, SV.s s, SV.w16 t, SV.s x] = Cont.row [SV.s d, SV.s s, SV.w16 t, SV.s x]) ∧ (true = true ∧ Cont.row [SV.w16 o, SV.s a, SV.w32 u, SV.s b, SV.w32 v] = Cont.row [SV.w16 o, SV.s a, SV.w32 u, SV.s b, SV.w32 v]) ∧ (true = true ∧ Cont.row [SV.s (C1 (ET d s t x)), SV.s (C2 (ET d s t x)), SV.w16 (C3 (ET d s t x)), SV.s (C4 (ET d s t x))] = Cont.row [SV.s (C1 (ET d s t x)), SV.s (C2 (ET d s t x)), SV.w16 (C3 (ET d s t x)), SV.s (C4 (ET d s t x))]) ∧ bif AE o a b != 0 then bif AT o a u b v == bts { data := #[] } then K (SV.b (bif true then true else false)) else K (SV.b false) else bif ile (↑(List.length (AT o a u b v) + List.length z) : Int) 9223372036854775807 then bif (AT o a u b v ++ z).length.ble 4294967296 then bif DE (AT o a u b v ++ z) == 0 then bif bif true then bif false then !(D1 (AT o a u b v ++ z) == o && (D2 (AT o a u b v ++ z) == a && (D3 (AT o a u b v ++ z) == u && (D4 (AT o a u b v ++ z) == b && (D5 (AT o a u b v ++ z) == v && true))))) else D1 (AT o a u b v ++ z) == o && (D2 (AT o a u b v ++ z) == a && (D3 (AT o a u b v ++ z) == u && (D4 (AT o a u b v ++ z) == b && (D5 (AT o a u b v ++ z) == v && true)))) else false then K (SV.b (bif true then true else false)) else K (SV.b false) else K (SV.b false) else False else False else False else False else bif AE o a b != 0 then bif AT o a u b v == bts { data := #[] } then K (SV.b (bif true then true else false)) else K (SV.b false) else bif ile (↑(List.length (AT o a u b v) + List.length z) : Int) 9223372036854775807 then bif (AT o a u b v ++ z).length.ble 4294967296 then bif DE (AT o a u b v ++ z) == 0 then bif bif true then bif false then !(D1 (AT o a u b v ++ z) == o && (D2 (AT o a u b v ++ z) == a && (D3 (AT o a u b v ++ z) == u && (D4 (AT o a u b v ++ z) == b && (D5 (AT o a u b v ++ z) == v && true))))) else D1 (AT o a u b v ++ z) == o && (D2 (AT o a u b v ++ z) == a && (D3 (AT o a u b v ++ z) == u && (D4 (AT o a u b v ++ z) == b && (D5 (AT o a u b v ++ z) == v && true)))) else false then K (SV.b (bif true then true else false)) else K (SV.b false) else K (SV.b false) else False else False else False else False else False) := by kernel_rfl
theorem take_l {A R : Tx} {n : Nat} (h : A.length = n) : (A ++ R).take n = A := List.take_left' h
theorem cut_mid {A B C : Tx} {p r : Nat} (hp : A.length = p) (hr : p + B.length = r) : ((A ++ (B ++ C)).take r).drop p = B := by
  subst hp; subst hr
  rw [← List.append_assoc, ← List.length_append, List.take_left, List.drop_left]
theorem nm_step (x : BitVec 32) (y : BitVec 8) (hx : x.toNat < 16777216) : (x <<< 8 ||| y.setWidth 32).toNat = x.toNat * 256 + y.toNat := by
  have hy : y.toNat < 256 := y.isLt
  rw [BitVec.toNat_or, BitVec.toNat_shiftLeft, BitVec.toNat_setWidth, Nat.mod_eq_of_lt (a := y.toNat) (by omega), Nat.shiftLeft_eq, Nat.mod_eq_of_lt (by omega)]
  have := Nat.shiftLeft_add_eq_or_of_lt (i := 8) (b := y.toNat) (by omega) x.toNat
  rw [Nat.shiftLeft_eq] at this
  rw [← this]
theorem byte_at (u : BitVec 32) (k : Nat) : ((u >>> k).setWidth 8).toNat = u.toNat / 2 ^ k % 256 := by
  rw [BitVec.toNat_setWidth, BitVec.toNat_ushiftRight, Nat.shiftRight_eq_div_pow]
theorem nm2 (t : BitVec 16) : (nmX (n2 (t.setWidth 32))).setWidth 16 = t := by
  have ht : t.toNat < 65536 := t.isLt
  have h0 : (t.setWidth 32).toNat = t.toNat := by rw [BitVec.toNat_setWidth]; exact Nat.mod_eq_of_lt (by omega)
  generalize t.setWidth 32 = w at h0
  have b1 := byte_at w 8
  have b0 := byte_at w 0
  have l1 := ((w >>> 8).setWidth 8).isLt
  have s1 := nm_step 0 ((w >>> 8).setWidth 8) (by decide)
  have s2 := nm_step _ ((w >>> 0).setWidth 8) (show (((0 : BitVec 32) <<< 8 ||| ((w >>> 8).setWidth 8).setWidth 32)).toNat < 16777216 by rw [s1]; show 0 * 256 + _ < _; omega)
  apply BitVec.eq_of_toNat_eq
  rw [BitVec.toNat_setWidth]
  show ((((0 : BitVec 32) <<< 8 ||| ((w >>> 8).setWidth 8).setWidth 32) <<< 8 ||| ((w >>> 0).setWidth 8).setWidth 32)).toNat % 65536 = t.toNat
  have z0 : (0 : BitVec 32).toNat = 0 := rfl
  rw [s2, s1, b1, b0, h0, z0]
  omega
theorem nm4 (u : BitVec 32) : nmX (n4 u) = u := by
  have hu : u.toNat < 4294967296 := u.isLt
  have b3 := byte_at u 24
  have b2 := byte_at u 16
  have b1 := byte_at u 8
  have b0 := byte_at u 0
  have z0 : (0 : BitVec 32).toNat = 0 := rfl
  have s3 := nm_step 0 ((u >>> 24).setWidth 8) (by decide)
  generalize hx3 : ((0 : BitVec 32) <<< 8 ||| ((u >>> 24).setWidth 8).setWidth 32) = x3 at s3
  have s2 := nm_step x3 ((u >>> 16).setWidth 8) (by omega)
  generalize hx2 : (x3 <<< 8 ||| ((u >>> 16).setWidth 8).setWidth 32) = x2 at s2
  have s1 := nm_step x2 ((u >>> 8).setWidth 8) (by omega)
  generalize hx1 : (x2 <<< 8 ||| ((u >>> 8).setWidth 8).setWidth 32) = x1 at s1
  have s0 := nm_step x1 ((u >>> 0).setWidth 8) (by omega)
  have e : nmX (n4 u) = (x1 <<< 8 ||| ((u >>> 0).setWidth 8).setWidth 32) := by
    rw [← hx1, ← hx2, ← hx3]; rfl
  apply BitVec.eq_of_toNat_eq
  rw [e, s0]
  omega
theorem enT_reads {d s : Tx} {t : BitVec 16} {x : Tx} (h : enE d s t x = 0) : (enT d s t x).length ≤ 2000 ∧ dcE (enT d s t x) = 0 ∧ dc1 (enT d s t x) = d ∧ dc2 (enT d s t x) = s ∧ dc3 (enT d s t x) = t ∧ dc4 (enT d s t x) = x ++ List.replicate (46 - x.length) 0 ∧ x.length ≤ 1500 := by
  unfold enE at h
  cases h1 : enOk d s t
  · rw [h1] at h; cases h
  · rw [h1] at h
    cases h2 : ilt 1500 (x.length : Int)
    · have hx : x.length ≤ 1500 := by rw [ilt_eq] at h2; have := of_decide_eq_false h2; omega
      unfold enOk at h1
      simp only [Bool.and_eq_true, Bool.not_eq_true'] at h1
      obtain ⟨hd, hs, ht⟩ := h1
      have l1 := isM_len hd
      have l2 := isM_len hs
      have hT : enT d s t x = d ++ (s ++ (n2 (t.setWidth 32) ++ (x ++ List.replicate (46 - x.length) 0))) := by
        unfold enT enOk
        rw [hd, hs, ht, h2]
        show d ++ s ++ n2 (t.setWidth 32) ++ x ++ List.replicate (46 - x.length) 0 = _
        simp only [List.append_assoc]
      rw [hT]
      have ln := n2_len (t.setWidth 32)
      have hlen : (d ++ (s ++ (n2 (t.setWidth 32) ++ (x ++ List.replicate (46 - x.length) 0)))).length = 14 + x.length + (46 - x.length) := by
        simp only [List.length_append, List.length_replicate]; omega
      have hk : kd (d ++ (s ++ (n2 (t.setWidth 32) ++ (x ++ List.replicate (46 - x.length) 0)))) = t := by
        unfold kd
        rw [← List.append_assoc d s, cut_mid (p := 12) (r := 14) (by rw [List.length_append]; omega) (by omega)]
        exact nm2 t
      have hB : dcB (d ++ (s ++ (n2 (t.setWidth 32) ++ (x ++ List.replicate (46 - x.length) 0)))) = true := by
        unfold dcB
        rw [hk, ht, hlen, ilt_no (by omega), ilt_no (by omega)]; rfl
      refine ⟨by omega, ?_, ?_, ?_, ?_, ?_, hx⟩
      · unfold dcE
        rw [hk, ht, hlen, ilt_no (by omega), ilt_no (by omega)]; rfl
      · unfold dc1
        rw [hB]
        exact take_l l1
      · unfold dc2
        rw [hB]
        exact cut_mid l1 (by omega)
      · unfold dc3
        rw [hB, hk]; rfl
      · unfold dc4
        rw [hB]
        show List.drop 14 _ = _
        rw [← List.append_assoc, ← List.append_assoc, List.drop_left' (by simp only [List.length_append]; omega)]
    · rw [h2] at h; cases h
theorem arT_reads {o : BitVec 16} {a : Tx} {u : BitVec 32} {b : Tx} {v : BitVec 32} (z : Tx) (h : arpOk isM o a b = true) : (arT o a u b v).length = 28 ∧ daE (arT o a u b v ++ z) = 0 ∧ da1 (arT o a u b v ++ z) = o ∧ da2 (arT o a u b v ++ z) = a ∧ da3 (arT o a u b v ++ z) = u ∧ da4 (arT o a u b v ++ z) = b ∧ da5 (arT o a u b v ++ z) = v := by
  obtain ⟨l1, l2⟩ := arp_lens h
  have l0 : HD.length = 6 := rfl
  have ln := n2_len (o.setWidth 32)
  have lu := n4_len u
  have lv := n4_len v
  have hA : arT o a u b v = HD ++ n2 (o.setWidth 32) ++ a ++ n4 u ++ b ++ n4 v := by unfold arT; rw [h]; rfl
  have hT : arT o a u b v ++ z = HD ++ (n2 (o.setWidth 32) ++ (a ++ (n4 u ++ (b ++ (n4 v ++ z))))) := by rw [hA]; simp only [List.append_assoc]
  have hlA : (arT o a u b v).length = 28 := by rw [hA]; simp only [List.length_append]; omega
  rw [hT]
  have g1 : ((HD ++ (n2 (o.setWidth 32) ++ (a ++ (n4 u ++ (b ++ (n4 v ++ z)))))).take 8).drop 6 = n2 (o.setWidth 32) := cut_mid l0 (by omega)
  have g2 : ((HD ++ (n2 (o.setWidth 32) ++ (a ++ (n4 u ++ (b ++ (n4 v ++ z)))))).take 14).drop 8 = a := by
    rw [← List.append_assoc HD]; exact cut_mid (by rw [List.length_append]; omega) (by omega)
  have g3 : ((HD ++ (n2 (o.setWidth 32) ++ (a ++ (n4 u ++ (b ++ (n4 v ++ z)))))).take 18).drop 14 = n4 u := by
    rw [← List.append_assoc HD, ← List.append_assoc (HD ++ _)]; exact cut_mid (by simp only [List.length_append]; omega) (by omega)
  have g4 : ((HD ++ (n2 (o.setWidth 32) ++ (a ++ (n4 u ++ (b ++ (n4 v ++ z)))))).take 24).drop 18 = b := by
    rw [← List.append_assoc HD, ← List.append_assoc (HD ++ _), ← List.append_assoc (HD ++ _ ++ _)]; exact cut_mid (by simp only [List.length_append]; omega) (by omega)
  have g5 : ((HD ++ (n2 (o.setWidth 32) ++ (a ++ (n4 u ++ (b ++ (n4 v ++ z)))))).take 28).drop 24 = n4 v := by
    rw [← List.append_assoc HD, ← List.append_assoc (HD ++ _), ← List.append_assoc (HD ++ _ ++ _), ← List.append_assoc (HD ++ _ ++ _ ++ _)]; exact cut_mid (by simp only [List.length_append]; omega) (by omega)
  have g0 : (HD ++ (n2 (o.setWidth 32) ++ (a ++ (n4 u ++ (b ++ (n4 v ++ z)))))).take 6 = HD := take_l l0
  have hlen : 28 ≤ (HD ++ (n2 (o.setWidth 32) ++ (a ++ (n4 u ++ (b ++ (n4 v ++ z)))))).length := by simp only [List.length_append]; omega
  generalize HD ++ (n2 (o.setWidth 32) ++ (a ++ (n4 u ++ (b ++ (n4 v ++ z))))) = T at g0 g1 g2 g3 g4 g5 hlen
  have hO : daO T = o := by unfold daO; rw [g1]; exact nm2 o
  have hG : daG T = true := by
    unfold daG daH
    rw [g0, hO, g2, g4, h]; rfl
  have hi : ilt (T.length : Int) 28 = false := ilt_no (by omega)
  have hB : daB T = true := by unfold daB; rw [hG, hi]; rfl
  refine ⟨hlA, ?_, ?_, ?_, ?_, ?_, ?_⟩
  · unfold daE; rw [hi, hG]; rfl
  · unfold da1; rw [hB]; exact hO
  · unfold da2; rw [hB]; exact g2
  · unfold da3; rw [hB, g3]; exact nm4 u
  · unfold da4; rw [hB]; exact g4
  · unfold da5; rw [hB, g5]; exact nm4 v
abbrev E4t : Env := E4 enT enE arT arE dc1 dc2 dc3 dc4 dcE da1 da2 da3 da4 da5 daE
theorem e4_ok : EnvOk Tryd.prog E4t := ⟨PT.add_ok (PT.add_ok (PT.add_ok (PT.add_ok (PT.add_ok t0_ok works_ok) enc_ok) earp_ok) dec_ok) darp_ok, noC_ok _ _⟩
/-- Behind the frame: the ARP. -/
theorem arp_part (AT : BitVec 16 → Tx → BitVec 32 → Tx → BitVec 32 → Tx) (AE : BitVec 16 → Tx → Tx → Int) (D1 : Tx → BitVec 16) (D2 : Tx → Tx) (D3 : Tx → BitVec 32) (D4 : Tx → Tx) (D5 : Tx → BitVec 32) (DE : Tx → Int) (o : BitVec 16) (a : Tx) (u : BitVec 32) (b : Tx) (v : BitVec 32) (z : Tx) (hz : z.length ≤ 1024)
    (h0 : AE o a b ≠ 0 → AT o a u b v = []) (h1 : AE o a b = 0 → (AT o a u b v).length = 28 ∧ DE (AT o a u b v ++ z) = 0 ∧ D1 (AT o a u b v ++ z) = o ∧ D2 (AT o a u b v ++ z) = a ∧ D3 (AT o a u b v ++ z) = u ∧ D4 (AT o a u b v ++ z) = b ∧ D5 (AT o a u b v ++ z) = v) :
    (bif AE o a b != 0 then
      bif AT o a u b v == bts { data := #[] } then SV.b (bif true then true else false) = SV.b true else SV.b false = SV.b true
    else
      bif ile (((AT o a u b v).length + z.length : Nat) : Int) 9223372036854775807 then
        bif (AT o a u b v ++ z).length.ble 4294967296 then
          bif DE (AT o a u b v ++ z) == 0 then
            bif bif true then bif false then !(D1 (AT o a u b v ++ z) == o && (D2 (AT o a u b v ++ z) == a && (D3 (AT o a u b v ++ z) == u && (D4 (AT o a u b v ++ z) == b && (D5 (AT o a u b v ++ z) == v && true))))) else D1 (AT o a u b v ++ z) == o && (D2 (AT o a u b v ++ z) == a && (D3 (AT o a u b v ++ z) == u && (D4 (AT o a u b v ++ z) == b && (D5 (AT o a u b v ++ z) == v && true)))) else false then
              SV.b (bif true then true else false) = SV.b true
            else SV.b false = SV.b true
          else SV.b false = SV.b true
        else False
      else False) := by
  by_cases h : AE o a b = 0
  · obtain ⟨q0, q1, q2, q3, q4, q5, q6⟩ := h1 h
    have hne : (AE o a b != 0) = false := by rw [h]; rfl
    rw [hne]
    refine bif_of (ile_of (by rw [q0]; omega)) (bif_of (ble_of (by rw [List.length_append, q0]; omega)) ?_)
    rw [q1, q2, q3, q4, q5, q6]
    simp only [beq_self_eq_true, Bool.and_self, Bool.and_true, cond_true, cond_false]
  · have hne : (AE o a b != 0) = true := by
      unfold bne
      cases hb : AE o a b == 0
      · rfl
      · exact absurd (eq_of_beq hb) h
    rw [hne, h0 h]
    rfl
theorem getD_zeros (x : Tx) (n i : Nat) (h : x.length ≤ i) : (x ++ List.replicate n (0 : BitVec 8)).getD i 0 = 0 := by
  rw [List.getD_eq_getElem?_getD, List.getElem?_append_right h]
  rcases Nat.lt_or_ge (i - x.length) n with q | q
  · rw [List.getElem?_replicate, if_pos q]; rfl
  · rw [List.getElem?_eq_none (by rw [List.length_replicate]; exact q)]; rfl
theorem loopB (d s : Tx) (t : BitVec 16) (x : Tx) (o : BitVec 16) (a : Tx) (u : BitVec 32) (b : Tx) (v : BitVec 32) (y1 y2 : Tx) (y3 : BitVec 16) (z : Tx) (hx : x.length ≤ 1500) : LOk Tryd.prog G G 4 (LB d s t x o a u b v y1 y2 y3 (x ++ List.replicate (46 - x.length) 0) z) := by
  refine LT.add_ok (noL_ok _ _ _ _) (loop_next e0_ok mixed (noL_ok _ _ _ _) (Nat.le_refl _) (by kernel_rfl) (fun i => iB z i) (fun _ => mB d s t x o a u b v y1 y2 y3 (x ++ List.replicate (46 - x.length) 0)) (fun i => x.length ≤ i) (fun i => (x ++ List.replicate (46 - x.length) (0 : BitVec 8)).length - i) (fun i => i + 1) x.length (Nat.le_refl _) (fun i hp => of_eq (rB d s t x o a u b v y1 y2 y3 (x ++ List.replicate (46 - x.length) 0) z i _) ?_))
  have hl : (x ++ List.replicate (46 - x.length) (0 : BitVec 8)).length ≤ 2000 := by simp only [List.length_append, List.length_replicate]; omega
  cases hc : ilt (i : Int) ((x ++ List.replicate (46 - x.length) (0 : BitVec 8)).length : Int)
  · exact ⟨rfl, rfl, rfl, rfl, ⟨rfl, rfl⟩, ⟨rfl, rfl⟩, ⟨rfl, rfl⟩, ⟨rfl, rfl⟩, trivial⟩
  · have hi := of_ilt hc
    refine bif_of (inRn hi (by omega)) ?_
    rw [getD_zeros x _ i hp]
    exact bif_of (inI_iff.2 (by omega)) ⟨⟨by omega, by omega⟩, rfl, rfl, rfl, rfl, rfl, ⟨rfl, rfl⟩, ⟨rfl, rfl⟩, ⟨rfl, rfl⟩, ⟨rfl, rfl⟩, trivial⟩
theorem loopB0 (d s : Tx) (t : BitVec 16) (x : Tx) (o : BitVec 16) (a : Tx) (u : BitVec 32) (b : Tx) (v : BitVec 32) (y1 y2 : Tx) (y3 : BitVec 16) (z : Tx) : LOk Tryd.prog G G 4 (LB d s t x o a u b v y1 y2 y3 [] z) := by
  refine LT.add_ok (noL_ok _ _ _ _) (loop_next e0_ok mixed (noL_ok _ _ _ _) (Nat.le_refl _) (by kernel_rfl) (fun i => iB z i) (fun _ => mB d s t x o a u b v y1 y2 y3 []) (fun _ => True) (fun _ => 0) (fun i => i + 1) x.length trivial (fun i hp => of_eq (rB d s t x o a u b v y1 y2 y3 [] z i _) ?_))
  have hc : ilt (i : Int) (([] : Tx).length : Int) = false := ilt_no (by simp)
  rw [hc]
  exact ⟨rfl, rfl, rfl, rfl, ⟨rfl, rfl⟩, ⟨rfl, rfl⟩, ⟨rfl, rfl⟩, ⟨rfl, rfl⟩, trivial⟩
theorem law4_gen (ET : Tx → Tx → BitVec 16 → Tx → Tx) (EE : Tx → Tx → BitVec 16 → Tx → Int) (AT : BitVec 16 → Tx → BitVec 32 → Tx → BitVec 32 → Tx) (AE : BitVec 16 → Tx → Tx → Int) (C1 C2 : Tx → Tx) (C3 : Tx → BitVec 16) (C4 : Tx → Tx) (CE : Tx → Int) (D1 : Tx → BitVec 16) (D2 : Tx → Tx) (D3 : Tx → BitVec 32) (D4 : Tx → Tx) (D5 : Tx → BitVec 32) (DE : Tx → Int) (d s x z a b : Tx) (t o : BitVec 16) (u v : BitVec 32) (hd : d.length ≤ 140737488355328) (hs : s.length ≤ 140737488355328) (ha : a.length ≤ 140737488355328) (hb : b.length ≤ 140737488355328)
    (hE : EE d s t x = 0 → (ET d s t x).length ≤ 2000 ∧ CE (ET d s t x) = 0 ∧ C1 (ET d s t x) = d ∧ C2 (ET d s t x) = s ∧ C3 (ET d s t x) = t ∧ C4 (ET d s t x) = x ++ List.replicate (46 - x.length) 0 ∧ x.length ≤ 1500)
    (h0 : AE o a b ≠ 0 → AT o a u b v = []) (h1 : AE o a b = 0 → (AT o a u b v).length = 28 ∧ DE (AT o a u b v ++ z) = 0 ∧ D1 (AT o a u b v ++ z) = o ∧ D2 (AT o a u b v ++ z) = a ∧ D3 (AT o a u b v ++ z) = u ∧ D4 (AT o a u b v ++ z) = b ∧ D5 (AT o a u b v ++ z) = v) :
    vf Tryd.prog (E4 ET EE AT AE C1 C2 C3 C4 CE D1 D2 D3 D4 D5 DE) (LB d s t x o a u b v (C1 (ET d s t x)) (C2 (ET d s t x)) (C3 (ET d s t x)) (C4 (ET d s t x)) z) 4 [.agg [.s d, .s s, .w16 t, .s x], .agg [.w16 o, .s a, .w32 u, .s b, .w32 v], .s z] G (fun r _ => r = .b true) := by
  refine of_eq (v4 ET EE AT AE C1 C2 C3 C4 CE D1 D2 D3 D4 D5 DE d s x z a b t o u v _) ?_
  refine bif_of (inI_iff.2 (by omega)) (bif_of (inI_iff.2 (by omega)) (bif_of (inI_iff.2 (by omega)) ?_))
  cases q1 : ilt 1024 ((d.length : Int) + (s.length : Int) + (a.length : Int) + (b.length : Int))
  · show bif bif false then true else ilt 8192 (x.length : Int) then _ else _
    cases q2 : ilt 8192 (x.length : Int)
    · show bif bif false then true else ilt 1024 (z.length : Int) then _ else _
      cases q3 : ilt 1024 (z.length : Int)
      · have hz : z.length ≤ 1024 := by
          rw [ilt_eq] at q3
          have := of_decide_eq_false q3
          omega
        have hA := arp_part AT AE D1 D2 D3 D4 D5 DE o a u b v z hz h0 h1
        by_cases hq : EE d s t x = 0
        · obtain ⟨e1, e2, e3, e4, e5, e6, e7⟩ := hE hq
          rw [hq]
          refine bif_of (b := Nat.ble (ET d s t x).length 4294967296) (ble_of (by omega)) ?_
          rw [e2, e3, e4, e5, e6]
          show bif bif false then true else !d == d then _ else _
          rw [beq_self_eq_true]
          show bif bif false then true else !s == s then _ else _
          rw [beq_self_eq_true]
          show bif bif false then true else t != t then _ else _
          rw [bne_self_eq_false]
          have hl : (x ++ List.replicate (46 - x.length) (0 : BitVec 8)).length = x.length + (46 - x.length) := by simp only [List.length_append, List.length_replicate]
          have hm : (bif ilt (x.length : Int) 46 then 46 else (x.length : Int)) = ((x.length + (46 - x.length) : Nat) : Int) := by
            cases hc : ilt (x.length : Int) 46
            · rw [ilt_eq] at hc
              have := of_decide_eq_false hc
              show (x.length : Int) = _
              omega
            · rw [ilt_eq] at hc
              have := of_decide_eq_true hc
              show (46 : Int) = _
              omega
          show bif bif false then true else ((x ++ List.replicate (46 - x.length) (0 : BitVec 8)).length : Int) != (bif ilt (x.length : Int) 46 then 46 else (x.length : Int)) then _ else _
          rw [hm, hl, bne_self_eq_false]
          refine bif_of (b := ile (x.length : Int) ((x.length + (46 - x.length) : Nat) : Int)) (ile_of (by omega)) ?_
          have ht : List.drop 0 (List.take x.length (x ++ List.replicate (46 - x.length) (0 : BitVec 8))) = x := take_l rfl
          show bif bif false then true else !List.drop 0 (List.take x.length (x ++ List.replicate (46 - x.length) (0 : BitVec 8))) == x then _ else _
          rw [ht, beq_self_eq_true]
          exact ⟨rfl, rfl, rfl, rfl, rfl, rfl, ⟨rfl, rfl⟩, ⟨rfl, rfl⟩, ⟨rfl, rfl⟩, ⟨rfl, rfl⟩, hA⟩
        · have hb : (EE d s t x == 0) = false := by rw [beq_eq_false_iff_ne]; exact hq
          rw [hb]
          exact hA
      · rfl
    · rfl
  · rfl
theorem law4_ok (d s x z a b : Tx) (t o : BitVec 16) (u v : BitVec 32) (hd : d.length ≤ 140737488355328) (hs : s.length ≤ 140737488355328) (ha : a.length ≤ 140737488355328) (hb : b.length ≤ 140737488355328) : Spec Tryd.prog G 4 [.agg [.s d, .s s, .w16 t, .s x], .agg [.w16 o, .s a, .w32 u, .s b, .w32 v], .s z] G (fun r _ => r = .b true) := by
  have h0 : arE o a b ≠ 0 → arT o a u b v = [] := fun h => by
    unfold arE at h
    unfold arT
    cases hc : arpOk isM o a b
    · rfl
    · rw [hc] at h; exact absurd rfl h
  have h1 : arE o a b = 0 → arpOk isM o a b = true := fun h => by
    unfold arE at h
    cases hc : arpOk isM o a b
    · rw [hc] at h; cases h
    · rfl
  have hL : LOk Tryd.prog G G 4 (LB d s t x o a u b v (dc1 (enT d s t x)) (dc2 (enT d s t x)) (dc3 (enT d s t x)) (dc4 (enT d s t x)) z) := by
    by_cases hq : enE d s t x = 0
    · obtain ⟨e1, e2, e3, e4, e5, e6, e7⟩ := enT_reads hq
      rw [e6]
      exact loopB d s t x o a u b v _ _ _ z e7
    · have e0 : enT d s t x = [] := by
        unfold enE at hq
        unfold enT
        cases hc : enOk d s t
        · rfl
        · rw [hc] at hq
          cases hi : ilt 1500 (x.length : Int)
          · rw [hi] at hq; exact absurd rfl hq
          · rfl
      have e6 : dc4 (enT d s t x) = [] := by rw [e0]; rfl
      rw [e6]
      exact loopB0 d s t x o a u b v _ _ _ z
  exact vf_ok e4_ok mixed hL (law4_gen _ _ _ _ _ _ _ _ _ _ _ _ _ _ _ d s x z a b t o u v hd hs ha hb enT_reads h0 (fun h => arT_reads z (h1 h)))
end Go.Proofs.YtedcileokcbohaaDoor
