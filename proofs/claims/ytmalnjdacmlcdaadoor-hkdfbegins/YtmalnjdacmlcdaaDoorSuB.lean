/-
  sum: the words of a block, and the words behind one more block, as the program reckons them. No statement is proved here.
-/
import Derived.Test.YtmalnjdacmlcdaaDoorVcV
namespace Go.Proofs.YtmalnjdacmlcdaaDoor
open Go.RowKit
set_option linter.unusedVariables false
set_option linter.unusedSimpArgs false
set_option maxRecDepth 100000

/-- A word of bytes, the highest first. -/
def be (l : List (BitVec 8)) : BitVec 32 := l.foldl (fun a x => a <<< 8 ||| x.setWidth 32) 0
def B38 (l : List (BitVec 8)) : Mm := [⟨false, .a32 H0⟩, ⟨false, .a32 K64⟩, ⟨false, .a8 l⟩]
theorem vc38 (l : List (BitVec 8)) (off len cap : Nat) (K : SV → Mm → Prop) : (vf Tryd.prog E2 noL 52 [.sl 2 off len cap] (B38 l) K) = (bif inR 0 len then bif (0 + off).blt l.length then bif inR 1 len then bif (1 + off).blt l.length then bif inR 2 len then bif (2 + off).blt l.length then bif inR 3 len then bif (3 + off).blt l.length then K (SV.w32 (BitVec.setWidth 32 (l.getD (0 + off) 0) <<< 24 ||| BitVec.setWidth 32 (l.getD (1 + off) 0) <<< 16 ||| BitVec.setWidth 32 (l.getD (2 + off) 0) <<< 8 ||| BitVec.setWidth 32 (l.getD (3 + off) 0))) [{ rw := false, c := Cont.a32 H0 }, { rw := false, c := Cont.a32 K64 }, { rw := false, c := Cont.a8 l }] else False else False else False else False else False else False else False else False) := by kernel_rfl
def cUnpack : List SV → List Cont → Option (Bool × SV)
  | [.sl k off len cap], [.a8 l] => some (Nat.ble 4 len && Nat.ble (off + 4) l.length, .w32 (be ((l.drop off).take 4)))
  | _, _ => none
theorem a8_ren (l : List (BitVec 8)) (σ : Nat → Nat) : (Cont.a8 l).ren σ = .a8 l := rfl
theorem take4 (l : List (BitVec 8)) (off : Nat) (h : off + 4 ≤ l.length) : (l.drop off).take 4 = [l.getD (0 + off) 0, l.getD (1 + off) 0, l.getD (2 + off) 0, l.getD (3 + off) 0] := by
  apply List.ext_getElem?
  intro k
  have hl : ((l.drop off).take 4).length = 4 := by simp; omega
  match k with
  | 0 | 1 | 2 | 3 =>
    rw [List.getElem?_take_of_lt (by omega), List.getElem?_drop]
    first
      | rw [getD_get 0 (show off + 0 < l.length by omega), Nat.add_comm]; rfl
      | rw [getD_get 0 (show off + 1 < l.length by omega), Nat.add_comm]; rfl
      | rw [getD_get 0 (show off + 2 < l.length by omega), Nat.add_comm]; rfl
      | rw [getD_get 0 (show off + 3 < l.length by omega), Nat.add_comm]; rfl
  | k + 4 => rw [List.getElem?_eq_none (by omega), List.getElem?_eq_none (by simp)]
theorem be4 (a b c d : BitVec 8) : be [a, b, c, d] = a.setWidth 32 <<< 24 ||| b.setWidth 32 <<< 16 ||| c.setWidth 32 <<< 8 ||| d.setWidth 32 := by
  unfold be
  simp only [List.foldl_cons, List.foldl_nil, BitVec.shiftLeft_or_distrib, ← BitVec.shiftLeft_add]
  simp
theorem unpack_ok : POk Tryd.prog G 52 cUnpack := by
  intro args acs r h β M w hR hw ha
  unfold cUnpack at h
  split at h
  · rename_i k off len cap l
    simp only [Option.some.injEq, Prod.mk.injEq, Bool.and_eq_true] at h
    obtain ⟨⟨h1, h2⟩, rfl⟩ := h
    have h1 := Nat.le_of_ble_eq_true h1
    have h2 := Nat.le_of_ble_eq_true h2
    simp only [List.map_cons, List.map_nil, List.cons.injEq, and_true] at ha
    refine pure1 (args0 := [.sl 2 off len cap]) (c := .a8 l) (k := k) (vf_ok (M := B38 l) e2_ok mixed (noL_ok _ _ _ _) (of_eq (vc38 l off len cap _) ?_)) rfl rfl rfl rfl rfl (a8_ren l) hR (tgt_some ha.symm rfl)
    refine bif_of (inR_iff.2 (by omega)) (bif_of (blt_of (by omega)) (bif_of (inR_iff.2 (by omega)) (bif_of (blt_of (by omega)) (bif_of (inR_iff.2 (by omega)) (bif_of (blt_of (by omega)) (bif_of (inR_iff.2 (by omega)) (bif_of (blt_of (by omega)) ?_)))))))
    rw [take4 l off h2, be4]
  · cases h
def T3 : PT := T2.add 52 cUnpack
def E3 : Env := ⟨G, T3, C2⟩
theorem e3_ok : EnvOk Tryd.prog E3 := ⟨PT.add_ok e2_ok.T unpack_ok, e2_ok.C⟩
/-- The two sums of turned words, and the next word of a row. -/
def s0 (x : BitVec 32) : BitVec 32 := rl x (-7) ^^^ rl x (-18) ^^^ x >>> 3
def s1 (x : BitVec 32) : BitVec 32 := rl x (-17) ^^^ rl x (-19) ^^^ x >>> 10
def nw (l : List (BitVec 32)) (i : Nat) : BitVec 32 := l.getD (i - 16) 0 + s0 (l.getD (i - 15) 0) + l.getD (i - 7) 0 + s1 (l.getD (i - 2) 0)
def w16 (b : List (BitVec 8)) : List (BitVec 32) := (List.range 16).map fun k => be ((b.drop (4 * k)).take 4)
def ext32 : Nat → List (BitVec 32) → List (BitVec 32)
  | 0, l => l
  | n + 1, l => ext32 n l ++ [nw (ext32 n l) (ext32 n l).length]
def wa (b : List (BitVec 8)) (j : Nat) : List (BitVec 32) := (w16 b).take j ++ List.replicate (64 - j) 0
def wb (b : List (BitVec 8)) (j : Nat) : List (BitVec 32) := ext32 (j - 16) (w16 b) ++ List.replicate (64 - j) 0
def M34 (l : List (BitVec 8)) (w : List (BitVec 32)) : Mm := [⟨false, .a32 H0⟩, ⟨false, .a32 K64⟩, ⟨false, .a8 l⟩, ⟨true, .a32 (List.replicate 64 0)⟩, ⟨true, .a32 w⟩]
def p34 (off cap : Nat) : List (Nat × SV) := [(0, .sl 2 off 64 cap), (2, .ptr 3 0), (3, .ptr 4 0)]
def q34 : List (Nat × SV) := [(2, .ptr 3 0), (3, .ptr 4 0)]
def L34 (l : List (BitVec 8)) (off cap : Nat) : LT := (noL.add 0 (vLoop (B38 l) 67 ((10, .i 0) :: p34 off cap) (M34 l (wa (l.drop off) 0)) q34 (M34 l (wa (l.drop off) 16)))).add 2 (vLoop (B38 l) 67 ((5, .i 16) :: q34) (M34 l (wb (l.drop off) 16)) q34 (M34 l (wb (l.drop off) 64)))
theorem vc34 (l : List (BitVec 8)) (off cap : Nat) (K : SV → Mm → Prop) : (vf Tryd.prog E3 (L34 l off cap) 47 [.sl 2 off 64 cap] (B38 l) K) = (loopOf Tryd.prog 47 0 = loopOf Tryd.prog 47 0 ∧ SV.sl 2 off 64 cap = SV.sl 2 off 64 cap ∧ SV.ptr (List.length (B38 l)) 0 = SV.ptr 3 0 ∧ SV.ptr (0 + 1 + 1 + 1 + 1) 0 = SV.ptr 4 0 ∧ SV.i 0 = SV.i 0 ∧ (false = false ∧ Cont.a32 H0 = Cont.a32 H0) ∧ (false = false ∧ Cont.a32 K64 = Cont.a32 K64) ∧ (false = false ∧ Cont.a8 l = Cont.a8 l) ∧ (true = true ∧ Cont.a32 (List.replicate 64 0) = Cont.a32 (List.replicate 64 0)) ∧ (true = true ∧ Cont.a32 (List.replicate 64 0) = Cont.a32 (wa (List.drop off l) 0)) ∧ loopOf Tryd.prog 47 2 = loopOf Tryd.prog 47 2 ∧ SV.ptr 3 0 = SV.ptr 3 0 ∧ SV.ptr 4 0 = SV.ptr 4 0 ∧ SV.i 16 = SV.i 16 ∧ (false = false ∧ Cont.a32 H0 = Cont.a32 H0) ∧ (false = false ∧ Cont.a32 K64 = Cont.a32 K64) ∧ (false = false ∧ Cont.a8 l = Cont.a8 l) ∧ (true = true ∧ Cont.a32 (List.replicate 64 0) = Cont.a32 (List.replicate 64 0)) ∧ (true = true ∧ Cont.a32 (wa (List.drop off l) 16) = Cont.a32 (wb (List.drop off l) 16)) ∧ K (SV.a32 (wb (List.drop off l) 64)) [{ rw := false, c := Cont.a32 H0 }, { rw := false, c := Cont.a32 K64 }, { rw := false, c := Cont.a8 l }, { rw := true, c := Cont.a32 (wb (List.drop off l) 64) }, { rw := true, c := Cont.a32 (wb (List.drop off l) 64) }]) := by kernel_rfl
theorem vr34a (l : List (BitVec 8)) (w w' z : List (BitVec 32)) (off cap j : Nat) (a : Prop) : (frK 67 ((10, .i (j : Nat)) :: p34 off cap) fun fr => vround Tryd.prog E3 noL 47 0 fr (M34 l w) (Kn (B38 l) 0 67 a ((10, .i ((j + 1 : Nat) : Int)) :: p34 off cap) (M34 l w') q34 (M34 l z))) = (bif ilt (↑j : Int) 16 then bif inI (4 * (↑j : Int)) then bif ile (4 * (↑j : Int)) (↑64 : Int) && ile (↑64 : Int) (↑cap : Int) && ilt (4 * (↑j : Int)) (↑cap : Int) then bif Nat.ble 4 (64 - (4 * (↑j : Int)).toNat) && ((4 * (↑j : Int)).toNat + off + 4).ble l.length then bif inR (↑j : Int) 64 then bif j.blt w.length then bif inI ((↑j : Int) + 1) then a ∧ SV.sl 2 off 64 cap = SV.sl 2 off 64 cap ∧ SV.ptr 3 0 = SV.ptr 3 0 ∧ SV.ptr 4 0 = SV.ptr 4 0 ∧ SV.i ((↑j : Int) + 1) = SV.i (↑(j + 1) : Int) ∧ (false = false ∧ Cont.a32 H0 = Cont.a32 H0) ∧ (false = false ∧ Cont.a32 K64 = Cont.a32 K64) ∧ (false = false ∧ Cont.a8 l = Cont.a8 l) ∧ (true = true ∧ Cont.a32 (List.replicate 64 0) = Cont.a32 (List.replicate 64 0)) ∧ (true = true ∧ Cont.a32 (w.set j (be (List.take 4 (List.drop ((4 * (↑j : Int)).toNat + off) l)))) = Cont.a32 w') ∧ True else False else False else False else False else False else False else 0 = 0 ∧ SV.ptr 3 0 = SV.ptr 3 0 ∧ SV.ptr 4 0 = SV.ptr 4 0 ∧ (false = false ∧ Cont.a32 H0 = Cont.a32 H0) ∧ (false = false ∧ Cont.a32 K64 = Cont.a32 K64) ∧ (false = false ∧ Cont.a8 l = Cont.a8 l) ∧ (true = true ∧ Cont.a32 (List.replicate 64 0) = Cont.a32 (List.replicate 64 0)) ∧ (true = true ∧ Cont.a32 w = Cont.a32 z) ∧ True) := by kernel_rfl
theorem vr34b (l : List (BitVec 8)) (w w' z : List (BitVec 32)) (j : Nat) (a : Prop) : (frK 67 ((5, .i (j : Nat)) :: q34) fun fr => vround Tryd.prog E3 noL 47 2 fr (M34 l w) (Kn (B38 l) 2 67 a ((5, .i ((j + 1 : Nat) : Int)) :: q34) (M34 l w') q34 (M34 l z))) = (bif ilt (↑j : Int) 64 then bif inI ((↑j : Int) - 15) then bif inR ((↑j : Int) - 15) 64 then bif ((↑j : Int) - 15).toNat.blt w.length then bif inI ((↑j : Int) - 2) then bif inR ((↑j : Int) - 2) 64 then bif ((↑j : Int) - 2).toNat.blt w.length then bif inI ((↑j : Int) - 16) then bif inR ((↑j : Int) - 16) 64 then bif ((↑j : Int) - 16).toNat.blt w.length then bif inI ((↑j : Int) - 7) then bif inR ((↑j : Int) - 7) 64 then bif ((↑j : Int) - 7).toNat.blt w.length then bif inR (↑j : Int) 64 then bif j.blt w.length then bif inI ((↑j : Int) + 1) then a ∧ SV.ptr 3 0 = SV.ptr 3 0 ∧ SV.ptr 4 0 = SV.ptr 4 0 ∧ SV.i ((↑j : Int) + 1) = SV.i (↑(j + 1) : Int) ∧ (false = false ∧ Cont.a32 H0 = Cont.a32 H0) ∧ (false = false ∧ Cont.a32 K64 = Cont.a32 K64) ∧ (false = false ∧ Cont.a8 l = Cont.a8 l) ∧ (true = true ∧ Cont.a32 (List.replicate 64 0) = Cont.a32 (List.replicate 64 0)) ∧ (true = true ∧ Cont.a32 (w.set j (w.getD ((↑j : Int) - 16).toNat 0 + (rl (w.getD ((↑j : Int) - 15).toNat 0) (-7) ^^^ rl (w.getD ((↑j : Int) - 15).toNat 0) (-18) ^^^ w.getD ((↑j : Int) - 15).toNat 0 >>> 3) + w.getD ((↑j : Int) - 7).toNat 0 + (rl (w.getD ((↑j : Int) - 2).toNat 0) (-17) ^^^ rl (w.getD ((↑j : Int) - 2).toNat 0) (-19) ^^^ w.getD ((↑j : Int) - 2).toNat 0 >>> 10))) = Cont.a32 w') ∧ True else False else False else False else False else False else False else False else False else False else False else False else False else False else False else False else 2 = 2 ∧ SV.ptr 3 0 = SV.ptr 3 0 ∧ SV.ptr 4 0 = SV.ptr 4 0 ∧ (false = false ∧ Cont.a32 H0 = Cont.a32 H0) ∧ (false = false ∧ Cont.a32 K64 = Cont.a32 K64) ∧ (false = false ∧ Cont.a8 l = Cont.a8 l) ∧ (true = true ∧ Cont.a32 (List.replicate 64 0) = Cont.a32 (List.replicate 64 0)) ∧ (true = true ∧ Cont.a32 w = Cont.a32 z) ∧ True) := by kernel_rfl
theorem fill_set (X : List (BitVec 32)) (j n : Nat) (v : BitVec 32) (hX : X.length = j) (hj : j < n) : (X ++ List.replicate (n - j) 0).set j v = X ++ [v] ++ List.replicate (n - (j + 1)) 0 := by
  subst hX
  obtain ⟨k, hk⟩ : ∃ k, n - X.length = k + 1 := ⟨n - X.length - 1, by omega⟩
  rw [List.set_append_right _ _ (Nat.le_refl _), Nat.sub_self, hk, List.replicate_succ, List.set_cons_zero, show n - (X.length + 1) = k by omega]
  simp
theorem w16_len (b : List (BitVec 8)) : (w16 b).length = 16 := by simp [w16]
theorem ext_len (n : Nat) (l : List (BitVec 32)) : (ext32 n l).length = l.length + n := by
  induction n with
  | zero => rfl
  | succ n ih => simp [ext32, ih]; omega
theorem wa_len (b : List (BitVec 8)) (j : Nat) (h : j ≤ 16) : (wa b j).length = 64 := by simp [wa, w16_len]; omega
theorem wb_len (b : List (BitVec 8)) (j : Nat) (h : 16 ≤ j) (h2 : j ≤ 64) : (wb b j).length = 64 := by simp [wb, ext_len, w16_len]; omega
theorem wa_set (b : List (BitVec 8)) (j : Nat) (h : j < 16) : (wa b j).set j (be ((b.drop (4 * j)).take 4)) = wa b (j + 1) := by
  unfold wa
  have e : (w16 b).take (j + 1) = (w16 b).take j ++ [be ((b.drop (4 * j)).take 4)] := by
    rw [List.take_add_one]
    congr 1
    simp [w16, h]
  rw [fill_set _ j 64 _ (by simp [w16_len]; omega) (by omega), e]
theorem getD_left (X Y : List (BitVec 32)) (k : Nat) (h : k < X.length) : (X ++ Y).getD k 0 = X.getD k 0 := by
  rw [List.getD_eq_getElem?_getD, List.getElem?_append_left h, ← List.getD_eq_getElem?_getD]
theorem wb_set (b : List (BitVec 8)) (j : Nat) (h : 16 ≤ j) (h2 : j < 64) : (wb b j).set j (nw (wb b j) j) = wb b (j + 1) := by
  have hl : (ext32 (j - 16) (w16 b)).length = j := by rw [ext_len, w16_len]; omega
  have en : nw (wb b j) j = nw (ext32 (j - 16) (w16 b)) j := by
    unfold nw wb
    rw [getD_left _ _ _ (by omega), getD_left _ _ _ (by omega), getD_left _ _ _ (by omega), getD_left _ _ _ (by omega)]
  rw [en]
  unfold wb
  rw [fill_set _ j 64 _ hl h2, show j + 1 - 16 = j - 16 + 1 by omega, ext32, hl]
theorem wb16 (b : List (BitVec 8)) : wa b 16 = wb b 16 := by
  unfold wa wb
  rw [List.take_of_length_le (by rw [w16_len]; exact Nat.le_refl _)]
  rfl
theorem wb64 (b : List (BitVec 8)) : wb b 64 = ext32 48 (w16 b) := by simp [wb]
theorem loop34a (l : List (BitVec 8)) (off cap : Nat) (hc : 64 ≤ cap) (hl : off + 64 ≤ l.length) : ∀ fr M K, vLoop (B38 l) 67 ((10, .i 0) :: p34 off cap) (M34 l (wa (l.drop off) 0)) q34 (M34 l (wa (l.drop off) 16)) fr M K → Wp Tryd.prog G (B38 l) (loopOf Tryd.prog 47 0) fr M K := by
  refine loop_next e3_ok mixed (noL_ok _ _ _ _) (by show 2 ≤ 3; decide) (by kernel_rfl) (fun j => (10, .i (j : Nat)) :: p34 off cap) (fun j => M34 l (wa (l.drop off) j)) (fun j => j ≤ 16) (fun j => 16 - j) (fun j => j + 1) 0 (Nat.zero_le _) fun j hj => of_eq (vr34a l _ _ _ off cap j _) ?_
  cases hcc : ilt (j : Int) 16
  · have hj2 : j = 16 := by rw [ilt_eq] at hcc; have := of_decide_eq_false hcc; omega
    subst hj2
    simp
  · have hj2 : j < 16 := by rw [ilt_eq] at hcc; have := of_decide_eq_true hcc; omega
    have e : (4 * (j : Int)).toNat = 4 * j := by omega
    have h2 := wa_set (l.drop off) j hj2
    rw [List.drop_drop, Nat.add_comm off] at h2
    rw [e, h2, wa_len _ j hj]
    refine bif_of (inI_iff.2 (by omega)) (bif_of ?_ (bif_of ?_ (bif_of (inR_nat (by omega)) (bif_of (blt_of (by omega)) (bif_of (inI_iff.2 (by omega)) ?_)))))
    · simp [ile_eq, ilt_eq]; omega
    · rw [Bool.and_eq_true]; exact ⟨Nat.ble_eq_true_of_le (by omega), Nat.ble_eq_true_of_le (by omega)⟩
    · refine ⟨⟨by omega, by omega⟩, ?_⟩
      simp
theorem loop34b (l b : List (BitVec 8)) : ∀ fr M K, vLoop (B38 l) 67 ((5, .i 16) :: q34) (M34 l (wb b 16)) q34 (M34 l (wb b 64)) fr M K → Wp Tryd.prog G (B38 l) (loopOf Tryd.prog 47 2) fr M K := by
  refine loop_next e3_ok mixed (noL_ok _ _ _ _) (by show 2 ≤ 3; decide) (by kernel_rfl) (fun j => (5, .i (j : Nat)) :: q34) (fun j => M34 l (wb b j)) (fun j => 16 ≤ j ∧ j ≤ 64) (fun j => 64 - j) (fun j => j + 1) 16 (by decide) fun j hj => of_eq (vr34b l _ _ _ j _) ?_
  cases hc : ilt (j : Int) 64
  · have hj2 : j = 64 := by rw [ilt_eq] at hc; have := of_decide_eq_false hc; omega
    subst hj2
    simp
  · have hj2 : j < 64 := by rw [ilt_eq] at hc; have := of_decide_eq_true hc; omega
    have e15 : ((j : Int) - 15).toNat = j - 15 := by omega
    have e2 : ((j : Int) - 2).toNat = j - 2 := by omega
    have e16 : ((j : Int) - 16).toNat = j - 16 := by omega
    have e7 : ((j : Int) - 7).toNat = j - 7 := by omega
    have hn := wb_set b j hj.1 hj2
    unfold nw s0 s1 at hn
    rw [e15, e2, e16, e7, hn, wb_len b j hj.1 hj.2]
    refine bif_of (inI_iff.2 (by omega)) (bif_of (inR_iff.2 (by omega)) (bif_of (blt_of (by omega)) (bif_of (inI_iff.2 (by omega)) (bif_of (inR_iff.2 (by omega)) (bif_of (blt_of (by omega)) (bif_of (inI_iff.2 (by omega)) (bif_of (inR_iff.2 (by omega)) (bif_of (blt_of (by omega)) (bif_of (inI_iff.2 (by omega)) (bif_of (inR_iff.2 (by omega)) (bif_of (blt_of (by omega)) (bif_of (inR_nat (by omega)) (bif_of (blt_of (by omega)) (bif_of (inI_iff.2 (by omega)) ?_))))))))))))))
    refine ⟨⟨by omega, by omega⟩, ?_⟩
    simp
theorem loop34 (l : List (BitVec 8)) (off cap : Nat) (hc : 64 ≤ cap) (hl : off + 64 ≤ l.length) : LOk Tryd.prog G (B38 l) 47 (L34 l off cap) :=
  LT.add_ok (LT.add_ok (noL_ok _ _ _ _) (loop34a l off cap hc hl)) (loop34b l (l.drop off))
def cSpread : List SV → List Cont → Option (Bool × SV)
  | [.sl k off len cap], [.a8 l] => some (Nat.beq len 64 && (Nat.ble 64 cap && Nat.ble (off + 64) l.length), .a32 (ext32 48 (w16 (l.drop off))))
  | _, _ => none
theorem spread_ok : POk Tryd.prog G 47 cSpread := by
  intro args acs r h β M w hR hw ha
  unfold cSpread at h
  split at h
  · rename_i k off len cap l
    simp only [Option.some.injEq, Prod.mk.injEq, Bool.and_eq_true] at h
    obtain ⟨⟨h1, h2, h3⟩, rfl⟩ := h
    obtain rfl := Nat.eq_of_beq_eq_true h1
    have h2 := Nat.le_of_ble_eq_true h2
    have h3 := Nat.le_of_ble_eq_true h3
    simp only [List.map_cons, List.map_nil, List.cons.injEq, and_true] at ha
    refine pure1 (args0 := [.sl 2 off 64 cap]) (c := .a8 l) (k := k) (vf_ok (M := B38 l) e3_ok mixed (loop34 l off cap h2 h3) (of_eq (vc34 l off cap _) ?_)) rfl rfl rfl rfl rfl (a8_ren l) hR (tgt_some ha.symm rfl)
    refine ⟨rfl, rfl, rfl, rfl, rfl, ⟨rfl, rfl⟩, ⟨rfl, rfl⟩, ⟨rfl, rfl⟩, ⟨rfl, rfl⟩, ⟨rfl, rfl⟩, rfl, rfl, rfl, rfl, ⟨rfl, rfl⟩, ⟨rfl, rfl⟩, ⟨rfl, rfl⟩, ⟨rfl, rfl⟩, ⟨rfl, by rw [wb16]⟩, ?_⟩
    rw [wb64]
  · cases h
def T4 : PT := T3.add 47 cSpread
def E4 : Env := ⟨G, T4, C2⟩
theorem e4_ok : EnvOk Tryd.prog E4 := ⟨PT.add_ok e3_ok.T spread_ok, e3_ok.C⟩
/-- Eight words. -/
structure S8 where
  a : BitVec 32
  b : BitVec 32
  c : BitVec 32
  d : BitVec 32
  e : BitVec 32
  f : BitVec 32
  g : BitVec 32
  h : BitVec 32
def S8.l (s : S8) : List (BitVec 32) := [s.a, s.b, s.c, s.d, s.e, s.f, s.g, s.h]
def us (k w : BitVec 32) (s : S8) : BitVec 32 := s.h + (rl s.e (-6) ^^^ rl s.e (-11) ^^^ rl s.e (-25)) + (s.e &&& s.f ^^^ ~~~s.e &&& s.g) + k + w
def vs (s : S8) : BitVec 32 := (rl s.a (-2) ^^^ rl s.a (-13) ^^^ rl s.a (-22)) + (s.a &&& s.b ^^^ s.a &&& s.c ^^^ s.b &&& s.c)
def rnd (k w : BitVec 32) (s : S8) : S8 := ⟨us k w s + vs s, s.a, s.b, s.c, s.d + us k w s, s.e, s.f, s.g⟩
def rounds (W : List (BitVec 32)) (s : S8) : Nat → S8
  | 0 => s
  | n + 1 => rnd (K64.getD n 0) (W.getD n 0) (rounds W s n)
def addS (s t : S8) : S8 := ⟨s.a + t.a, s.b + t.b, s.c + t.c, s.d + t.d, s.e + t.e, s.f + t.f, s.g + t.g, s.h + t.h⟩
/-- The words behind one more block. -/
def nextS (s : S8) (b : List (BitVec 8)) : S8 := addS (rounds (ext32 48 (w16 b)) s 64) s
/-- Eight words, the first j of them added. -/
def addN (s t : S8) (j : Nat) : List (BitVec 32) := (addS t s).l.take j ++ t.l.drop j
def M26 (l : List (BitVec 8)) (s : S8) (x : List (BitVec 32)) : Mm := [⟨false, .a32 H0⟩, ⟨false, .a32 K64⟩, ⟨false, .a8 l⟩, ⟨true, .a32 s.l⟩, ⟨true, .a32 (List.replicate 8 0)⟩, ⟨true, .a32 x⟩]
def p26 : List (Nat × SV) := [(2, .ptr 3 0), (4, .ptr 4 0), (5, .ptr 5 0)]
def q26 (W : List (BitVec 32)) (j : Nat) : List (Nat × SV) := (21, .a32 W) :: (22, .i (j : Nat)) :: p26
def L26 (l : List (BitVec 8)) (s : S8) (W : List (BitVec 32)) (t : S8) : LT := (noL.add 0 (vLoop (B38 l) 114 (q26 W 0) (M26 l s s.l) p26 (M26 l s t.l))).add 2 (vLoop (B38 l) 114 ((101, .i 0) :: p26) (M26 l s t.l) p26 (M26 l s (addS t s).l))
theorem vc26 (l : List (BitVec 8)) (s t : S8) (W : List (BitVec 32)) (off cap : Nat) (K : SV → Mm → Prop) : (vf Tryd.prog E4 (L26 l s W t) 39 [.a32 s.l, .sl 2 off 64 cap] (B38 l) K) = (bif Nat.ble 64 cap && (off + 64).ble l.length then loopOf Tryd.prog 39 0 = loopOf Tryd.prog 39 0 ∧ SV.ptr (List.length (B38 l)) 0 = SV.ptr 3 0 ∧ SV.ptr (0 + 1 + 1 + 1 + 1) 0 = SV.ptr 4 0 ∧ SV.ptr (0 + 1 + 1 + 1 + 1 + 1) 0 = SV.ptr 5 0 ∧ SV.a32 (ext32 48 (w16 (List.drop off l))) = SV.a32 W ∧ SV.i 0 = SV.i (↑0 : Int) ∧ (false = false ∧ Cont.a32 H0 = Cont.a32 H0) ∧ (false = false ∧ Cont.a32 K64 = Cont.a32 K64) ∧ (false = false ∧ Cont.a8 l = Cont.a8 l) ∧ (true = true ∧ Cont.a32 s.l = Cont.a32 s.l) ∧ (true = true ∧ Cont.a32 (List.replicate 8 0) = Cont.a32 (List.replicate 8 0)) ∧ (true = true ∧ Cont.a32 s.l = Cont.a32 s.l) ∧ loopOf Tryd.prog 39 2 = loopOf Tryd.prog 39 2 ∧ SV.ptr 3 0 = SV.ptr 3 0 ∧ SV.ptr 4 0 = SV.ptr 4 0 ∧ SV.ptr 5 0 = SV.ptr 5 0 ∧ SV.i 0 = SV.i 0 ∧ (false = false ∧ Cont.a32 H0 = Cont.a32 H0) ∧ (false = false ∧ Cont.a32 K64 = Cont.a32 K64) ∧ (false = false ∧ Cont.a8 l = Cont.a8 l) ∧ (true = true ∧ Cont.a32 s.l = Cont.a32 s.l) ∧ (true = true ∧ Cont.a32 (List.replicate 8 0) = Cont.a32 (List.replicate 8 0)) ∧ (true = true ∧ Cont.a32 t.l = Cont.a32 t.l) ∧ K (SV.a32 (addS t s).l) [{ rw := false, c := Cont.a32 H0 }, { rw := false, c := Cont.a32 K64 }, { rw := false, c := Cont.a8 l }, { rw := true, c := Cont.a32 s.l }, { rw := true, c := Cont.a32 (addS t s).l }, { rw := true, c := Cont.a32 (addS t s).l }] else False) := by kernel_rfl
theorem vr26a (l : List (BitVec 8)) (s t u z : S8) (W : List (BitVec 32)) (j : Nat) (a : Prop) : (frK 114 (q26 W j) fun fr => vround Tryd.prog E4 noL 39 0 fr (M26 l s t.l) (Kn (B38 l) 0 114 a (q26 W (j + 1)) (M26 l s u.l) p26 (M26 l s z.l))) = (bif ilt (↑j : Int) 64 then bif W.length.beq 64 && inR (↑j : Int) 64 then bif inR (↑j : Int) 64 then bif j.blt 64 then bif inI ((↑j : Int) + 1) then a ∧ SV.ptr 3 0 = SV.ptr 3 0 ∧ SV.ptr 4 0 = SV.ptr 4 0 ∧ SV.ptr 5 0 = SV.ptr 5 0 ∧ SV.a32 W = SV.a32 W ∧ SV.i ((↑j : Int) + 1) = SV.i (↑(j + 1) : Int) ∧ (false = false ∧ Cont.a32 H0 = Cont.a32 H0) ∧ (false = false ∧ Cont.a32 K64 = Cont.a32 K64) ∧ (false = false ∧ Cont.a8 l = Cont.a8 l) ∧ (true = true ∧ Cont.a32 s.l = Cont.a32 s.l) ∧ (true = true ∧ Cont.a32 (List.replicate 8 0) = Cont.a32 (List.replicate 8 0)) ∧ (true = true ∧ Cont.a32 (((List.take 1 t.l ++ List.take 7 (List.take 7 (List.drop 0 t.l)) ++ List.drop (1 + min (List.take 7 (List.drop 0 t.l)).length 7) t.l).set 0 (t.l.getD 7 0 + (rl (t.l.getD 4 0) (-6) ^^^ rl (t.l.getD 4 0) (-11) ^^^ rl (t.l.getD 4 0) (-25)) + (t.l.getD 4 0 &&& t.l.getD 5 0 ^^^ ~~~t.l.getD 4 0 &&& t.l.getD 6 0) + K64.getD j 0 + W.getD j 0 + ((rl (t.l.getD 0 0) (-2) ^^^ rl (t.l.getD 0 0) (-13) ^^^ rl (t.l.getD 0 0) (-22)) + (t.l.getD 0 0 &&& t.l.getD 1 0 ^^^ t.l.getD 0 0 &&& t.l.getD 2 0 ^^^ t.l.getD 1 0 &&& t.l.getD 2 0)))).set 4 (((List.take 1 t.l ++ List.take 7 (List.take 7 (List.drop 0 t.l)) ++ List.drop (1 + min (List.take 7 (List.drop 0 t.l)).length 7) t.l).set 0 (t.l.getD 7 0 + (rl (t.l.getD 4 0) (-6) ^^^ rl (t.l.getD 4 0) (-11) ^^^ rl (t.l.getD 4 0) (-25)) + (t.l.getD 4 0 &&& t.l.getD 5 0 ^^^ ~~~t.l.getD 4 0 &&& t.l.getD 6 0) + K64.getD j 0 + W.getD j 0 + ((rl (t.l.getD 0 0) (-2) ^^^ rl (t.l.getD 0 0) (-13) ^^^ rl (t.l.getD 0 0) (-22)) + (t.l.getD 0 0 &&& t.l.getD 1 0 ^^^ t.l.getD 0 0 &&& t.l.getD 2 0 ^^^ t.l.getD 1 0 &&& t.l.getD 2 0)))).getD 4 0 + (t.l.getD 7 0 + (rl (t.l.getD 4 0) (-6) ^^^ rl (t.l.getD 4 0) (-11) ^^^ rl (t.l.getD 4 0) (-25)) + (t.l.getD 4 0 &&& t.l.getD 5 0 ^^^ ~~~t.l.getD 4 0 &&& t.l.getD 6 0) + K64.getD j 0 + W.getD j 0))) = Cont.a32 u.l) ∧ True else False else False else False else False else 0 = 0 ∧ SV.ptr 3 0 = SV.ptr 3 0 ∧ SV.ptr 4 0 = SV.ptr 4 0 ∧ SV.ptr 5 0 = SV.ptr 5 0 ∧ (false = false ∧ Cont.a32 H0 = Cont.a32 H0) ∧ (false = false ∧ Cont.a32 K64 = Cont.a32 K64) ∧ (false = false ∧ Cont.a8 l = Cont.a8 l) ∧ (true = true ∧ Cont.a32 s.l = Cont.a32 s.l) ∧ (true = true ∧ Cont.a32 (List.replicate 8 0) = Cont.a32 (List.replicate 8 0)) ∧ (true = true ∧ Cont.a32 t.l = Cont.a32 z.l) ∧ True) := by kernel_rfl
theorem vr26b (l : List (BitVec 8)) (s : S8) (x x' z : List (BitVec 32)) (j : Nat) (a : Prop) : (frK 114 ((101, .i (j : Nat)) :: p26) fun fr => vround Tryd.prog E4 noL 39 2 fr (M26 l s x) (Kn (B38 l) 2 114 a ((101, .i ((j + 1 : Nat) : Int)) :: p26) (M26 l s x') p26 (M26 l s z))) = (bif ilt (↑j : Int) 8 then bif inR (↑j : Int) 8 then bif j.blt x.length then bif inR (↑j : Int) 8 then bif j.blt s.l.length then bif inR (↑j : Int) 8 then bif j.blt x.length then bif inI ((↑j : Int) + 1) then a ∧ SV.ptr 3 0 = SV.ptr 3 0 ∧ SV.ptr 4 0 = SV.ptr 4 0 ∧ SV.ptr 5 0 = SV.ptr 5 0 ∧ SV.i ((↑j : Int) + 1) = SV.i (↑(j + 1) : Int) ∧ (false = false ∧ Cont.a32 H0 = Cont.a32 H0) ∧ (false = false ∧ Cont.a32 K64 = Cont.a32 K64) ∧ (false = false ∧ Cont.a8 l = Cont.a8 l) ∧ (true = true ∧ Cont.a32 s.l = Cont.a32 s.l) ∧ (true = true ∧ Cont.a32 (List.replicate 8 0) = Cont.a32 (List.replicate 8 0)) ∧ (true = true ∧ Cont.a32 (x.set j (x.getD j 0 + s.l.getD j 0)) = Cont.a32 x') ∧ True else False else False else False else False else False else False else False else 2 = 2 ∧ SV.ptr 3 0 = SV.ptr 3 0 ∧ SV.ptr 4 0 = SV.ptr 4 0 ∧ SV.ptr 5 0 = SV.ptr 5 0 ∧ (false = false ∧ Cont.a32 H0 = Cont.a32 H0) ∧ (false = false ∧ Cont.a32 K64 = Cont.a32 K64) ∧ (false = false ∧ Cont.a8 l = Cont.a8 l) ∧ (true = true ∧ Cont.a32 s.l = Cont.a32 s.l) ∧ (true = true ∧ Cont.a32 (List.replicate 8 0) = Cont.a32 (List.replicate 8 0)) ∧ (true = true ∧ Cont.a32 x = Cont.a32 z) ∧ True) := by kernel_rfl
theorem loop26a (l : List (BitVec 8)) (s : S8) (W : List (BitVec 32)) (hW : W.length = 64) : ∀ fr M K, vLoop (B38 l) 114 (q26 W 0) (M26 l s s.l) p26 (M26 l s (rounds W s 64).l) fr M K → Wp Tryd.prog G (B38 l) (loopOf Tryd.prog 39 0) fr M K := by
  refine loop_next e4_ok mixed (noL_ok _ _ _ _) (by show 2 ≤ 3; decide) (by kernel_rfl) (fun j => q26 W j) (fun j => M26 l s (rounds W s j).l) (fun j => j ≤ 64) (fun j => 64 - j) (fun j => j + 1) 0 (Nat.zero_le _) fun j hj => of_eq (vr26a l s (rounds W s j) (rounds W s (j + 1)) (rounds W s 64) W j _) ?_
  cases hc : ilt (j : Int) 64
  · have hj2 : j = 64 := by rw [ilt_eq] at hc; have := of_decide_eq_false hc; omega
    subst hj2
    simp
  · have hj2 : j < 64 := by rw [ilt_eq] at hc; have := of_decide_eq_true hc; omega
    have hb : Nat.beq W.length 64 = true := by rw [hW]; rfl
    refine bif_of (by rw [hb]; exact inR_nat (by omega)) (bif_of (inR_nat (by omega)) (bif_of (blt_of (by omega)) (bif_of (inI_iff.2 (by omega)) ?_)))
    exact ⟨⟨by omega, by omega⟩, rfl, rfl, rfl, rfl, rfl, ⟨rfl, rfl⟩, ⟨rfl, rfl⟩, ⟨rfl, rfl⟩, ⟨rfl, rfl⟩, ⟨rfl, rfl⟩, ⟨rfl, rfl⟩, trivial⟩
theorem addN_set (s t : S8) (j : Nat) (h : j < 8) : (addN s t j).set j ((addN s t j).getD j 0 + s.l.getD j 0) = addN s t (j + 1) := by
  have : j = 0 ∨ j = 1 ∨ j = 2 ∨ j = 3 ∨ j = 4 ∨ j = 5 ∨ j = 6 ∨ j = 7 := by omega
  rcases this with rfl | rfl | rfl | rfl | rfl | rfl | rfl | rfl <;> rfl
theorem addN_len (s t : S8) (j : Nat) (h : j ≤ 8) : (addN s t j).length = 8 := by
  simp [addN, S8.l]; omega
theorem loop26b (l : List (BitVec 8)) (s t : S8) : ∀ fr M K, vLoop (B38 l) 114 ((101, .i 0) :: p26) (M26 l s t.l) p26 (M26 l s (addS t s).l) fr M K → Wp Tryd.prog G (B38 l) (loopOf Tryd.prog 39 2) fr M K := by
  refine loop_next e4_ok mixed (noL_ok _ _ _ _) (by show 2 ≤ 3; decide) (by kernel_rfl) (fun j => (101, .i (j : Nat)) :: p26) (fun j => M26 l s (addN s t j)) (fun j => j ≤ 8) (fun j => 8 - j) (fun j => j + 1) 0 (Nat.zero_le _) fun j hj => of_eq (vr26b l s (addN s t j) (addN s t (j + 1)) (addS t s).l j _) ?_
  cases hc : ilt (j : Int) 8
  · have hj2 : j = 8 := by rw [ilt_eq] at hc; have := of_decide_eq_false hc; omega
    subst hj2
    have : addN s t 8 = (addS t s).l := rfl
    simp [this]
  · have hj2 : j < 8 := by rw [ilt_eq] at hc; have := of_decide_eq_true hc; omega
    have ht : s.l.length = 8 := rfl
    rw [addN_set s t j hj2, addN_len s t j hj, ht]
    refine bif_of (inR_nat (by omega)) (bif_of (blt_of (by omega)) (bif_of (inR_nat (by omega)) (bif_of (blt_of (by omega)) (bif_of (inR_nat (by omega)) (bif_of (blt_of (by omega)) (bif_of (inI_iff.2 (by omega)) ?_))))))
    refine ⟨⟨by omega, by omega⟩, ?_⟩
    simp
theorem loop26 (l : List (BitVec 8)) (s : S8) (W : List (BitVec 32)) (hW : W.length = 64) : LOk Tryd.prog G (B38 l) 39 (L26 l s W (rounds W s 64)) :=
  LT.add_ok (LT.add_ok (noL_ok _ _ _ _) (loop26a l s W hW)) (loop26b l s _)
def cNext : List SV → List Cont → Option (Bool × SV)
  | [.a32 [a, b, c, d, e, f, g, h], .sl k off len cap], [_, .a8 l] => some (Nat.beq len 64 && (Nat.ble 64 cap && Nat.ble (off + 64) l.length), .a32 (nextS ⟨a, b, c, d, e, f, g, h⟩ (l.drop off)).l)
  | _, _ => none
theorem next_ok : POk Tryd.prog G 39 cNext := by
  intro args acs r h β M w hR hw ha
  unfold cNext at h
  split at h
  · rename_i a b c d e f g h' k off len cap c0 l
    simp only [Option.some.injEq, Prod.mk.injEq, Bool.and_eq_true] at h
    obtain ⟨⟨h1, h2, h3⟩, rfl⟩ := h
    obtain rfl := Nat.eq_of_beq_eq_true h1
    simp only [List.map_cons, List.map_nil, List.cons.injEq, and_true] at ha
    have hW : (ext32 48 (w16 (l.drop off))).length = 64 := by rw [ext_len, w16_len]
    refine pure1 (args0 := [.a32 [a, b, c, d, e, f, g, h'], .sl 2 off 64 cap]) (c := .a8 l) (k := k) (vf_ok (M := B38 l) e4_ok mixed (loop26 l ⟨a, b, c, d, e, f, g, h'⟩ _ hW) (of_eq (vc26 l ⟨a, b, c, d, e, f, g, h'⟩ _ _ off cap _) (bif_of ?_ ?_))) rfl rfl rfl rfl rfl (a8_ren l) hR (tgt_some ha.2.symm rfl)
    · rw [Bool.and_eq_true]; exact ⟨h2, h3⟩
    · exact ⟨rfl, rfl, rfl, rfl, rfl, rfl, ⟨rfl, rfl⟩, ⟨rfl, rfl⟩, ⟨rfl, rfl⟩, ⟨rfl, rfl⟩, ⟨rfl, rfl⟩, ⟨rfl, rfl⟩, rfl, rfl, rfl, rfl, rfl, ⟨rfl, rfl⟩, ⟨rfl, rfl⟩, ⟨rfl, rfl⟩, ⟨rfl, rfl⟩, ⟨rfl, rfl⟩, ⟨rfl, rfl⟩, rfl⟩
  · cases h
def T5 : PT := T4.add 39 cNext
def E5 : Env := ⟨G, T5, C2⟩
theorem e5_ok : EnvOk Tryd.prog E5 := ⟨PT.add_ok e4_ok.T next_ok, e4_ok.C⟩
end Go.Proofs.YtmalnjdacmlcdaaDoor
