/-
  sha: the words of a block, and the document's next word. No statement is proved here.
-/
import Derived.Test.YtdejfaccoepfhaaDoorShA
namespace Go.Proofs.YtdejfaccoepfhaaDoor
open Go.RowKit
set_option linter.unusedVariables false
set_option linter.unusedSimpArgs false
set_option maxRecDepth 100000

/-- A word of bytes, the highest first. -/
def be (l : List (BitVec 8)) : BitVec 64 := l.foldl (fun a x => a <<< 8 ||| x.setWidth 64) 0
def B22 (l : List (BitVec 8)) : Mm := [⟨false, .a64 H0⟩, ⟨false, .a64 K80⟩, ⟨false, .a8 l⟩]
def i22 (l : List (BitVec 8)) (off len cap : Nat) (j : Nat) : List (Nat × SV) := [(3, .w64 (be ((l.drop off).take j))), (7, .sl 2 off 8 cap), (8, .i 8), (9, .i (j : Nat))]
def L22 (l : List (BitVec 8)) (off len cap : Nat) : LT := noL.add 0 (vLoop (B22 l) 20 (i22 l off len cap 0) (B22 l) [(3, .w64 (be ((l.drop off).take 8)))] (B22 l))
theorem vc22 (l : List (BitVec 8)) (off len cap : Nat) (K : SV → Mm → Prop) : (vf Tryd.prog E1 (L22 l off len cap) 22 [.sl 2 off len cap] (B22 l) K) = (bif ile 8 (↑cap : Int) && ilt (↑0 : Int) (↑cap : Int) then loopOf Tryd.prog 22 0 = loopOf Tryd.prog 22 0 ∧ SV.w64 (BitVec.ofInt 64 0) = SV.w64 (be (List.take 0 (List.drop off l))) ∧ SV.sl 2 (0 + off) 8 cap = SV.sl 2 off 8 cap ∧ SV.i (↑8 : Int) = SV.i 8 ∧ SV.i 0 = SV.i (↑0 : Int) ∧ (false = false ∧ Cont.a64 H0 = Cont.a64 H0) ∧ (false = false ∧ Cont.a64 K80 = Cont.a64 K80) ∧ (false = false ∧ Cont.a8 l = Cont.a8 l) ∧ K (SV.w64 (be (List.take 8 (List.drop off l)))) (B22 l) else False) := by kernel_rfl
theorem vr22 (l : List (BitVec 8)) (off len cap j : Nat) (a : Prop) : (frK 20 (i22 l off len cap j) fun fr => vround Tryd.prog E1 noL 22 0 fr (B22 l) (Kn (B22 l) 0 20 a (i22 l off len cap (j + 1)) (B22 l) [(3, .w64 (be ((l.drop off).take 8)))] (B22 l))) = (bif ilt (↑j : Int) 8 then bif inR (↑j : Int) 8 then bif (j + off).blt l.length then bif inI ((↑j : Int) + 1) then a ∧ SV.w64 (be (List.take j (List.drop off l)) <<< 8 ||| BitVec.setWidth 64 (l.getD (j + off) 0)) = SV.w64 (be (List.take (j + 1) (List.drop off l))) ∧ SV.sl 2 off 8 cap = SV.sl 2 off 8 cap ∧ SV.i 8 = SV.i 8 ∧ SV.i ((↑j : Int) + 1) = SV.i (↑(j + 1) : Int) ∧ (false = false ∧ Cont.a64 H0 = Cont.a64 H0) ∧ (false = false ∧ Cont.a64 K80 = Cont.a64 K80) ∧ (false = false ∧ Cont.a8 l = Cont.a8 l) ∧ True else False else False else False else 0 = 0 ∧ SV.w64 (be (List.take j (List.drop off l))) = SV.w64 (be (List.take 8 (List.drop off l))) ∧ (false = false ∧ Cont.a64 H0 = Cont.a64 H0) ∧ (false = false ∧ Cont.a64 K80 = Cont.a64 K80) ∧ (false = false ∧ Cont.a8 l = Cont.a8 l) ∧ True) := by kernel_rfl
theorem vc24 (l : List (BitVec 64)) (i : Int) (K : SV → Mm → Prop) : (vf Tryd.prog E1 noL 24 [.a64 l, .i i] G K) = (bif inI (i - 15) then bif inR (i - 15) 80 then bif (i - 15).toNat.blt l.length then bif inI (i - 2) then bif inR (i - 2) 80 then bif (i - 2).toNat.blt l.length then bif inI (i - 16) then bif inR (i - 16) 80 then bif (i - 16).toNat.blt l.length then bif inI (i - 7) then bif inR (i - 7) 80 then bif (i - 7).toNat.blt l.length then K (SV.w64 (l.getD (i - 16).toNat 0 + (rr (l.getD (i - 15).toNat 0) (BitVec.ofInt 64 1) ^^^ rr (l.getD (i - 15).toNat 0) (BitVec.ofInt 64 8) ^^^ l.getD (i - 15).toNat 0 >>> 7) + l.getD (i - 7).toNat 0 + (rr (l.getD (i - 2).toNat 0) (BitVec.ofInt 64 19) ^^^ rr (l.getD (i - 2).toNat 0) (BitVec.ofInt 64 61) ^^^ l.getD (i - 2).toNat 0 >>> 6))) [{ rw := false, c := Cont.a64 H0 }, { rw := false, c := Cont.a64 K80 }, { rw := true, c := Cont.a64 l }] else False else False else False else False else False else False else False else False else False else False else False else False) := by kernel_rfl
theorem a8_ren (l : List (BitVec 8)) (σ : Nat → Nat) : (Cont.a8 l).ren σ = .a8 l := rfl
theorem be_succ (l : List (BitVec 8)) (j : Nat) (h : j < l.length) : be (l.take (j + 1)) = be (l.take j) <<< 8 ||| (l.getD j 0).setWidth 64 := by
  unfold be
  rw [List.take_add_one, getD_get 0 h, Option.toList_some, List.foldl_append]
  rfl
theorem getD_drop (l : List (BitVec 8)) (off j : Nat) : (l.drop off).getD j 0 = l.getD (off + j) 0 := by
  rw [List.getD_eq_getElem?_getD, List.getElem?_drop, ← List.getD_eq_getElem?_getD]
theorem loop22 (l : List (BitVec 8)) (off len cap : Nat) (hl : off + 8 ≤ l.length) : LOk Tryd.prog G (B22 l) 22 (L22 l off len cap) := by
  refine LT.add_ok (noL_ok _ _ _ _) (loop_next e1_ok mixed (noL_ok _ _ _ _) (by show 2 ≤ 3; decide) (by kernel_rfl) (i22 l off len cap) (fun _ => B22 l) (fun j => j ≤ 8) (fun j => 8 - j) (fun j => j + 1) 0 (Nat.zero_le _) fun j hj => of_eq (vr22 l off len cap j _) ?_)
  cases hc : ilt (j : Int) 8
  · have hj2 : j = 8 := by rw [ilt_eq] at hc; have := of_decide_eq_false hc; omega
    subst hj2
    simp
  · have hj2 : j < 8 := by rw [ilt_eq] at hc; have := of_decide_eq_true hc; omega
    rw [Nat.add_comm j off]
    refine bif_of (inR_nat hj2) (bif_of (blt_of (by omega)) (bif_of (inI_iff.2 (by omega)) ?_))
    rw [be_succ _ j (by simp; omega), getD_drop]
    refine ⟨⟨by omega, by omega⟩, ?_⟩
    simp
def cUnpack : List SV → List Cont → Option (Bool × SV)
  | [.sl k off len cap], [.a8 l] => some (Nat.ble 8 cap && Nat.ble (off + 8) l.length, .w64 (be ((l.drop off).take 8)))
  | _, _ => none
theorem unpack_ok : POk Tryd.prog G 22 cUnpack := by
  intro args acs r h β M w hR hw ha
  unfold cUnpack at h
  split at h
  · rename_i k off len cap l
    simp only [Option.some.injEq, Prod.mk.injEq, Bool.and_eq_true] at h
    obtain ⟨⟨h1, h2⟩, rfl⟩ := h
    have h1 := Nat.le_of_ble_eq_true h1
    simp only [List.map_cons, List.map_nil, List.cons.injEq, and_true] at ha
    refine pure1 (args0 := [.sl 2 off len cap]) (c := .a8 l) (k := k) (vf_ok (M := B22 l) e1_ok mixed (loop22 l off len cap (Nat.le_of_ble_eq_true h2)) (of_eq (vc22 l off len cap _) (bif_of ?_ ?_))) rfl rfl rfl rfl rfl (a8_ren l) hR (tgt_some ha.symm rfl)
    · rw [ile_eq, ilt_eq, Bool.and_eq_true, decide_eq_true_eq, decide_eq_true_eq]
      omega
    · simp [be]
  · cases h
/-- The two sums of turned words, and the next word of a row. -/
def s0 (x : BitVec 64) : BitVec 64 := rr x 1 ^^^ rr x 8 ^^^ x >>> 7
def s1 (x : BitVec 64) : BitVec 64 := rr x 19 ^^^ rr x 61 ^^^ x >>> 6
def nw (l : List (BitVec 64)) (i : Nat) : BitVec 64 := l.getD (i - 16) 0 + s0 (l.getD (i - 15) 0) + l.getD (i - 7) 0 + s1 (l.getD (i - 2) 0)
def cWord : List SV → List Cont → Option (Bool × SV)
  | [.a64 l, .i i], _ => some (ile 16 i && (ilt i 80 && Nat.beq l.length 80), .w64 (nw l i.toNat))
  | _, _ => none
theorem word_ok : POk Tryd.prog G 24 cWord := by
  intro args acs r h β M w hR hw ha
  unfold cWord at h
  split at h
  · rename_i l i
    simp only [Option.some.injEq, Prod.mk.injEq, Bool.and_eq_true, ile_eq, ilt_eq, decide_eq_true_eq] at h
    obtain ⟨⟨h1, h2, h3⟩, rfl⟩ := h
    have h3 := Nat.eq_of_beq_eq_true h3
    refine pure0 (vf_ok e1_ok mixed (noL_ok _ _ _ _) (of_eq (vc24 _ _ _) ?_)) rfl rfl hR
    have a1 : ∀ k : Nat, k ≤ 16 → inI (i - (k : Int)) = true := fun k hk => inI_iff.2 (by omega)
    have a2 : ∀ k : Nat, 0 < k → k ≤ 16 → inR (i - (k : Int)) 80 = true := fun k h0 hk => inR_iff.2 (by omega)
    have a3 : ∀ k : Nat, k ≤ 16 → (i - (k : Int)).toNat = i.toNat - k := fun k hk => by omega
    have a4 : ∀ k : Nat, 0 < k → k ≤ 16 → Nat.blt ((i - (k : Int)).toNat) l.length = true := fun k h0 hk => blt_of (by omega)
    refine bif_of (a1 15 (by decide)) (bif_of (a2 15 (by decide) (by decide)) (bif_of (a4 15 (by decide) (by decide)) ?_))
    refine bif_of (a1 2 (by decide)) (bif_of (a2 2 (by decide) (by decide)) (bif_of (a4 2 (by decide) (by decide)) ?_))
    refine bif_of (a1 16 (by decide)) (bif_of (a2 16 (by decide) (by decide)) (bif_of (a4 16 (by decide) (by decide)) ?_))
    refine bif_of (a1 7 (by decide)) (bif_of (a2 7 (by decide) (by decide)) (bif_of (a4 7 (by decide) (by decide)) ?_))
    have b15 : (i - 15).toNat = i.toNat - 15 := a3 15 (by decide)
    have b2 : (i - 2).toNat = i.toNat - 2 := a3 2 (by decide)
    have b16 : (i - 16).toNat = i.toNat - 16 := a3 16 (by decide)
    have b7 : (i - 7).toNat = i.toNat - 7 := a3 7 (by decide)
    rw [b15, b2, b16, b7]
    rfl
  · cases h
def T2 : PT := ((T1.add 20 cTurned).add 22 cUnpack).add 24 cWord
def E2 : Env := ⟨G, T2, noC⟩
theorem e2_ok : EnvOk Tryd.prog E2 := ⟨PT.add_ok (PT.add_ok (PT.add_ok e1_ok.T turned_ok) unpack_ok) word_ok, noC_ok _ _⟩
end Go.Proofs.YtdejfaccoepfhaaDoor
