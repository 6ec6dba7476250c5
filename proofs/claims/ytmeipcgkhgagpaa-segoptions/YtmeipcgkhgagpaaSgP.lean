/-
  seg: SegPlaces' law. No statement is proved here.
-/
import Derived.Test.YtmeipcgkhgagpaaSgO
namespace Go.Proofs.Ytmeipcgkhgagpaa
open Go.RowKit
set_option linter.unusedVariables false
set_option linter.unusedSimpArgs false
set_option maxRecDepth 100000

theorem de_sum {l : Tx} {s d : BitVec 32} (h : deE l s d = 0) : (sgS l s d == BitVec.ofInt 16 0) = true := by
  unfold deE at h
  cases hs : sgS l s d == BitVec.ofInt 16 0
  · have h4 : (sgS l s d != BitVec.ofInt 16 0) = true := by unfold bne; rw [hs]; rfl
    rw [h4] at h
    revert h
    cases ilt ((l.length : Nat) : Int) 20 <;> cases ilt (hsz l) 20 <;> cases ilt ((l.length : Nat) : Int) (hsz l) <;> intro he <;> first | exact absurd (show (7 : Int) = 0 from he) (by decide) | exact absurd (show (8 : Int) = 0 from he) (by decide) | exact absurd (show (180 : Int) = 0 from he) (by decide)
  · rfl
theorem len_by (g : Sg) (s d : BitVec 32) : BitVec.ofInt 32 (((byT g s d).length : Nat) : Int) - BitVec.ofInt 32 4 * BitVec.setWidth 32 (List.getD (byT g s d) 12 0 >>> 4) = BitVec.ofInt 32 ((g.l.length : Nat) : Int) := by
  have e : (byT g s d).getD 12 0 = BitVec.ofInt 8 (4 * (20 + (((optT g.m g.h g.c).length : Nat) : Int))) := rfl
  rw [e, by_len]
  have key : ∀ k n : Nat, BitVec.ofInt 32 (((20 + k + n : Nat) : Nat) : Int) - BitVec.ofInt 32 ((20 + k : Nat) : Int) = BitVec.ofInt 32 ((n : Nat) : Int) := fun k n => by
    apply BitVec.eq_of_toNat_eq
    simp only [BitVec.toNat_sub, BitVec.toNat_ofInt]
    omega
  rcases opt_lens g.m g.h g.c with h | h | h
  · rw [h]; exact key 0 g.l.length
  · rw [h]; exact key 4 g.l.length
  · rw [h]; exact key 8 g.l.length
theorem law5_ok (a b : BitVec 16) (q k : BitVec 32) (f : BitVec 8) (w m : BitVec 16) (h : Bool) (c : BitVec 8) (l : Tx) (s d : BitVec 32) (n : BitVec 16) : Spec Try.prog G 5 [seg a b q k f w m h c l, .w32 s, .w32 d, .w16 n] G (fun r _ => r = .b true) := by
  refine vf_ok ex_ok mixed (noL_ok _ _ _ _) (of_eq (v5 enE enR deE deG lenS sgS a b q k f w m h c l s d n _) ?_)
  rcases b_tf (ilt 8192 ((List.length l : Nat) : Int)) with h1 | h1
  · exact bif_t h1 rfl
  refine bif_f h1 ?_
  rcases b_tf (enE ⟨a, b, q, k, f, w, m, h, c, l⟩ != 0) with h2 | h2
  · exact bif_t h2 (bif_t h2 rfl)
  refine bif_f h2 ?_
  obtain ⟨hR, hB, hl⟩ := en_yes (s := s) (d := d) h2
  have hlen := by_len ⟨a, b, q, k, f, w, m, h, c, l⟩ s d
  have hN := len_by ⟨a, b, q, k, f, w, m, h, c, l⟩ s d
  have ho := optT_len m h c
  rw [hR]
  dsimp only at hl hlen hN
  generalize hY : byT ⟨a, b, q, k, f, w, m, h, c, l⟩ s d = Y at *
  rw [hN]
  have hi0 : ((n.toNat : Int).tmod (Y.length : Int)) = ((n.toNat % Y.length : Nat) : Int) := by
    rw [Int.tmod_eq_emod_of_nonneg (by omega)]; rfl
  have hi : n.toNat % Y.length < Y.length := Nat.mod_lt _ (by omega)
  rw [hi0]
  generalize n.toNat % Y.length = i at hi ⊢
  rw [Int.toNat_natCast]
  have hX : (List.drop 0 (List.take i Y)).length.ble 4294960000 = true := ble_of (by rw [List.drop_zero, List.length_take]; omega)
  generalize List.drop 0 (List.take i Y) = X at hX ⊢
  have n0 : (((Y.length : Nat) : Int) != 0) = true := bne_iff_ne.2 (by omega)
  refine bif_f (ilt_no (by omega)) (bif_of n0 (bif_of (ile_of (by omega)) (bif_of hX (bif_of (inR_iff.2 ⟨by omega, by omega⟩) ?_))))
  have hV : (bif deE X s d != 0 then SV.b (bif true then true else false) = SV.b true else bif X.length.ble 4294960000 then bif bif true then bif false then true else sgS X s d == BitVec.ofInt 16 0 else false then SV.b (bif true then true else false) = SV.b true else SV.b false = SV.b true else False) := by
    cases hd : deE X s d != 0
    · simp only [bne, Bool.not_eq_false'] at hd
      exact bif_of hX (bif_t (de_sum (eq_of_beq hd)) rfl)
    · rfl
  rcases b_tf (f &&& BitVec.ofInt 8 2 != BitVec.ofInt 8 0) with e1 | e1 <;> rcases b_tf (f &&& BitVec.ofInt 8 1 != BitVec.ofInt 8 0) with e2 | e2
  · exact bif_t e1 (bif_t e2 (bif_t (by unfold lenS; rw [e1, e2]; exact beq_self_eq_true _) hV))
  · exact bif_t e1 (bif_f e2 (bif_t (by unfold lenS; rw [e1, e2]; exact beq_self_eq_true _) hV))
  · exact bif_f e1 (bif_t e2 (bif_t (by unfold lenS; rw [e1, e2]; exact beq_self_eq_true _) hV))
  · exact bif_f e1 (bif_f e2 (bif_t (by unfold lenS; rw [e1, e2]; exact beq_self_eq_true _) hV))
end Go.Proofs.Ytmeipcgkhgagpaa
