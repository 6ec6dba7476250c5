/-
  seg: SegBack's law. No statement is proved here.
-/
import Derived.Test.YtmeipcgkhgagpaaSgN
namespace Go.Proofs.Ytmeipcgkhgagpaa
open Go.RowKit
set_option linter.unusedVariables false
set_option linter.unusedSimpArgs false
set_option maxRecDepth 100000

theorem en_no {g : Sg} {s d : BitVec 32} (h : (enE g != 0) = true) : enR g s d = [] := by
  unfold enE at h
  unfold enR
  cases hB : mayB g.f g.m g.h g.c
  · rfl
  · rw [hB] at h
    cases hl : ilt 1460 ((g.l.length : Nat) : Int)
    · rw [hl] at h; exact absurd (show false = true from h) (by decide)
    · rfl
theorem en_yes {g : Sg} {s d : BitVec 32} (h : (enE g != 0) = false) : enR g s d = byT g s d ∧ mayB g.f g.m g.h g.c = true ∧ g.l.length ≤ 1460 := by
  unfold enE at h
  unfold enR
  cases hB : mayB g.f g.m g.h g.c
  · rw [hB] at h; exact absurd (show true = false from h) (by decide)
  · rw [hB] at h
    cases hl : ilt 1460 ((g.l.length : Nat) : Int)
    · have := of_nilt hl
      exact ⟨rfl, rfl, by omega⟩
    · rw [hl] at h; exact absurd (show true = false from h) (by decide)
theorem law4_ok (a b : BitVec 16) (q k : BitVec 32) (f : BitVec 8) (w m : BitVec 16) (h : Bool) (c : BitVec 8) (l : Tx) (s d : BitVec 32) (n : BitVec 16) (y : BitVec 8) : Spec Try.prog G 4 [seg a b q k f w m h c l, .w32 s, .w32 d, .w16 n, .w8 y] G (fun r _ => r = .b true) := by
  refine vf_ok ex_ok mixed (noL_ok _ _ _ _) (of_eq (v4 enE enR deE deG lenS sgS a b q k f w m h c l s d n y _) ?_)
  rcases b_tf (ilt 8192 ((List.length l : Nat) : Int)) with h1 | h1
  · exact bif_t h1 rfl
  refine bif_f h1 ?_
  rcases b_tf (enE ⟨a, b, q, k, f, w, m, h, c, l⟩ != 0) with h2 | h2
  · refine bif_t h2 ?_
    exact bif_t (by rw [en_no h2]; rfl) rfl
  refine bif_f h2 ?_
  obtain ⟨hR, hB, hl⟩ := en_yes (s := s) (d := d) h2
  have hE := back_e ⟨a, b, q, k, f, w, m, h, c, l⟩ s d hB
  have hG := back_g ⟨a, b, q, k, f, w, m, h, c, l⟩ s d hB
  have hlen := by_len ⟨a, b, q, k, f, w, m, h, c, l⟩ s d
  have ho := optT_len m h c
  have hT := turn_e ⟨a, b, q, k, f, w, m, h, c, l⟩ s d
  rw [hR]
  dsimp only at hl hlen
  generalize hY : byT ⟨a, b, q, k, f, w, m, h, c, l⟩ s d = Y at *
  rw [hE, hG]
  refine bif_of (ble_of (by omega)) (bif_f rfl (bif_f (by show (!(a == a && (b == b && (q == q && (k == k && (f == f && (w == w && (m == m && (h == h && (c == c && (l == l && true)))))))))) ) = false; simp only [beq_self_eq_true, Bool.and_true, Bool.not_true]) (bif_f (ilt_no (by omega)) ?_)))
  intro cap x hc hx
  have hi0 : ((n.toNat : Int).tmod (Y.length : Int)) = ((n.toNat % Y.length : Nat) : Int) := by
    rw [Int.tmod_eq_emod_of_nonneg (by omega)]; rfl
  have hi : n.toNat % Y.length < Y.length := Nat.mod_lt _ (by omega)
  rw [hi0]
  generalize n.toNat % Y.length = i at hi ⊢
  have hxl : x.length = cap := by rw [hx, List.length_append, List.length_replicate]; omega
  have hxi : x.getD i 0 = Y.getD i 0 := by
    rw [hx, List.getD_eq_getElem?_getD, List.getElem?_append_left hi, ← List.getD_eq_getElem?_getD]
  have hxs : ∀ v : BitVec 8, List.take Y.length (List.drop 0 (x.set i v)) = Y.set i v := fun v => by
    rw [List.drop_zero, hx, List.set_append_left _ _ hi]
    exact List.take_left' (List.length_set ..)
  simp only [Int.toNat_natCast, hxi, hxs]
  have n0 : (((Y.length : Nat) : Int) != 0) = true := bne_iff_ne.2 (by omega)
  have r0 : inR ((i : Nat) : Int) Y.length = true := inR_iff.2 ⟨by omega, by omega⟩
  have b0 : i.blt x.length = true := by rw [hxl]; exact blt_of (by omega)
  refine bif_of n0 (bif_of n0 (bif_of r0 (bif_of b0 (bif_of r0 (bif_of b0 (bif_of (decide_eq_true (by rw [List.length_set, hxl]; omega)) (bif_of (ble_of (by rw [List.length_set]; omega)) (bif_t ?_ rfl))))))))
  show ((deE (Y.set i (Y.getD i 0 ^^^ y)) s d != 0) == (y != BitVec.ofInt 8 0)) = true
  cases hy : y != BitVec.ofInt 8 0
  · simp only [bne, Bool.not_eq_false'] at hy
    obtain rfl := eq_of_beq hy
    have e : Y.set i (Y.getD i 0 ^^^ BitVec.ofInt 8 0) = Y := by
      have e0 : Y.getD i 0 ^^^ BitVec.ofInt 8 0 = Y.getD i 0 := BitVec.xor_zero
      rw [e0, List.getD_eq_getElem?_getD, List.getElem?_eq_getElem hi]
      exact List.set_getElem_self hi
    rw [e, hE]; rfl
  · have hne : y ≠ BitVec.ofInt 8 0 := bne_iff_ne.1 hy
    have := hT i (Y.getD i 0 ^^^ y) hi (fun q => hne (by
      have e0 : Y.getD i 0 ^^^ (Y.getD i 0 ^^^ y) = y := by rw [← BitVec.xor_assoc, BitVec.xor_self, BitVec.zero_xor]
      rw [q, BitVec.xor_self] at e0
      exact e0.symm))
    have h3 : (deE (Y.set i (Y.getD i 0 ^^^ y)) s d != 0) = true := bne_iff_ne.2 this
    rw [h3]; rfl
end Go.Proofs.Ytmeipcgkhgagpaa
