/-
  sha: the two digests are one. No statement is proved here.
-/
import Derived.Test.YtdejfaccoepfhaaDoorShH
namespace Go.Proofs.YtdejfaccoepfhaaDoor
open Go.RowKit
set_option linter.unusedVariables false
set_option linter.unusedSimpArgs false
set_option maxRecDepth 100000

/-- What is held behind the bytes T. -/
structure Held (T : List (BitVec 8)) (x : St) : Prop where
  len : x.b.length = 128
  c : x.c = BitVec.ofNat 64 T.length
  h : x.h = sts T (T.length / 128)
  b : x.b.take (T.length % 128) = T.drop (128 * (T.length / 128))
theorem held_off {T : List (BitVec 8)} {x : St} (h : Held T x) : x.off = T.length % 128 := by
  have : (128 : BitVec 64).toNat = 128 := rfl
  unfold St.off
  rw [h.c, BitVec.toNat_umod, BitVec.toNat_ofNat, this]
  omega
theorem held_stp {T : List (BitVec 8)} {x : St} (h : Held T x) (s : List (BitVec 8)) (hs : s ≠ []) : Held (T ++ s.take (min s.length (128 - x.off))) (stp x s) := by
  have ho := held_off h
  have hpos : 0 < s.length := List.length_pos_iff.2 hs
  have hlen := h.len
  have hb := h.b
  have htk : s.take (128 - x.off) = s.take (min s.length (128 - x.off)) := by
    rw [List.take_eq_take_iff]; omega
  have hn : (s.take (min s.length (128 - x.off))).length = min s.length (128 - x.off) := by rw [List.length_take]; omega
  have hL : (T ++ s.take (min s.length (128 - x.off))).length = T.length + min s.length (128 - x.off) := by rw [List.length_append, hn]
  have hc : x.c + BitVec.ofInt 64 ((min s.length (128 - x.off) : Nat) : Int) = BitVec.ofNat 64 (T.length + min s.length (128 - x.off)) := by
    rw [h.c, BitVec.ofInt_natCast, BitVec.ofNat_add]
  have hq := sts_app T (s.take (min s.length (128 - x.off))) (T.length / 128) (by omega)
  have hd : (T ++ s.take (min s.length (128 - x.off))).drop (128 * (T.length / 128)) = x.b.take x.off ++ s.take (min s.length (128 - x.off)) := by
    rw [List.drop_append_of_le_length (by omega), ← hb, ho]
  have h128 : (128 : BitVec 64).toNat = 128 := rfl
  have hz : ((BitVec.ofNat 64 (T.length + min s.length (128 - x.off)) % 128 == 0) = true) ↔ (T.length + min s.length (128 - x.off)) % 128 = 0 := by
    rw [beq_iff_eq, ← BitVec.toNat_inj, BitVec.toNat_umod, BitVec.toNat_ofNat, h128]
    show _ = 0 ↔ _
    omega
  refine ⟨stp_blen x s hlen, ?_, ?_, ?_⟩
  · rw [hL]; exact hc
  · show (bif (x.c + BitVec.ofInt 64 ((min s.length (128 - x.off) : Nat) : Int)) % 128 == 0 then nextS x.h (x.b.take x.off ++ s.take (128 - x.off) ++ x.b.drop (x.off + min s.length (128 - x.off))) else x.h) = _
    rw [hc, hL]
    cases hv : (BitVec.ofNat 64 (T.length + min s.length (128 - x.off)) % 128 == 0)
    · have hne : ¬ (T.length + min s.length (128 - x.off)) % 128 = 0 := fun e => by rw [hz.2 e] at hv; cases hv
      have e : (T.length + min s.length (128 - x.off)) / 128 = T.length / 128 := by omega
      rw [e, hq]
      exact h.h
    · have he := hz.1 hv
      have e : (T.length + min s.length (128 - x.off)) / 128 = T.length / 128 + 1 := by omega
      rw [e, sts, hq, hd, ← h.h, htk]
      show nextS _ _ = _
      rw [List.drop_eq_nil_of_le (by omega), List.append_nil]
  · show (x.b.take x.off ++ s.take (128 - x.off) ++ x.b.drop (x.off + min s.length (128 - x.off))).take _ = _
    rw [hL, htk]
    by_cases he : (T.length + min s.length (128 - x.off)) % 128 = 0
    · rw [he, List.take_zero, List.drop_eq_nil_of_le (by rw [hL]; omega)]
    · have e : (T.length + min s.length (128 - x.off)) / 128 = T.length / 128 := by omega
      have e2 : (T.length + min s.length (128 - x.off)) % 128 = x.off + min s.length (128 - x.off) := by omega
      rw [e, hd, e2]
      exact take_app _ _ _ _ (by rw [List.length_take, hn]; omega)
theorem held_fd : ∀ (n : Nat) (s T : List (BitVec 8)) (x : St), s.length ≤ n → Held T x → Held (T ++ s) (fd x s) := by
  intro n
  induction n with
  | zero =>
    intro s T x hs h
    obtain rfl := List.length_eq_zero_iff.1 (Nat.le_zero.1 hs)
    rw [List.append_nil]; exact h
  | succ n ih =>
    intro s T x hs h
    by_cases he : s = []
    · subst he; rw [List.append_nil]; exact h
    · rw [fd_step x s he]
      have h1 := rst_lt x s he
      have := ih (rst x s) _ (stp x s) (by omega) (held_stp h s he)
      rw [List.append_assoc, show s.take (min s.length (128 - x.off)) ++ rst x s = s from List.take_append_drop _ _] at this
      exact this
theorem held_x0 : Held [] x0 := ⟨rfl, rfl, rfl, rfl⟩
theorem held_all : ∀ (l : List (List (BitVec 8))) (T : List (BitVec 8)) (x : St), Held T x → Held (T ++ l.flatten) (l.foldl fd x)
  | [], T, x, h => by rw [List.flatten_nil, List.append_nil]; exact h
  | s :: l, T, x, h => by
    rw [List.flatten_cons, ← List.append_assoc]
    exact held_all l _ _ (held_fd s.length s T x (Nat.le_refl _) h)
theorem held_tak (l : List (List (BitVec 8))) : Held l.flatten (tak l) := held_all l [] x0 held_x0
theorem ends_pad (T : List (BitVec 8)) (h : T.length < 2 ^ 60) : T ++ ends (BitVec.ofNat 64 T.length) = pad T := by
  have hn : (BitVec.ofNat 64 T.length).toNat = T.length := by rw [BitVec.toNat_ofNat]; omega
  have hz : zs (BitVec.ofNat 64 T.length) = 1 + nz T := by rw [zs_val, hn]; rfl
  have hnz : nz T < 128 := Nat.mod_lt _ (by decide)
  have e1 : BitVec.ofNat 64 T.length >>> 61 = 0 := by
    apply BitVec.eq_of_toNat_eq
    rw [BitVec.toNat_ushiftRight, hn, Nat.shiftRight_eq_div_pow]
    show T.length / 2 ^ 61 = 0
    omega
  have e2 : BitVec.ofNat 64 T.length <<< 3 = bits T := by
    apply BitVec.eq_of_toNat_eq
    unfold bits
    rw [BitVec.toNat_shiftLeft, hn, BitVec.ofInt_natCast, BitVec.toNat_mul, hn, Nat.shiftLeft_eq]
    show T.length * 2 ^ 3 % 2 ^ 64 = 8 * T.length % 2 ^ 64
    omega
  have e3 : by64 0 = List.replicate 8 0 := by decide
  have e4 : ((List.replicate 256 (0 : BitVec 8)).set 0 (BitVec.ofInt 8 128)).take (1 + nz T) = [128] ++ List.replicate (nz T) 0 := by
    rw [show (256 : Nat) = 255 + 1 from rfl, List.replicate_succ, List.set_cons_zero, Nat.add_comm, List.take_succ_cons, List.take_replicate, Nat.min_eq_left (by omega)]
    rfl
  unfold ends pad
  rw [hz, e1, e2, e3, e4]
  simp
theorem dOf_eq (l : List (List (BitVec 8))) (h : l.flatten.length < 2 ^ 60) : dOf l = rOf l.flatten := by
  have h1 := held_tak l
  have h2 := held_fd _ (ends (tak l).c) _ _ (Nat.le_refl _) h1
  unfold dOf rOf
  rw [h1.c, ends_pad _ h] at h2
  rw [h1.c, h2.h]
end Go.Proofs.YtdejfaccoepfhaaDoor
