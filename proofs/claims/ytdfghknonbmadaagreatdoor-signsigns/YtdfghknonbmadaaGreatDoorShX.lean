/-
  sha: the two digests are one. No statement is proved here.
-/
import Derived.Test.YtdfghknonbmadaaGreatDoorShW
import Derived.Test.YtdfghknonbmadaaGreatDoorDqB
import Derived.Test.YtdfghknonbmadaaGreatDoorDpB
import Derived.Test.YtdfghknonbmadaaGreatDoorSgC
namespace Go.Proofs.YtdfghknonbmadaaGreatDoor
namespace Sh
open Go.RowKit
set_option linter.unusedVariables false
set_option linter.unusedSimpArgs false
set_option maxRecDepth 100000
structure Held (T : List (BitVec 8)) (x : St) : Prop where
 len : x.b.length = 128
 c : x.c = BitVec.ofNat 64 T.length
 h : x.h = sts T (T.length / 128)
 b : x.b.take (T.length % 128) = T.drop (128 * (T.length / 128))
theorem held_off {T : List (BitVec 8)} {x : St} (h : Held T x) : x.off = T.length % 128 := by
 have : (128 : BitVec 64).toNat = 128 := rfl
 unfold St.off
 rw [h.c, BitVec.toNat_umod, BitVec.toNat_ofNat, this]
 omega
theorem held_stp {T : List (BitVec 8)} {x : St} (h : Held T x) (s : List (BitVec 8)) (hs : s ≠ []) : Held (T ++ s.take (min s.length (128 - x.off))) (stp x s) := by
 have ho := held_off h
 have hpos : 0 < s.length := List.length_pos_iff.2 hs
 have hlen := h.len
 have hb := h.b
 have htk : s.take (128 - x.off) = s.take (min s.length (128 - x.off)) := by
  rw [List.take_eq_take_iff]; omega
 have hn : (s.take (min s.length (128 - x.off))).length = min s.length (128 - x.off) := by rw [List.length_take]; omega
 have hL : (T ++ s.take (min s.length (128 - x.off))).length = T.length + min s.length (128 - x.off) := by rw [List.length_append, hn]
 have hc : x.c + BitVec.ofInt 64 ((min s.length (128 - x.off) : Nat) : Int) = BitVec.ofNat 64 (T.length + min s.length (128 - x.off)) := by
  rw [h.c, BitVec.ofInt_natCast, BitVec.ofNat_add]
 have hq := sts_app T (s.take (min s.length (128 - x.off))) (T.length / 128) (by omega)
 have hd : (T ++ s.take (min s.length (128 - x.off))).drop (128 * (T.length / 128)) = x.b.take x.off ++ s.take (min s.length (128 - x.off)) := by
  rw [List.drop_append_of_le_length (by omega), ← hb, ho]
 have h128 : (128 : BitVec 64).toNat = 128 := rfl
 have hz : ((BitVec.ofNat 64 (T.length + min s.length (128 - x.off)) % 128 == 0) = true) ↔ (T.length + min s.length (128 - x.off)) % 128 = 0 := by
  rw [beq_iff_eq, ← BitVec.toNat_inj, BitVec.toNat_umod, BitVec.toNat_ofNat, h128]
  show _ = 0 ↔ _
  omega
 refine ⟨stp_blen x s hlen, ?_, ?_, ?_⟩
 ·rw [hL]; exact hc
 ·show (bif (x.c + BitVec.ofInt 64 ((min s.length (128 - x.off) : Nat) : Int)) % 128 == 0 then nextS x.h (x.b.take x.off ++ s.take (128 - x.off) ++ x.b.drop (x.off + min s.length (128 - x.off))) else x.h) = _
  rw [hc, hL]
  cases hv : (BitVec.ofNat 64 (T.length + min s.length (128 - x.off)) % 128 == 0)
  ·have hne : ¬ (T.length + min s.length (128 - x.off)) % 128 = 0 := fun e => by rw [hz.2 e] at hv; cases hv
   have e : (T.length + min s.length (128 - x.off)) / 128 = T.length / 128 := by omega
   rw [e, hq]
   exact h.h
  ·have he := hz.1 hv
   have e : (T.length + min s.length (128 - x.off)) / 128 = T.length / 128 + 1 := by omega
   rw [e, sts, hq, hd, ← h.h, htk]
   show nextS _ _ = _
   rw [List.drop_eq_nil_of_le (by omega), List.append_nil]
 ·show (x.b.take x.off ++ s.take (128 - x.off) ++ x.b.drop (x.off + min s.length (128 - x.off))).take _ = _
  rw [hL, htk]
  by_cases he : (T.length + min s.length (128 - x.off)) % 128 = 0
  ·rw [he, List.take_zero, List.drop_eq_nil_of_le (by rw [hL]; omega)]
  ·have e : (T.length + min s.length (128 - x.off)) / 128 = T.length / 128 := by omega
   have e2 : (T.length + min s.length (128 - x.off)) % 128 = x.off + min s.length (128 - x.off) := by omega
   rw [e, hd, e2]
   exact take_app _ _ _ _ (by rw [List.length_take, hn]; omega)
theorem held_fd : ∀ (n : Nat) (s T : List (BitVec 8)) (x : St), s.length ≤ n → Held T x → Held (T ++ s) (fd x s) := by
 intro n
 induction n with
 | zero =>
  intro s T x hs h
  obtain rfl := List.length_eq_zero_iff.1 (Nat.le_zero.1 hs)
  rw [List.append_nil]; exact h
 | succ n ih =>
  intro s T x hs h
  by_cases he : s = []
  ·subst he; rw [List.append_nil]; exact h
  ·rw [fd_step x s he]
   have h1 := rst_lt x s he
   have := ih (rst x s) _ (stp x s) (by omega) (held_stp h s he)
   rw [List.append_assoc, show s.take (min s.length (128 - x.off)) ++ rst x s = s from List.take_append_drop _ _] at this
   exact this
theorem held_x0 : Held [] x0 := ⟨rfl, rfl, rfl, rfl⟩
theorem held_all : ∀ (l : List (List (BitVec 8))) (T : List (BitVec 8)) (x : St), Held T x → Held (T ++ l.flatten) (l.foldl fd x)
 | [], T, x, h => by rw [List.flatten_nil, List.append_nil]; exact h
 | s :: l, T, x, h => by
  rw [List.flatten_cons, ← List.append_assoc]
  exact held_all l _ _ (held_fd s.length s T x (Nat.le_refl _) h)
theorem held_tak (l : List (List (BitVec 8))) : Held l.flatten (tak l) := held_all l [] x0 held_x0
theorem ends_pad (T : List (BitVec 8)) (h : T.length < 2 ^ 60) : T ++ ends (BitVec.ofNat 64 T.length) = pad T := by
 have hn : (BitVec.ofNat 64 T.length).toNat = T.length := by rw [BitVec.toNat_ofNat]; omega
 have hz : zs (BitVec.ofNat 64 T.length) = 1 + nz T := by rw [zs_val, hn]; rfl
 have hnz : nz T < 128 := Nat.mod_lt _ (by decide)
 have e1 : BitVec.ofNat 64 T.length >>> 61 = 0 := by
  apply BitVec.eq_of_toNat_eq
  rw [BitVec.toNat_ushiftRight, hn, Nat.shiftRight_eq_div_pow]
  show T.length / 2 ^ 61 = 0
  omega
 have e2 : BitVec.ofNat 64 T.length <<< 3 = bits T := by
  apply BitVec.eq_of_toNat_eq
  unfold bits
  rw [BitVec.toNat_shiftLeft, hn, BitVec.ofInt_natCast, BitVec.toNat_mul, hn, Nat.shiftLeft_eq]
  show T.length * 2 ^ 3 % 2 ^ 64 = 8 * T.length % 2 ^ 64
  omega
 have e3 : by64 0 = List.replicate 8 0 := by decide
 have e4 : ((List.replicate 256 (0 : BitVec 8)).set 0 (BitVec.ofInt 8 128)).take (1 + nz T) = [128] ++ List.replicate (nz T) 0 := by
  rw [show (256 : Nat) = 255 + 1 from rfl, List.replicate_succ, List.set_cons_zero, Nat.add_comm, List.take_succ_cons, List.take_replicate, Nat.min_eq_left (by omega)]
  rfl
 unfold ends pad
 rw [hz, e1, e2, e3, e4]
 simp
theorem dOf_eq (l : List (List (BitVec 8))) (h : l.flatten.length < 2 ^ 60) : dOf l = rOf l.flatten := by
 have h1 := held_tak l
 have h2 := held_fd _ (ends (tak l).c) _ _ (Nat.le_refl _) h1
 unfold dOf rOf
 rw [h1.c, ends_pad _ h] at h2
 rw [h1.c, h2.h]
end Sh
end Go.Proofs.YtdfghknonbmadaaGreatDoor
namespace Go.Proofs.YtdfghknonbmadaaGreatDoor
namespace Dc
open Go.RowKit
set_option linter.unusedVariables false
set_option linter.unusedSimpArgs false
set_option maxRecDepth 100000
open Mt.Dg (w9 dg bb nv Q Qd rd byt vbl vb)
open Mt (Lq Pd IsR rad zr br mq ad sb)
def ENm (R O C : Tx8 → Tx8) : Env := ⟨GE, (((noT.add 21 (Sh.cRef R)).add 20 (cO7 O)).add 41 (cK7 C)).add flagW cFlagZ, noC⟩
theorem vaNm (R O C : Tx8 → Tx8) (s : Tx8) (K : SV → Prop) : (vf Tryz.prog (ENm R O C) noL 15 [.s s] GE (fun r _ => K r)) = (bif (List.length s).ble 1000000000 then bif ile (32 : Int) (↑(List.length (R s)) : Int) then bif (List.drop 0 (List.take 32 (R s))).length.beq 32 then bif (List.length (C (List.drop 0 (List.take 32 (R s))))).ble 100 then bif ile (32 : Int) (↑(List.length (R s)) : Int) && ile (↑(List.length (R s)) : Int) (↑(List.length (R s)) : Int) then (bif (List.length (O (C (List.drop 0 (List.take 32 (R s)))))).beq 32 && (List.length (O (C (List.drop 0 (List.take 32 (R s)))))).beq 32 then bif (List.length (O (C (List.drop 0 (List.take 32 (R s)))))).beq 32 && true && true then K (SV.tup [SV.a8 (O (C (List.drop 0 (List.take 32 (R s))))), SV.s (List.drop 32 (List.take (List.length (R s)) (R s)))]) else False else False) ∧ True else False else False else False else False else False) := by kernel_rfl
def cN7 (A P : Tx8 → Tx8) : List SV → List Cont → Option (Bool × SV)
 | [.s s], _ => some (Nat.ble s.length 1000, .tup [.a8 (A s), .s (P s)])
 | _, _ => none
def EPb7 (A P : Tx8 → Tx8) (b : W6) (C : W6 → Bool) (T : W6 → Tx8 → W6) (B : W6 → Tx8) : Env := ⟨GE, ((((noT.add 15 (cN7 A P)).add 16 (cP0 b)).add 17 (cPT C T)).add 18 (cPBy C B)).add flagW cFlagZ, noC⟩
theorem vaPb7 (A P : Tx8 → Tx8) (b : W6) (C : W6 → Bool) (T : W6 → Tx8 → W6) (B : W6 → Tx8) (s : Tx8) (K : SV → Prop) : (vf Tryz.prog (EPb7 A P b C T B) noL 8 [.s s] GE (fun r _ => K r)) = (bif (↑(List.length s) : Int) != (32 : Int) then K (SV.tup [SV.s (bts { data := #[] }), SV.i (2 : Int)]) else bif (List.length s).ble 1000 then bif (List.length (A s)).beq 32 && (List.length (A s)).beq 32 then bif (List.length (A s)).beq 32 then bif C (p27 b) && (List.length (A s)).beq 32 then bif C (p27 (T (p27 b) (A s))) then K (SV.tup [SV.s (B (p27 (T (p27 b) (A s)))), SV.i (0 : Int)]) else False else False else False else False else False) := by kernel_rfl
def ESg7 (U : Tx8 → Tx8) (R O : Tx8 → Tx8) (A P : Tx8 → Tx8) (b : W6) (C : W6 → Bool) (T : W6 → Tx8 → W6) (B : W6 → Tx8) (X : Tx8 → Tx8 → Tx8 → Tx8) : Env := ⟨GE, (((((((((noT.add 15 (cN7 A P)).add 16 (cP0 b)).add 17 (cPT C T)).add 18 (cPBy C B)).add 8 (cPb U)).add 21 (Sh.cRef R)).add 20 (cO7 O)).add 22 (cMA X)).add 23 (c81 fun l => l)).add flagW cFlagZ, noC⟩
theorem vaSg7 (U R O A P : Tx8 → Tx8) (b : W6) (C : W6 → Bool) (T : W6 → Tx8 → W6) (B : W6 → Tx8) (X : Tx8 → Tx8 → Tx8 → Tx8) (s m : Tx8) (K : SV → Prop) : (vf Tryz.prog (ESg7 U R O A P b C T B X) noL 10 [.s s, .s m] GE (fun r _ => K r)) = (bif (bif (List.length s).beq 32 then (0 : Int) else (2 : Int)) != (0 : Int) then K (SV.tup [SV.s (bts { data := #[] }), SV.i (bif (List.length s).beq 32 then (0 : Int) else (2 : Int))]) else bif (List.length s).ble 1000 then bif (List.length (A s)).beq 32 && (List.length (A s)).beq 32 then bif ile (↑(List.length (P s) + List.length m) : Int) (9223372036854775807 : Int) then bif (P s ++ m).length.ble 1000000000 then bif (List.length (R (P s ++ m))).ble 100 then bif (List.length (O (R (P s ++ m)))).beq 32 && (List.length (O (R (P s ++ m)))).beq 32 then bif (List.length (O (R (P s ++ m)))).beq 32 then bif C (p27 b) && (List.length (O (R (P s ++ m)))).beq 32 then bif C (p27 (T (p27 b) (O (R (P s ++ m))))) then bif ile (↑(List.length (B (p27 (T (p27 b) (O (R (P s ++ m)))))) + (bif (List.length s).beq 32 then U s else []).length) : Int) (9223372036854775807 : Int) then bif ile (↑((B (p27 (T (p27 b) (O (R (P s ++ m))))) ++ bif (List.length s).beq 32 then U s else []).length + List.length m) : Int) (9223372036854775807 : Int) then bif ((B (p27 (T (p27 b) (O (R (P s ++ m))))) ++ bif (List.length s).beq 32 then U s else []) ++ m).length.ble 1000000000 then bif (List.length (R ((B (p27 (T (p27 b) (O (R (P s ++ m))))) ++ bif (List.length s).beq 32 then U s else []) ++ m))).ble 100 then bif (List.length (O (R ((B (p27 (T (p27 b) (O (R (P s ++ m))))) ++ bif (List.length s).beq 32 then U s else []) ++ m)))).beq 32 && (List.length (O (R ((B (p27 (T (p27 b) (O (R (P s ++ m))))) ++ bif (List.length s).beq 32 then U s else []) ++ m)))).beq 32 then bif (List.length (O (R ((B (p27 (T (p27 b) (O (R (P s ++ m))))) ++ bif (List.length s).beq 32 then U s else []) ++ m)))).beq 32 then bif (List.length (A s)).beq 32 then bif (List.length (O (R (P s ++ m)))).beq 32 then bif (List.length (O (R ((B (p27 (T (p27 b) (O (R (P s ++ m))))) ++ bif (List.length s).beq 32 then U s else []) ++ m)))).beq 32 && ((List.length (A s)).beq 32 && (List.length (O (R (P s ++ m)))).beq 32) then bif (List.length (X (O (R ((B (p27 (T (p27 b) (O (R (P s ++ m))))) ++ bif (List.length s).beq 32 then U s else []) ++ m))) (A s) (O (R (P s ++ m))))).beq 32 then bif ile (↑(List.length (B (p27 (T (p27 b) (O (R (P s ++ m)))))) + List.length (X (O (R ((B (p27 (T (p27 b) (O (R (P s ++ m))))) ++ bif (List.length s).beq 32 then U s else []) ++ m))) (A s) (O (R (P s ++ m))))) : Int) (9223372036854775807 : Int) then K (SV.tup [SV.s (B (p27 (T (p27 b) (O (R (P s ++ m))))) ++ X (O (R ((B (p27 (T (p27 b) (O (R (P s ++ m))))) ++ bif (List.length s).beq 32 then U s else []) ++ m))) (A s) (O (R (P s ++ m)))), SV.i (0 : Int)]) else False else False else False else False else False else False else False else False else False else False else False else False else False else False else False else False else False else False else False else False) := by kernel_rfl
theorem number_gen7 (R O C : Tx8 → Tx8) (hR : ∀ s, (R s).length = 64) (hC : ∀ l, (C l).length = l.length) (hO : ∀ l, (O l).length = 32) (hE : EnvOk Tryz.prog (ENm R O C)) : POk Tryz.prog GE 15 (cN7 (fun s => O (C (List.take 32 (R s)))) (fun s => List.drop 32 (R s))) := by
 intro args acs r hh β M w hR' hw ha
 unfold cN7 at hh
 split at hh
 ·rename_i s
  simp only [Option.some.injEq, Prod.mk.injEq] at hh
  obtain ⟨h1, rfl⟩ := hh
  have h1 := Nat.le_of_ble_eq_true h1
  refine pokE (E := ENm R O C) rfl hE (vaNm R O C s _) ?_ rfl rfl hR'
  have ht : (List.take 32 (R s)).length = 32 := by rw [List.length_take, hR]; rfl
  have i1 : ile 32 ((R s).length : Int) = true := by rw [ile_eq, hR]; exact decide_eq_true (by omega)
  rw [List.drop_zero, hC, ht, hO, i1]
  refine bif_of (Nat.ble_eq_true_of_le (by omega)) (bif_of rfl (bif_of rfl (bif_of rfl (bif_of ?_ ⟨bif_of rfl (bif_of rfl ?_), trivial⟩))))
  ·rw [Bool.true_and, ile_eq]; exact decide_eq_true (Int.le_refl _)
  ·rw [List.take_length]
 ·cases hh
theorem public_gen7 (A P U : Tx8 → Tx8) (b : W6) (C : W6 → Bool) (T : W6 → Tx8 → W6) (B : W6 → Tx8) (hA : ∀ s, (A s).length = 32) (hb : C (p27 b) = true) (hT : ∀ s, C (p27 (T (p27 b) (A s))) = true) (hU : ∀ s, s.length = 32 → B (p27 (T (p27 b) (A s))) = U s) (hE : EnvOk Tryz.prog (EPb7 A P b C T B)) : POk Tryz.prog GE 8 (cPb U) := by
 intro args acs r hh β M w hR' hw ha
 unfold cPb at hh
 split at hh
 ·rename_i s
  simp only [Option.some.injEq, Prod.mk.injEq, true_and] at hh
  subst hh
  refine pokE (E := EPb7 A P b C T B) rfl hE (vaPb7 A P b C T B s _) ?_ rfl rfl hR'
  by_cases hs : s.length = 32
  ·rw [nb_of hs, show Nat.beq s.length 32 = true by rw [hs]; rfl, hA s]
   refine bif_of (by rw [hs]; rfl) (bif_of rfl (bif_of rfl (bif_of (by rw [hb]; rfl) (bif_of (hT s) ?_))))
   exact congrArg (fun x => SV.tup [SV.s x, SV.i 0]) (hU s hs)
  ·rw [show ((s.length : Int) != 32) = true from bne_iff_ne.2 (by omega), beqF hs]
   rfl
 ·cases hh
def sg7 (U R O A P : Tx8 → Tx8) (b : W6) (T : W6 → Tx8 → W6) (B : W6 → Tx8) (X : Tx8 → Tx8 → Tx8 → Tx8) (s m : Tx8) : Tx8 := B (p27 (T (p27 b) (O (R (P s ++ m))))) ++ X (O (R ((B (p27 (T (p27 b) (O (R (P s ++ m))))) ++ U s) ++ m))) (A s) (O (R (P s ++ m)))
theorem ile_le {a b : Int} (h : a ≤ b) : ile a b = true := by rw [ile_eq]; exact decide_eq_true h
theorem sign_gen7 (U R O A P : Tx8 → Tx8) (b : W6) (C : W6 → Bool) (T : W6 → Tx8 → W6) (B : W6 → Tx8) (X : Tx8 → Tx8 → Tx8 → Tx8) (G : Tx8 → Tx8 → Tx8) (hUl : ∀ s, (U s).length = 32) (hR : ∀ s, (R s).length = 64) (hO : ∀ l, (O l).length = 32) (hA : ∀ s, (A s).length = 32) (hP : ∀ s, (P s).length = 32) (hB : ∀ x, (B x).length = 32) (hX : ∀ x y z, (X x y z).length = 32) (hb : C (p27 b) = true) (hT : ∀ l, C (p27 (T (p27 b) (O l))) = true) (hG : ∀ s m, s.length = 32 → m.length ≤ 1000000 → sg7 U R O A P b T B X s m = G s m) (hE : EnvOk Tryz.prog (ESg7 U R O A P b C T B X)) : POk Tryz.prog GE 10 (cSg G) := by
 intro args acs r hh β M w hR' hw ha
 unfold cSg at hh
 split at hh
 ·rename_i s m
  simp only [Option.some.injEq, Prod.mk.injEq] at hh
  obtain ⟨hm, rfl⟩ := hh
  have hm := Nat.le_of_ble_eq_true hm
  refine pokE (E := ESg7 U R O A P b C T B X) rfl hE (vaSg7 U R O A P b C T B X s m _) ?_ rfl rfl hR'
  by_cases hs : s.length = 32
  ·have hg := hG s m hs hm
   rw [show Nat.beq s.length 32 = true by rw [hs]; rfl, cond_true, cond_true, cond_true, show ((0 : Int) != 0) = false from rfl, cond_false]
   unfold sg7 at hg
   rw [hO (R (P s ++ m)), hO, hA s, hX, hR, hR, hB]
   refine bif_of (by rw [hs]; rfl) (bif_of rfl (bif_of (ile_le (by rw [hP]; omega)) (bif_of (Nat.ble_eq_true_of_le (by rw [List.length_append, hP]; omega)) (bif_of rfl (bif_of rfl (bif_of rfl (bif_of (by rw [hb]; rfl) (bif_of (hT _) (bif_of (ile_le (by rw [hUl]; omega)) (bif_of (ile_le (by rw [List.length_append, hB, hUl]; omega)) (bif_of (Nat.ble_eq_true_of_le (by rw [List.length_append, List.length_append, hB, hUl]; omega)) (bif_of rfl (bif_of rfl (bif_of rfl (bif_of rfl (bif_of rfl (bif_of rfl (bif_of rfl (bif_of (ile_le (by omega)) ?_)))))))))))))))))))
   rw [hg]
  ·rw [beqF hs]
   rfl
 ·cases hh
theorem rd_le (l : Tx8) : ∀ n, rd l n = Mt.le l n
 | 0 => rfl
 | n + 1 => by
  show rd l n + byt l n * 256 ^ n = Mt.le l n + (l.getD n 0).toNat * 256 ^ n
  rw [rd_le l n]
  rfl
theorem by_wr {n : Nat} (h : n < 115792089237316195423570985008687907853269984665640564039457584007913129639936) : wrX (Mt.enc n) = byD n := by
 have e := byD_rd (Mt.wr_len (Mt.enc n))
 rw [rd_le, Mt.le_enc h] at e
 exact e
theorem bt_ec {q : Pd} {p : Mt.Ed.Pt} (h : IsR q p) : bt1 q = Mt.ec p := by
 unfold bt1 Mt.ec
 rw [h.vx, h.vy, by_wr (Mt.lt4 (Mt.Ed.val_lt p.y))]
theorem tm_ti (q : Pd) (h : Sd q) {n : Nat} (hn : n < 115792089237316195423570985008687907853269984665640564039457584007913129639936) : p27 (tiF (p27 (pd q)) (byD n)) = pd (Mt.tmD q n 256) := by
 unfold tiF
 rw [p27_pd, p27_pd, np_pd h, rd_by hn]
theorem br_sd : Sd br := Sd.of Mt.br_is
theorem base_q (l : Tx8) : Qp (p27 (tiF (p27 (pd br)) l)) = true := by
 unfold tiF
 rw [p27_pd]
 exact Qp_pd (tm_sd _ _ _)
theorem base_ec {n : Nat} (hn : n < Lq) : pbF (p27 (tiF (p27 (pd br)) (byD n))) = Mt.ec (Mt.Ed.nm n Mt.Bp) := by
 rw [tm_ti br br_sd (Lq_lt4 hn)]
 unfold pbF
 rw [np_pd (tm_sd _ _ _)]
 exact bt_ec (Mt.tmD_all Mt.br_is (Lq_lt4 hn))
structure DR (D : TL → Tx8) (R : Tx8 → Tx8) : Prop where
 len : ∀ l, (D l).length = 64
 ren : ∀ s, (R s).length = 64
 eq : ∀ l, l.flatten.length ≤ 1000000000 → D l = R l.flatten
def A7 (R : Tx8 → Tx8) (s : Tx8) : Tx8 := o7F (clX (List.take 32 (R s)))
def P7 (R : Tx8 → Tx8) (s : Tx8) : Tx8 := List.drop 32 (R s)
theorem o7_len (l : Tx8) : (o7F l).length = 32 := byD_len _
theorem enm_ok (R : Tx8 → Tx8) (hO : POk Tryz.prog GE 21 (Sh.cRef R)) : EnvOk Tryz.prog (ENm R o7F clX) := ⟨PT.add_ok (PT.add_ok (PT.add_ok (PT.add_ok (noT_ok _ _) hO) ofO7_ok) clampO7_ok) (flagZ_ok _), noC_ok _ _⟩
theorem number7_ok (R : Tx8 → Tx8) (hR : ∀ s, (R s).length = 64) (hO : POk Tryz.prog GE 21 (Sh.cRef R)) : POk Tryz.prog GE 15 (cN7 (A7 R) (P7 R)) := number_gen7 R o7F clX hR clX_len o7_len (enm_ok R hO)
theorem D1 {D : TL → Tx8} {R : Tx8 → Tx8} (h : DR D R) {s : Tx8} (hs : s.length ≤ 1000) : D [s] = R s := by
 have := h.eq [s] (by simp; omega)
 rw [this]
 simp
theorem A7_is {D : TL → Tx8} {R : Tx8 → Tx8} (h : DR D R) {s : Tx8} (hs : s.length ≤ 1000) : A7 R s = byD (nA D s) := by
 unfold A7 nA o7F
 have hl : (clX (List.take 32 (R s))).length = 32 := by rw [clX_len, List.length_take, h.ren]; rfl
 rw [D1 h hs, hl, rd_le]
theorem epb7_ok (R : Tx8 → Tx8) (hR : ∀ s, (R s).length = 64) (hO : POk Tryz.prog GE 21 (Sh.cRef R)) : EnvOk Tryz.prog (EPb7 (A7 R) (P7 R) (pd br) Qp tiF pbF) := ⟨PT.add_ok (PT.add_ok (PT.add_ok (PT.add_ok (PT.add_ok (noT_ok _ _) (number7_ok R hR hO)) baseD_ok) timesPD_ok) bytesPD_ok) (flagZ_ok _), noC_ok _ _⟩
theorem qp_base : Qp (p27 (pd br)) = true := by rw [p27_pd]; exact Qp_pd br_sd
theorem public7_ok {D : TL → Tx8} {R : Tx8 → Tx8} (h : DR D R) (hO : POk Tryz.prog GE 21 (Sh.cRef R)) : POk Tryz.prog GE 8 (cPb (pbX D)) := public_gen7 (A7 R) (P7 R) (pbX D) (pd br) Qp tiF pbF (fun s => o7_len _) qp_base (fun s => base_q _) (fun s hs => by
 rw [A7_is h (by omega), base_ec (n := nA D s) (mod_lt' _), pb_ec D h.len]) (epb7_ok R h.ren hO)
theorem set31 (y : Tx8) (b : Bool) (v : BitVec 8) (h : y.length = 32) : (bif b then y.set 31 v else y).length = 32 := by
 cases b
 ·exact h
 ·rw [cond_true, List.length_set]; exact h
theorem pb_len (p : W6) : (pbF p).length = 32 := by
 unfold pbF bt1
 exact set31 _ _ _ (byD_len _)
theorem ma_len (a b c : Tx8) : (ma7 a b c).length = 32 := byD_len _
theorem pX_len (D : TL → Tx8) (hD : ∀ l, (D l).length = 64) (s : Tx8) : (pbX D s).length = 32 := by rw [pb_ec D hD]; exact Mt.ec_len _
theorem p7_len (R : Tx8 → Tx8) (hR : ∀ s, (R s).length = 64) (s : Tx8) : (P7 R s).length = 32 := by unfold P7; rw [List.length_drop, hR]
theorem o7_64 {l : Tx8} (h : l.length = 64) : o7F l = byD (Mt.le l 64 % Lq) := by unfold o7F; rw [h, rd_le]
theorem ma_by {a b c : Nat} (ha : a < Lq) (hb : b < Lq) (hc : c < Lq) : ma7 (byD a) (byD b) (byD c) = byD ((a * b + c) % Lq) := by
 unfold ma7
 rw [rd_by (Lq_lt4 ha), rd_by (Lq_lt4 hb), rd_by (Lq_lt4 hc)]
theorem sg7_is {D : TL → Tx8} {R : Tx8 → Tx8} (h : DR D R) {s m : Tx8} (hs : s.length = 32) (hm : m.length ≤ 1000000) : sg7 (pbX D) R o7F (A7 R) (P7 R) (pd br) tiF pbF ma7 s m = sgX D s m := by
 have hp : P7 R s = opP D s := by unfold P7 opP; rw [D1 h (by omega)]
 have hpl := p7_len R h.ren s
 have e1 : R (P7 R s ++ m) = D [opP D s, m] := by
  rw [h.eq [opP D s, m] (by rw [← hp]; simp; omega), hp]
  simp
 have er : o7F (R (P7 R s ++ m)) = byD (nR D s m) := by rw [e1, o7_64 (h.len _)]; rfl
 have hr : nR D s m < Lq := mod_lt' _
 have ha : nA D s < Lq := mod_lt' _
 have hk : nK D s m < Lq := mod_lt' _
 unfold sg7
 rw [er, base_ec hr, pb_ec D h.len, A7_is h (by omega)]
 have l1 := Mt.ec_len (Mt.Ed.nm (nR D s m) Mt.Bp)
 have l2 := Mt.ec_len (Mt.Ed.nm (nA D s) Mt.Bp)
 have e2 : R ((Mt.ec (Mt.Ed.nm (nR D s m) Mt.Bp) ++ Mt.ec (Mt.Ed.nm (nA D s) Mt.Bp)) ++ m) = D [Mt.ec (Mt.Ed.nm (nR D s m) Mt.Bp), Mt.ec (Mt.Ed.nm (nA D s) Mt.Bp), m] := by
  rw [h.eq [Mt.ec (Mt.Ed.nm (nR D s m) Mt.Bp), Mt.ec (Mt.Ed.nm (nA D s) Mt.Bp), m] (by
   rw [List.flatten_cons, List.flatten_cons, List.flatten_cons, List.flatten_nil, List.append_nil, List.length_append, List.length_append, l1, l2]; omega)]
  rw [List.flatten_cons, List.flatten_cons, List.flatten_cons, List.flatten_nil, List.append_nil, List.append_assoc]
 have ek : o7F (R ((Mt.ec (Mt.Ed.nm (nR D s m) Mt.Bp) ++ Mt.ec (Mt.Ed.nm (nA D s) Mt.Bp)) ++ m)) = byD (nK D s m) := by rw [e2, o7_64 (h.len _)]; rfl
 rw [ek, ma_by hk ha hr, sg_is D h.len]
 have hS : nS D s m < Lq := mod_lt' _
 rw [by_wr (Lq_lt4 hS)]
 rfl
theorem esg7_ok {D : TL → Tx8} {R : Tx8 → Tx8} (h : DR D R) (hO : POk Tryz.prog GE 21 (Sh.cRef R)) : EnvOk Tryz.prog (ESg7 (pbX D) R o7F (A7 R) (P7 R) (pd br) Qp tiF pbF ma7) := ⟨PT.add_ok (PT.add_ok (PT.add_ok (PT.add_ok (PT.add_ok (PT.add_ok (PT.add_ok (PT.add_ok (PT.add_ok (PT.add_ok (noT_ok _ _) (number7_ok R h.ren hO)) baseD_ok) timesPD_ok) bytesPD_ok) (public7_ok h hO)) hO) ofO7_ok) muladdO7_ok) bytesO7_ok) (flagZ_ok _), noC_ok _ _⟩
theorem sign7_ok {D : TL → Tx8} {R : Tx8 → Tx8} (h : DR D R) (hO : POk Tryz.prog GE 21 (Sh.cRef R)) : POk Tryz.prog GE 10 (cSg (sgX D)) := sign_gen7 (pbX D) R o7F (A7 R) (P7 R) (pd br) Qp tiF pbF ma7 (sgX D) (pX_len D h.len) h.ren o7_len (fun s => o7_len _) (p7_len R h.ren) pb_len ma_len qp_base (fun l => base_q _) (fun s m hs hm => sg7_is h hs hm) (esg7_ok h hO)
end Dc
end Go.Proofs.YtdfghknonbmadaaGreatDoor
