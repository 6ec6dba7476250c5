/-
  sign: Verify, over letters. No statement is proved here.
-/
import Derived.Test.YtdfghknonbmadaaGreatDoorMtA
namespace Go.Proofs.YtdfghknonbmadaaGreatDoor
open Go.RowKit
set_option linter.unusedVariables false
set_option linter.unusedSimpArgs false
set_option maxRecDepth 100000
structure Ve where
 C : Tx8 → Bool
 P : Tx8 → W6
 E : Tx8 → Int
 N : W6 → Bool
 D : W6 → W6
 K : Tx8 → W6
 W : W6 → Bool
 F : TL → W6
 T : W6 → W6
 B : W6 → W6 → W6 → W6
 A : W6 → W6 → W6
 S : W6 → W6 → Bool
def Eve (v : Ve) : Env := ⟨GE, ((((((((noT.add 24 (cCa v.C)).add 25 (cDe v.P v.E)).add 26 (cWk v.N v.D v.W)).add 27 (cNm v.F)).add 29 (c1k v.K)).add 28 (cTm v.T)).add 32 (cBt v.N v.B)).add 31 (cA2 v.N v.A)).add 30 (cAb v.N v.S), noC⟩
theorem verify_e (v : Ve) (p m s : Tx8) (K0 : SV → Prop) : vf Tryz.prog (Eve v) noL 11 [.s p, .s m, .s s] GE (fun r _ => K0 r) = (bif (s.length : Int) != 64 then K0 (.b false) else bif ile 32 (s.length : Int) then bif ile 32 (s.length : Int) && ile (s.length : Int) (s.length : Int) then bif !v.C (List.drop 32 (List.take s.length s)) then K0 (.b false) else bif (v.E p != 0) == false then bif (v.E p != 0) == false then bif !v.N (p16 (v.P p)) && (!v.N (p16 (v.D (p16 (v.P p)))) && (!v.N (p16 (v.D (p16 (v.D (p16 (v.P p)))))) && !v.N (p16 (v.D (p16 (v.D (p16 (v.D (p16 (v.P p)))))))))) then bif bif v.E p != 0 then true else v.W (p16 (v.P p)) then K0 (.b false) else bif v.E (List.take 32 s) != 0 then K0 (.b false) else bif Sh.okL [(List.take 32 s), p, m] then bif Nat.beq (List.drop 32 (List.take s.length s)).length 32 || Nat.beq (List.drop 32 (List.take s.length s)).length 64 then bif !v.N (p16 (v.P p)) then bif !v.N (p16 (v.P (List.take 32 s))) && !v.N (p16 (v.B (p16 (v.P p)) (w4 (v.F [(List.take 32 s), p, m])) [0, 0, 0, 0])) then bif !v.N (p16 (v.T (w4 (v.K (List.drop 32 (List.take s.length s)))))) && !v.N (p16 (v.A (p16 (v.P (List.take 32 s))) (p16 (v.B (p16 (v.P p)) (w4 (v.F [(List.take 32 s), p, m])) [0, 0, 0, 0])))) then K0 (.b (v.S (p16 (v.T (w4 (v.K (List.drop 32 (List.take s.length s)))))) (p16 (v.A (p16 (v.P (List.take 32 s))) (p16 (v.B (p16 (v.P p)) (w4 (v.F [(List.take 32 s), p, m])) [0, 0, 0, 0])))))) else False else False else False else False else False else False else bif v.E p != 0 then K0 (.b false) else False else bif (v.E p != 0) == false then False else bif v.E p != 0 then K0 (.b false) else False else False else False) := by kernel_rfl
def veF (v : Ve) (p m s : Tx8) : Bool := Nat.beq s.length 64 && (v.C (List.drop 32 s) && ((v.E p == 0) && (!v.W (p16 (v.P p)) && ((v.E (List.take 32 s) == 0) && v.S (p16 (v.T (w4 (v.K (List.drop 32 s))))) (p16 (v.A (p16 (v.P (List.take 32 s))) (p16 (v.B (p16 (v.P p)) (w4 (v.F [List.take 32 s, p, m])) [0, 0, 0, 0]))))))))
def cVe (F : Tx8 → Tx8 → Tx8 → Bool) : List SV → List Cont → Option (Bool × SV)
 | [.s p, .s m, .s s], _ => some (Nat.ble m.length 1000000, .b (F p m s))
 | _, _ => none
theorem verify_gen (v : Ve) (G : W6 → Prop) (hG : ∀ p, G p → v.N p = false) (hP : ∀ s, v.E s = 0 → s.length = 32 ∧ G (p16 (v.P s))) (hD : ∀ p, G p → G (p16 (v.D p))) (hB : ∀ p l, G p → G (p16 (v.B p (w4 (v.F l)) [0, 0, 0, 0]))) (hA : ∀ p q, G p → G q → G (p16 (v.A p q))) (hT : ∀ s, s.length = 32 → G (p16 (v.T (w4 (v.K s))))) (hE : EnvOk Tryz.prog (Eve v)) : POk Tryz.prog GE 11 (cVe (veF v)) := by
 intro args acs r hh β M w hR hw ha
 unfold cVe at hh
 split at hh
 ·rename_i p m s
  simp only [Option.some.injEq, Prod.mk.injEq] at hh
  obtain ⟨h1, rfl⟩ := hh
  have h1 := Nat.le_of_ble_eq_true h1
  refine pokE (E := Eve v) rfl hE (verify_e v p m s fun r => r = .b (veF v p m s)) ?_ rfl rfl hR
  unfold veF
  rw [List.take_length]
  by_cases hs : s.length = 64
  ·have e0 : ((s.length : Int) != 64) = false := by rw [hs]; rfl
   have e1 : Nat.beq s.length 64 = true := by rw [hs]; rfl
   have e2 : ile 32 (s.length : Int) = true := by rw [ile_eq, hs]; rfl
   have e3 : ile (s.length : Int) (s.length : Int) = true := by rw [ile_eq]; exact decide_eq_true (by omega)
   have l1 : (List.take 32 s).length = 32 := by rw [List.length_take, hs]; rfl
   have l2 : (List.drop 32 s).length = 32 := by rw [List.length_drop, hs]
   rw [e0, e1, e2, e3]
   simp only [cond_false, cond_true, Bool.true_and]
   cases hC : v.C (List.drop 32 s)
   ·rfl
   ·simp only [Bool.not_true, cond_false, Bool.true_and]
    by_cases hp : v.E p = 0
    ·have q0 : (v.E p != 0) = false := by rw [hp]; rfl
     have q1 : (v.E p == 0) = true := by rw [hp]; rfl
     obtain ⟨lp, gp⟩ := hP p hp
     have g1 := hD _ gp
     have g2 := hD _ g1
     have g3 := hD _ g2
     rw [q0, q1, hG _ gp, hG _ g1, hG _ g2, hG _ g3]
     simp only [beq_self_eq_true, cond_true, cond_false, Bool.not_false, Bool.true_and]
     cases hW : v.W (p16 (v.P p))
     ·simp only [cond_false, Bool.not_false, Bool.true_and]
      by_cases hr : v.E (List.take 32 s) = 0
      ·have r0 : (v.E (List.take 32 s) != 0) = false := by rw [hr]; rfl
       have r1 : (v.E (List.take 32 s) == 0) = true := by rw [hr]; rfl
       obtain ⟨-, gr⟩ := hP _ hr
       have gb := hB _ [List.take 32 s, p, m] gp
       have ga := hA _ _ gr gb
       have gt := hT _ l2
       rw [r0, r1, hG _ gr, hG _ gb, hG _ ga, hG _ gt, l2]
       simp only [cond_false, cond_true, Bool.not_false, Bool.true_and, Bool.and_true]
       refine bif_of ?_ (bif_of rfl trivial)
       simp only [Sh.okL, List.all_cons, List.all_nil, Bool.and_true, Bool.and_eq_true, l1, lp]
       exact ⟨rfl, rfl, Nat.ble_eq_true_of_le (by omega)⟩
      ·have r0 : (v.E (List.take 32 s) != 0) = true := bne_iff_ne.2 hr
       have r1 : (v.E (List.take 32 s) == 0) = false := beq_eq_false_iff_ne.2 hr
       rw [r0, r1]
       rfl
     ·rfl
    ·have q0 : (v.E p != 0) = true := bne_iff_ne.2 hp
     have q1 : (v.E p == 0) = false := beq_eq_false_iff_ne.2 hp
     rw [q0, q1]
     rfl
  ·have e0 : ((s.length : Int) != 64) = true := bne_iff_ne.2 (by omega)
   rw [e0, beqF hs]
   rfl
 ·cases hh
end Go.Proofs.YtdfghknonbmadaaGreatDoor
namespace Go.Proofs.YtdfghknonbmadaaGreatDoor
open Go.RowKit
set_option linter.unusedVariables false
set_option linter.unusedSimpArgs false
set_option maxRecDepth 100000
def Gp (p : W6) : Prop := ∃ (q : Mt.Pq) (pt : Mt.Ed.Pt), Mt.Is q pt ∧ p = Mt.pe q
open Mt
theorem no_ze : noX (p16 (atX (w4 (zX 0)) (w4 (zX 1)))) = false := by
 rw [show p16 (atX (w4 (zX 0)) (w4 (zX 1))) = pe zq from ze_pe]
 exact no_pe zq_is
theorem no_ba : noX (p16 (atX (w4 (knX bXs)) (w4 (knX bYs)))) = false := by
 rw [show p16 (atX (w4 (knX bXs)) (w4 (knX bYs))) = pe bq from ba_pe]
 exact no_pe bq_is
theorem ebt_ok : EnvOk Tryz.prog (Ebt noX (atX (w4 (knX bXs)) (w4 (knX bYs))) wrX boX) := ⟨PT.add_ok (PT.add_ok (PT.add_ok (PT.add_ok (noT_ok _ _) none_ok) base_ok) bytesO_ok) both_ok, noC_ok _ _⟩
abbrev btX : W6 → W6 → W6 → W6 := btF (atX (w4 (knX bXs)) (w4 (knX bYs))) wrX boX
theorem bothP_ok : POk Tryz.prog GE 32 (cBt noX btX) := bothP_gen noX (atX (w4 (knX bXs)) (w4 (knX bYs))) wrX boX no_ba wr_len ebt_ok
theorem etm_ok : EnvOk Tryz.prog (Etm (atX (w4 (zX 0)) (w4 (zX 1))) noX btX) := ⟨PT.add_ok (PT.add_ok (noT_ok _ _) zeroP_ok) bothP_ok, noC_ok _ _⟩
abbrev tiX : W6 → W6 := tmF (atX (w4 (zX 0)) (w4 (zX 1))) btX
theorem timesS_ok : POk Tryz.prog GE 28 (cTm tiX) := times_gen (atX (w4 (zX 0)) (w4 (zX 1))) noX btX no_ze etm_ok
theorem ewk_ok : EnvOk Tryz.prog (Ewk noX dbP (atX (w4 (zX 0)) (w4 (zX 1))) smP) := ⟨PT.add_ok (PT.add_ok (PT.add_ok (noT_ok _ _) twice_ok) zeroP_ok) sameP_ok, noC_ok _ _⟩
abbrev wkX : W6 → Bool := wkF dbP (atX (w4 (zX 0)) (w4 (zX 1))) smP
theorem weak_ok : POk Tryz.prog GE 26 (cWk noX dbP wkX) := weak_gen noX dbP (atX (w4 (zX 0)) (w4 (zX 1))) smP no_ze ewk_ok
abbrev dgX : TL → Tx8 := Sh.dOf
theorem dg_len (l : TL) : (dgX l).length = 64 := by
 show (Sh.wr _).length = 64
 generalize (Sh.fd (Sh.tak l) (Sh.ends (Sh.tak l).c)).h = h
 rfl
section
variable (D : TL → Tx8) (hD : ∀ l, (D l).length = 64) (hO : POk Tryz.prog GE 38 (Sh.cOf D))
theorem numberS_ok (D : TL → Tx8) (hD : ∀ l, (D l).length = 64) (hO : POk Tryz.prog GE 38 (Sh.cOf D)) : POk Tryz.prog GE 27 (cNm (nuF D ofX)) := number_gen D ofX hD ⟨PT.add_ok (PT.add_ok (noT_ok _ _) hO) knownS_ok, noC_ok _ _⟩
theorem openS_ok (D : TL → Tx8) (hD : ∀ l, (D l).length = 64) (hO : POk Tryz.prog GE 38 (Sh.cOf D)) : POk Tryz.prog GE 13 (cOp (opA D clX ofX) (opP D)) := open_gen D clX ofX hD clX_len ⟨PT.add_ok (PT.add_ok (PT.add_ok (noT_ok _ _) hO) clamp_ok) knownS_ok, noC_ok _ _⟩
end
theorem pubH_ok : POk Tryz.prog GE 14 (cPu' noX tiX byP) := pubH_gen noX tiX byP ⟨PT.add_ok (PT.add_ok (noT_ok _ _) timesS_ok) bytesP_ok, noC_ok _ _⟩
theorem byP_len (p : W6) : (byP p).length = 32 := by
 show (byF tmX ivX odX wrX p).length = 32
 unfold byF
 have hl : (byY tmX ivX wrX p).length = 32 := by unfold byY; exact wr_len _
 generalize byY tmX ivX wrX p = s at hl ⊢
 cases byO tmX ivX odX p
 ·exact hl
 ·rw [cond_true, List.length_set]; exact hl
theorem signH_ok (D : TL → Tx8) (hD : ∀ l, (D l).length = 64) (hO : POk Tryz.prog GE 38 (Sh.cOf D)) : POk Tryz.prog GE 19 (cSi noX tiX byP (nuF D ofX) (siF tiX byP (nuF D ofX) maX wrX)) := signH_gen noX tiX byP (nuF D ofX) maX wrX byP_len wr_len ⟨PT.add_ok (PT.add_ok (PT.add_ok (PT.add_ok (PT.add_ok (PT.add_ok (noT_ok _ _) timesS_ok) bytesP_ok) (numberS_ok D hD hO)) pubH_ok) muladd_ok) bytesO_ok, noC_ok _ _⟩
def vX (D : TL → Tx8) : Ve := ⟨caX, dePX, deEX, noX, dbP, ofX, wkX, nuF D ofX, tiX, btX, adP', smP⟩
theorem eve_ok (D : TL → Tx8) (hD : ∀ l, (D l).length = 64) (hO : POk Tryz.prog GE 38 (Sh.cOf D)) : EnvOk Tryz.prog (Eve (vX D)) := ⟨PT.add_ok (PT.add_ok (PT.add_ok (PT.add_ok (PT.add_ok (PT.add_ok (PT.add_ok (PT.add_ok (PT.add_ok (noT_ok _ _) canO_ok) decode_ok) weak_ok) (numberS_ok D hD hO)) knownS_ok) timesS_ok) bothP_ok) addP_ok) sameP_ok, noC_ok _ _⟩
theorem of_enc (l : Tx8) (h : l.length = 32 ∨ l.length = 64) : w4 (ofX l) = enc (le l l.length % Lq) := eq_enc (by rw [of_V l h]; rfl)
theorem Lq_lt4 {n : Nat} (h : n < Lq) : n < 115792089237316195423570985008687907853269984665640564039457584007913129639936 := by
 have : Lq < 115792089237316195423570985008687907853269984665640564039457584007913129639936 := by rw [Lq_val]; decide
 omega
theorem mod_lt' (n : Nat) : n % Lq < Lq := Nat.mod_lt _ (by rw [Lq_val]; decide)
theorem times_pe {n : Nat} (hn : n < Lq) : ∃ q, Is q (Ed.nm n Bp) ∧ p16 (tiX (enc n)) = pe q := by
 have h := bt4_is zq_is (a := 0) (b := n) (by decide) (L_253 hn)
 have e : Ed.add (Ed.nm 0 Ed.zero) (Ed.nm n Bp) = Ed.nm n Bp := Ed.zero_add (Ed.nm_on Bp_on n)
 rw [e] at h
 refine ⟨_, h, ?_⟩
 show p16 (btX (p16 (atX (w4 (zX 0)) (w4 (zX 1)))) (enc 0) (enc n)) = _
 rw [show p16 (atX (w4 (zX 0)) (w4 (zX 1))) = pe zq from ze_pe]
 exact both_pe zq_is (by decide) (L_253 hn)
theorem mul_pe {q : Pq} {p : Ed.Pt} (h : Is q p) {n : Nat} (hn : n < Lq) : ∃ r, Is r (Ed.nm n p) ∧ p16 (btX (pe q) (enc n) [0, 0, 0, 0]) = pe r := by
 have k := bt4_is h (a := n) (b := 0) (L_253 hn) (by decide)
 have e : Ed.add (Ed.nm n p) (Ed.nm 0 Bp) = Ed.nm n p := Ed.add_zero (Ed.nm_on h.on n)
 rw [e] at k
 exact ⟨_, k, both_pe h (L_253 hn) (by decide)⟩
theorem add_pe {q r : Pq} {p s : Ed.Pt} (h : Is q p) (k : Is r s) : Is (pls q (rdy r)) (Ed.add p s) ∧ p16 (adP' (pe q) (pe r)) = pe (pls q (rdy r)) := by
 refine ⟨h.pls k, ?_⟩
 show p16 (plP (pe q) (p16 (rdP (pe r)))) = _
 rw [rd_pe k.sm]
 exact plus_pe h.sm (rdy_sm k.sm)
theorem verify_ok (D : TL → Tx8) (hD : ∀ l, (D l).length = 64) (hO : POk Tryz.prog GE 38 (Sh.cOf D)) : POk Tryz.prog GE 11 (cVe (veF (vX D))) := by
 refine verify_gen (vX D) Gp ?_ ?_ ?_ ?_ ?_ ?_ (eve_ok D hD hO)
 ·rintro p ⟨q, pt, h, rfl⟩
  exact no_pe h
 ·intro s h
  obtain ⟨h1, p, q, h2, h3⟩ := decode_pt h
  exact ⟨h1, q, p, h2, h3⟩
 ·rintro p ⟨q, pt, h, rfl⟩
  exact ⟨_, _, h.dbl, double_pe h.sm⟩
 ·rintro p l ⟨q, pt, h, rfl⟩
  have e : w4 ((vX D).F l) = enc (le (D l) (D l).length % Lq) := of_enc (D l) (.inr (hD l))
  rw [e]
  obtain ⟨r, h1, h2⟩ := mul_pe h (mod_lt' (le (D l) (D l).length))
  exact ⟨r, _, h1, h2⟩
 ·rintro p q ⟨a, pt, h, rfl⟩ ⟨b, pt', k, rfl⟩
  obtain ⟨h1, h2⟩ := add_pe h k
  exact ⟨_, _, h1, h2⟩
 ·intro s hs
  have e : w4 ((vX D).K s) = enc (le s s.length % Lq) := of_enc s (.inl hs)
  rw [e]
  obtain ⟨r, h1, h2⟩ := times_pe (mod_lt' (le s s.length))
  exact ⟨r, _, h1, h2⟩
def seA (D : TL → Tx8) (s : Tx8) : W6 := w4 (opA D clX ofX s)
def pbX (D : TL → Tx8) (s : Tx8) : Tx8 := byP (p16 (tiX (seA D s)))
def sgX (D : TL → Tx8) (s m : Tx8) : Tx8 := siF tiX byP (nuF D ofX) maX wrX (seA D s) (opP D s) m
def cPb (F : Tx8 → Tx8) : List SV → List Cont → Option (Bool × SV)
 | [.s s], _ => some (true, .tup [.s (bif Nat.beq s.length 32 then F s else []), .i (bif Nat.beq s.length 32 then 0 else 2)])
 | _, _ => none
def cSg (F : Tx8 → Tx8 → Tx8) : List SV → List Cont → Option (Bool × SV)
 | [.s s, .s m], _ => some (Nat.ble m.length 1000000, .tup [.s (bif Nat.beq s.length 32 then F s m else []), .i (bif Nat.beq s.length 32 then 0 else 2)])
 | _, _ => none
theorem no_pt {q : Pq} {p : Ed.Pt} (h : Is q p) : noX (pe q) = false := no_pe h
theorem public_gen (N : W6 → Bool) (T : W6 → W6) (B : W6 → Tx8) (F : TL → W6) (A : Tx8 → W6) (P : Tx8 → Tx8) (G : W6 → Tx8 → Tx8 → Tx8) (hN : ∀ s, N (p16 (T (w4 (A s)))) = false) (hE : EnvOk Tryz.prog (Epb N T B F A P G)) : POk Tryz.prog GE 7 (cPb (fun s => B (p16 (T (w4 (A s)))))) := by
 intro args acs r hh β M w hR hw ha
 unfold cPb at hh
 split at hh
 ·rename_i s
  simp only [Option.some.injEq, Prod.mk.injEq, true_and] at hh
  subst hh
  refine pokE (E := Epb N T B F A P G) rfl hE (public_e N T B F A P G s _) ?_ rfl rfl hR
  by_cases hs : s.length = 32
  ·rw [nb_of hs, show Nat.beq s.length 32 = true by rw [hs]; rfl]
   refine bif_of (by rw [hs]; rfl) (bif_of ?_ rfl)
   rw [hN s]
   rfl
  ·rw [show ((s.length : Int) != 32) = true from bne_iff_ne.2 (by omega), beqF hs]
   rfl
 ·cases hh
theorem sign_gen (N : W6 → Bool) (T : W6 → W6) (B : W6 → Tx8) (F : TL → W6) (A : Tx8 → W6) (P : Tx8 → Tx8) (G : W6 → Tx8 → Tx8 → Tx8) (hN : ∀ s, N (p16 (T (w4 (A s)))) = false) (hF : ∀ l, N (p16 (T (w4 (F l)))) = false) (hP : ∀ s, (P s).length = 32) (hE : EnvOk Tryz.prog (Epb N T B F A P G)) : POk Tryz.prog GE 9 (cSg (fun s m => G (w4 (A s)) (P s) m)) := by
 intro args acs r hh β M w hR hw ha
 unfold cSg at hh
 split at hh
 ·rename_i s m
  simp only [Option.some.injEq, Prod.mk.injEq] at hh
  obtain ⟨hm, rfl⟩ := hh
  refine pokE (E := Epb N T B F A P G) rfl hE (sign_e N T B F A P G s m _) ?_ rfl rfl hR
  by_cases hs : s.length = 32
  ·rw [nb_of hs, show Nat.beq s.length 32 = true by rw [hs]; rfl]
   refine bif_of (by rw [hs]; rfl) (bif_of ?_ rfl)
   rw [hN s, hF, hP, hm]
   rfl
  ·rw [show ((s.length : Int) != 32) = true from bne_iff_ne.2 (by omega), beqF hs]
   rfl
 ·cases hh
section
variable (D : TL → Tx8) (hD : ∀ l, (D l).length = 64) (hO : POk Tryz.prog GE 38 (Sh.cOf D))
theorem se_enc (D : TL → Tx8) (hD : ∀ l, (D l).length = 64) (s : Tx8) : seA D s = enc (le (clX (List.take 32 (D [s]))) 32 % Lq) := by
 have hl : (clX (List.take 32 (D [s]))).length = 32 := by rw [clX_len, List.length_take, hD]; rfl
 have := of_enc (clX (List.take 32 (D [s]))) (.inl hl)
 rw [hl] at this
 exact this
theorem se_pt (D : TL → Tx8) (hD : ∀ l, (D l).length = 64) (s : Tx8) : ∃ q, Is q (Ed.nm (le (clX (List.take 32 (D [s]))) 32 % Lq) Bp) ∧ p16 (tiX (seA D s)) = pe q := by
 rw [se_enc D hD s]
 exact times_pe (mod_lt' _)
theorem nu_enc (D : TL → Tx8) (hD : ∀ l, (D l).length = 64) (l : TL) : w4 (nuF D ofX l) = enc (le (D l) 64 % Lq) := by
 have := of_enc (D l) (.inr (hD l))
 rw [hD l] at this
 exact this
theorem nu_pt (D : TL → Tx8) (hD : ∀ l, (D l).length = 64) (l : TL) : ∃ q, Is q (Ed.nm (le (D l) 64 % Lq) Bp) ∧ p16 (tiX (w4 (nuF D ofX l))) = pe q := by
 rw [nu_enc D hD l]
 exact times_pe (mod_lt' _)
theorem epb_ok (D : TL → Tx8) (hD : ∀ l, (D l).length = 64) (hO : POk Tryz.prog GE 38 (Sh.cOf D)) : EnvOk Tryz.prog (Epb noX tiX byP (nuF D ofX) (opA D clX ofX) (opP D) (siF tiX byP (nuF D ofX) maX wrX)) := ⟨PT.add_ok (PT.add_ok (PT.add_ok (noT_ok _ _) (openS_ok D hD hO)) pubH_ok) (signH_ok D hD hO), noC_ok _ _⟩
theorem public_ok (D : TL → Tx8) (hD : ∀ l, (D l).length = 64) (hO : POk Tryz.prog GE 38 (Sh.cOf D)) : POk Tryz.prog GE 7 (cPb (pbX D)) := public_gen noX tiX byP (nuF D ofX) (opA D clX ofX) (opP D) (siF tiX byP (nuF D ofX) maX wrX) (fun s => by
 obtain ⟨q, h1, h2⟩ := se_pt D hD s
 exact (congrArg noX h2).trans (no_pt h1)) (epb_ok D hD hO)
theorem sign_ok (D : TL → Tx8) (hD : ∀ l, (D l).length = 64) (hO : POk Tryz.prog GE 38 (Sh.cOf D)) : POk Tryz.prog GE 9 (cSg (sgX D)) := sign_gen noX tiX byP (nuF D ofX) (opA D clX ofX) (opP D) (siF tiX byP (nuF D ofX) maX wrX) (fun s => by
 obtain ⟨q, h1, h2⟩ := se_pt D hD s
 exact (congrArg noX h2).trans (no_pt h1)) (fun l => by
 obtain ⟨q, h1, h2⟩ := nu_pt D hD l
 exact (congrArg noX h2).trans (no_pt h1)) (fun s => by unfold opP; rw [List.length_drop, hD]) (epb_ok D hD hO)
end
end Go.Proofs.YtdfghknonbmadaaGreatDoor
namespace Go.Proofs.YtdfghknonbmadaaGreatDoor
open Go.RowKit Mt
set_option linter.unusedVariables false
set_option linter.unusedSimpArgs false
set_option maxRecDepth 100000
theorem pt_dec {p s : Ed.Pt} : (decide (p.x = s.x) && decide (p.y = s.y)) = true ↔ p = s := by
 rw [Bool.and_eq_true, decide_eq_true_iff, decide_eq_true_iff]
 constructor
 ·rintro ⟨h1, h2⟩
  exact Ed.pt_eq h1 h2
 ·rintro rfl
  exact ⟨rfl, rfl⟩
theorem sm_true {q r : Pq} {p s : Ed.Pt} (h : Is q p) (k : Is r s) : smP (pe q) (pe r) = true ↔ p = s := by
 show smF tmX smX (pe q) (pe r) = true ↔ _
 rw [same_pe h k]
 exact pt_dec
theorem weak_is {q : Pq} {p : Ed.Pt} (h : Is q p) : wkX (pe q) = true ↔ Ed.nm 8 p = Ed.zero := by
 show smP (p16 (dbP (p16 (dbP (p16 (dbP (pe q))))))) (p16 (atX (w4 (zX 0)) (w4 (zX 1)))) = true ↔ _
 have e1 := double_pe h.sm
 have e2 := double_pe h.dbl.sm
 have e3 := double_pe h.dbl.dbl.sm
 rw [show p16 (dbP (pe q)) = pe (dbq q) from e1, show p16 (dbP (pe (dbq q))) = pe (dbq (dbq q)) from e2, show p16 (dbP (pe (dbq (dbq q)))) = pe (dbq (dbq (dbq q))) from e3, show p16 (atX (w4 (zX 0)) (w4 (zX 1))) = pe zq from ze_pe, sm_true h.dbl.dbl.dbl zq_is]
 have e : Ed.nm 8 p = Ed.add (Ed.add (Ed.add p p) (Ed.add p p)) (Ed.add (Ed.add p p) (Ed.add p p)) := by
  have h2 : Ed.nm 2 p = Ed.add p p := by rw [show 2 = 1 + 1 from rfl, Ed.nm_add h.on, Ed.nm_one h.on]
  have h4 : Ed.nm 4 p = Ed.add (Ed.add p p) (Ed.add p p) := by rw [show 4 = 2 + 2 from rfl, Ed.nm_add h.on, h2]
  rw [show 8 = 4 + 4 from rfl, Ed.nm_add h.on, h4]
 rw [e]
theorem ca_wr {n : Nat} (h : n < Lq) : caX (wrX (enc n)) = true := by
 have e := ca_le (wrX (enc n))
 rw [wr_len, le_enc (Lq_lt4 h), decide_eq_true h] at e
 exact e
theorem ve_core (C : Tx8 → Bool) (P : Tx8 → W6) (E : Tx8 → Int) (N : W6 → Bool) (D' : W6 → W6) (K : Tx8 → W6) (W : W6 → Bool) (F : TL → W6) (T : W6 → W6) (B : W6 → W6 → W6 → W6) (A : W6 → W6 → W6) (S : W6 → W6 → Bool) (p m s r1 s1 : Tx8) (a' b' : W6) (hs : s.length = 64) (ht : List.take 32 s = r1) (hd : List.drop 32 s = s1) (c1 : C s1 = true) (c2 : E p = 0) (c3 : E r1 = 0) (c4 : W (p16 (P p)) = false) (e1 : p16 (T (w4 (K s1))) = a') (e2 : p16 (A (p16 (P r1)) (p16 (B (p16 (P p)) (w4 (F [r1, p, m])) [0, 0, 0, 0]))) = b') (h : S a' b' = true) : veF ⟨C, P, E, N, D', K, W, F, T, B, A, S⟩ p m s = true := by
 unfold veF
 dsimp only
 rw [hs, ht, hd, c1, c2, c3, c4, e1, e2, h]
 rfl
theorem ve_same {n r k a : Nat} (hn : n = (k * a + r) % Lq) {t b q : Pq} (ht : Is t (Ed.nm n Bp)) (hq : Is q (Ed.nm r Bp)) (hb : Is b (Ed.nm k (Ed.nm a Bp))) : smP (pe t) (pe (pls q (rdy b))) = true := by
 rw [sm_true ht (hq.pls hb), hn, nm_mod, Ed.nm_add Bp_on, Ed.nm_mul Bp_on]
 exact Ed.add_comm _ _
theorem of_wr {n : Nat} (h : n < Lq) : w4 (ofX (wrX (enc n))) = enc n := by
 have := of_enc (wrX (enc n)) (.inl (wr_len _))
 rw [wr_len, le_enc (Lq_lt4 h), Nat.mod_eq_of_lt h] at this
 exact this
theorem at_is {p : Ed.Pt} (h : p.On) : Is (atp p.x.val p.y.val) p := Is.at (Ed.val_lt _) (Ed.val_lt _) (Ed.fe_of _) (Ed.fe_of _) h
theorem wk_no {q : Pq} {p : Ed.Pt} {x : W6} (h : Is q p) (hx : x = pe q) (h8 : Ed.nm 8 p ≠ Ed.zero) : wkX x = false := by
 subst hx
 cases hw : wkX (pe q)
 ·rfl
 ·exact absurd ((weak_is h).1 hw) h8
section
variable (D : TL → Tx8) (hD : ∀ l, (D l).length = 64)
def nA (D : TL → Tx8) (s : Tx8) : Nat := le (clX (List.take 32 (D [s]))) 32 % Lq
def nR (D : TL → Tx8) (s m : Tx8) : Nat := le (D [opP D s, m]) 64 % Lq
theorem pb_ec (D : TL → Tx8) (hD : ∀ l, (D l).length = 64) (s : Tx8) : pbX D s = ec (Ed.nm (nA D s) Bp) := by
 obtain ⟨q, h1, h2⟩ := se_pt D hD s
 unfold pbX
 rw [h2]
 exact bytes_pe h1
theorem siR_ec (D : TL → Tx8) (hD : ∀ l, (D l).length = 64) (s m : Tx8) : siR tiX byP (nuF D ofX) (opP D s) m = ec (Ed.nm (nR D s m) Bp) := by
 obtain ⟨q, h1, h2⟩ := nu_pt D hD [opP D s, m]
 unfold siR
 rw [h2]
 exact bytes_pe h1
def nK (D : TL → Tx8) (s m : Tx8) : Nat := le (D [ec (Ed.nm (nR D s m) Bp), ec (Ed.nm (nA D s) Bp), m]) 64 % Lq
def nS (D : TL → Tx8) (s m : Tx8) : Nat := (nK D s m * nA D s + nR D s m) % Lq
theorem siS_enc (D : TL → Tx8) (hD : ∀ l, (D l).length = 64) (s m : Tx8) : w4 (siS tiX byP (nuF D ofX) maX (seA D s) (opP D s) m) = enc (nS D s m) := by
 apply eq_enc
 unfold siS
 rw [siR_ec D hD, show byP (p16 (tiX (seA D s))) = ec (Ed.nm (nA D s) Bp) from pb_ec D hD s, nu_enc D hD, nu_enc D hD, se_enc D hD]
 rw [muladd_V _ _ _ rfl, V_enc (Lq_lt4 (mod_lt' _)), V_enc (Lq_lt4 (mod_lt' _)), V_enc (Lq_lt4 (mod_lt' _))]
 rfl
theorem sg_is (D : TL → Tx8) (hD : ∀ l, (D l).length = 64) (s m : Tx8) : sgX D s m = ec (Ed.nm (nR D s m) Bp) ++ wrX (enc (nS D s m)) := by
 unfold sgX siF
 rw [siR_ec D hD, siS_enc D hD]
theorem sg_take (D : TL → Tx8) (hD : ∀ l, (D l).length = 64) (s m : Tx8) : List.take 32 (sgX D s m) = ec (Ed.nm (nR D s m) Bp) := by rw [sg_is D hD, List.take_left' (ec_len _)]
theorem sg_drop (D : TL → Tx8) (hD : ∀ l, (D l).length = 64) (s m : Tx8) : List.drop 32 (sgX D s m) = wrX (enc (nS D s m)) := by rw [sg_is D hD, List.drop_left' (ec_len _)]
theorem sg_len (D : TL → Tx8) (hD : ∀ l, (D l).length = 64) (s m : Tx8) : (sgX D s m).length = 64 := by rw [sg_is D hD, List.length_append, ec_len, wr_len]
theorem nA_nd (D : TL → Tx8) (hD : ∀ l, (D l).length = 64) (s : Tx8) : ¬ Lq ∣ nA D s := by
 intro h
 have h2 := clamp_nd (List.take 32 (D [s])) (by rw [List.length_take, hD]; rfl)
 exact h2 ((Nat.dvd_mod_iff (Nat.dvd_refl _)).1 h)
theorem nA_weak (D : TL → Tx8) (hD : ∀ l, (D l).length = 64) (s : Tx8) : Ed.nm 8 (Ed.nm (nA D s) Bp) ≠ Ed.zero := by
 rw [← Ed.nm_mul Bp_on]
 intro h
 rcases prL.or (nm_dvd h) with h1 | h1
 ·have := Nat.le_of_dvd (by decide) h1
  rw [Lq_val] at this
  omega
 ·exact nA_nd D hD s h1
theorem verify_true (D : TL → Tx8) (hD : ∀ l, (D l).length = 64) (s m : Tx8) : veF (vX D) (pbX D s) m (sgX D s m) = true := by
 have hA := Ed.nm_on Bp_on (nA D s)
 have hR := Ed.nm_on Bp_on (nR D s m)
 obtain ⟨d1, d2⟩ := decode_ec hA
 obtain ⟨d3, d4⟩ := decode_ec hR
 have iA := at_is hA
 have iR := at_is hR
 have hS : nS D s m < Lq := mod_lt' _
 have hK : nK D s m < Lq := mod_lt' _
 obtain ⟨t, ht1, ht2⟩ := times_pe hS
 obtain ⟨b, hb1, hb2⟩ := mul_pe iA hK
 obtain ⟨ha1, ha2⟩ := add_pe iR hb1
 rw [pb_ec D hD]
 have w1 := wk_no iA d2 (nA_weak D hD s)
 have e1 : p16 (tiX (w4 (ofX (wrX (enc (nS D s m)))))) = pe t := by rw [of_wr hS]; exact ht2
 have e2 : p16 (adP' (p16 (dePX (ec (Ed.nm (nR D s m) Bp)))) (p16 (btX (p16 (dePX (ec (Ed.nm (nA D s) Bp)))) (w4 (nuF D ofX [ec (Ed.nm (nR D s m) Bp), ec (Ed.nm (nA D s) Bp), m])) [0, 0, 0, 0]))) = pe (pls (atp (Ed.nm (nR D s m) Bp).x.val (Ed.nm (nR D s m) Bp).y.val) (rdy b)) := by
  rw [d4, d2, show w4 (nuF D ofX [ec (Ed.nm (nR D s m) Bp), ec (Ed.nm (nA D s) Bp), m]) = enc (nK D s m) from nu_enc D hD _, hb2]
  exact ha2
 exact ve_core caX dePX deEX noX dbP ofX wkX (nuF D ofX) tiX btX adP' smP _ m _ _ _ _ _ (sg_len D hD s m) (sg_take D hD s m) (sg_drop D hD s m) (ca_wr hS) d1 d3 w1 e1 e2 (ve_same rfl ht1 iR hb1)
end
end Go.Proofs.YtdfghknonbmadaaGreatDoor
