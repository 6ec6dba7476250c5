/-
  The document's signatures: what is verified, in the reckoner. No statement is proved here.
-/
import Derived.Test.YtdfghknonbmadaaGreatDoorShX
namespace Go.Proofs.YtdfghknonbmadaaGreatDoor
namespace Dc
open Go.RowKit
set_option linter.unusedVariables false
set_option linter.unusedSimpArgs false
set_option maxRecDepth 100000
open Mt.Dg (w9 dg bb nv Q Qd rd byt vbl vb)
open Mt (Lq Pd IsR rad zr br mq ad sb)
def EVe7 (Y : Tx8 → Bool) (F : Tx8 → W6) (J : Tx8 → Int) (R O : Tx8 → Tx8) (b z : W6) (C : W6 → Bool) (D : W6 → W6 → Bool) (T : W6 → Tx8 → W6) (A : W6 → W6 → W6) (S : W6 → W6 → Bool) : Env := ⟨GE, ((((((((((noT.add 33 (cCa' Y)).add 34 (cDeD F J)).add 21 (Sh.cRef R)).add 20 (cO7 O)).add 16 (cP0 b)).add 37 (cP0 z)).add 17 (cPT C T)).add 35 (cP2 D A)).add 36 (cP2b D S))).add flagW cFlagZ, noC⟩
theorem vaVe7 (Y : Tx8 → Bool) (F : Tx8 → W6) (J : Tx8 → Int) (R O : Tx8 → Tx8) (b z : W6) (C : W6 → Bool) (D : W6 → W6 → Bool) (T : W6 → Tx8 → W6) (A : W6 → W6 → W6) (S : W6 → W6 → Bool) (p m s : Tx8) (K : SV → Prop) : (vf Tryz.prog (EVe7 Y F J R O b z C D T A S) noL 12 [.s p, .s m, .s s] GE (fun r _ => K r)) = (bif ((↑(List.length s) : Int) != (64 : Int)) == false then bif ((↑(List.length s) : Int) != (64 : Int)) == false then bif ile (32 : Int) (↑(List.length s) : Int) && ile (↑(List.length s) : Int) (↑(List.length s) : Int) then bif ((↑(List.length s) : Int) != (64 : Int)) == false then bif ((↑(List.length s) : Int) != (64 : Int)) == false then bif bif (↑(List.length s) : Int) != (64 : Int) then true else !Y (List.drop 32 (List.take (List.length s) s)) then K (SV.b false) else bif ile (32 : Int) (↑(List.length s) : Int) then bif (J p != (0 : Int)) == false then bif (J p != (0 : Int)) == false then bif bif J p != (0 : Int) then true else J (List.drop 0 (List.take 32 s)) != (0 : Int) then K (SV.b false) else bif D (p27 (F p)) (p27 (F p)) then bif D (p27 (A (p27 (F p)) (p27 (F p)))) (p27 (A (p27 (F p)) (p27 (F p)))) then bif D (p27 (A (p27 (A (p27 (F p)) (p27 (F p)))) (p27 (A (p27 (F p)) (p27 (F p)))))) (p27 (A (p27 (A (p27 (F p)) (p27 (F p)))) (p27 (A (p27 (F p)) (p27 (F p)))))) then bif D (p27 (A (p27 (A (p27 (A (p27 (F p)) (p27 (F p)))) (p27 (A (p27 (F p)) (p27 (F p)))))) (p27 (A (p27 (A (p27 (F p)) (p27 (F p)))) (p27 (A (p27 (F p)) (p27 (F p)))))))) (p27 z) then bif S (p27 (A (p27 (A (p27 (A (p27 (F p)) (p27 (F p)))) (p27 (A (p27 (F p)) (p27 (F p)))))) (p27 (A (p27 (A (p27 (F p)) (p27 (F p)))) (p27 (A (p27 (F p)) (p27 (F p)))))))) (p27 z) then K (SV.b false) else bif ile (32 : Int) (↑(List.length s) : Int) then bif ile (↑((List.drop 0 (List.take 32 s)).length + List.length p) : Int) (9223372036854775807 : Int) then bif ile (↑((List.drop 0 (List.take 32 s) ++ p).length + List.length m) : Int) (9223372036854775807 : Int) then bif (List.drop 0 (List.take 32 s) ++ p ++ m).length.ble 1000000000 then bif (List.length (R (List.drop 0 (List.take 32 s) ++ p ++ m))).ble 100 then bif (List.length (O (R (List.drop 0 (List.take 32 s) ++ p ++ m)))).beq 32 && (List.length (O (R (List.drop 0 (List.take 32 s) ++ p ++ m)))).beq 32 then bif ile (32 : Int) (↑(List.length s) : Int) && ile (↑(List.length s) : Int) (↑(List.length s) : Int) then bif (List.drop 32 (List.take (List.length s) s)).length.ble 100 then bif C (p27 b) && (List.length (O (List.drop 32 (List.take (List.length s) s)))).beq 32 then bif (List.length (O (R (List.drop 0 (List.take 32 s) ++ p ++ m)))).beq 32 then bif C (p27 (F p)) && (List.length (O (R (List.drop 0 (List.take 32 s) ++ p ++ m)))).beq 32 then bif D (p27 (F (List.drop 0 (List.take 32 s)))) (p27 (T (p27 (F p)) (O (R (List.drop 0 (List.take 32 s) ++ p ++ m))))) then bif D (p27 (T (p27 b) (O (List.drop 32 (List.take (List.length s) s))))) (p27 (A (p27 (F (List.drop 0 (List.take 32 s)))) (p27 (T (p27 (F p)) (O (R (List.drop 0 (List.take 32 s) ++ p ++ m))))))) then K (SV.b (S (p27 (T (p27 b) (O (List.drop 32 (List.take (List.length s) s))))) (p27 (A (p27 (F (List.drop 0 (List.take 32 s)))) (p27 (T (p27 (F p)) (O (R (List.drop 0 (List.take 32 s) ++ p ++ m))))))))) else False else False else False else False else False else False else False else False else False else False else False else False else False else False else False else False else False else bif J p != (0 : Int) then K (SV.b false) else False else bif (J p != (0 : Int)) == false then False else bif J p != (0 : Int) then K (SV.b false) else False else False else bif (↑(List.length s) : Int) != (64 : Int) then K (SV.b false) else False else bif ((↑(List.length s) : Int) != (64 : Int)) == false then False else bif (↑(List.length s) : Int) != (64 : Int) then K (SV.b false) else False else False else bif ((↑(List.length s) : Int) != (64 : Int)) == false then False else bif ((↑(List.length s) : Int) != (64 : Int)) == false then False else bif (↑(List.length s) : Int) != (64 : Int) then K (SV.b false) else False else bif ((↑(List.length s) : Int) != (64 : Int)) == false then False else bif ((↑(List.length s) : Int) != (64 : Int)) == false then False else bif ((↑(List.length s) : Int) != (64 : Int)) == false then False else bif (↑(List.length s) : Int) != (64 : Int) then K (SV.b false) else False) := by kernel_rfl
def ve7 (Y : Tx8 → Bool) (F : Tx8 → W6) (J : Tx8 → Int) (R O : Tx8 → Tx8) (b z : W6) (T : W6 → Tx8 → W6) (A : W6 → W6 → W6) (S : W6 → W6 → Bool) (p m s : Tx8) : Bool :=
 Nat.beq s.length 64 && (Y (List.drop 32 s) && ((J p == 0) && ((J (List.take 32 s) == 0) && (!S (p27 (A (p27 (A (p27 (A (p27 (F p)) (p27 (F p)))) (p27 (A (p27 (F p)) (p27 (F p)))))) (p27 (A (p27 (A (p27 (F p)) (p27 (F p)))) (p27 (A (p27 (F p)) (p27 (F p)))))))) (p27 z) && S (p27 (T (p27 b) (O (List.drop 32 s)))) (p27 (A (p27 (F (List.take 32 s))) (p27 (T (p27 (F p)) (O (R (List.take 32 s ++ p ++ m)))))))))))
theorem and_t {a b : Bool} (ha : a = true) (hb : b = true) : (a && b) = true := by rw [ha, hb]; rfl
theorem verify_gen7 (Y : Tx8 → Bool) (F : Tx8 → W6) (J : Tx8 → Int) (R O : Tx8 → Tx8) (b z : W6) (C : W6 → Bool) (T : W6 → Tx8 → W6) (A : W6 → W6 → W6) (S : W6 → W6 → Bool) (V : Tx8 → Tx8 → Tx8 → Bool) (hR : ∀ s, (R s).length = 64) (hO : ∀ l, (O l).length = 32) (hJ : ∀ s, J s = 0 → s.length = 32 ∧ C (p27 (F s)) = true) (hA : ∀ p q, C (p27 (A p q)) = true) (hT : ∀ p l, C (p27 (T p l)) = true) (hb : C (p27 b) = true) (hz : C (p27 z) = true) (hV : ∀ p m s, m.length ≤ 1000000 → ve7 Y F J R O b z T A S p m s = V p m s) (hE : EnvOk Tryz.prog (EVe7 Y F J R O b z C (fun p q => C p && C q) T A S)) : POk Tryz.prog GE 12 (cVe V) := by
 intro args acs r hh β M w hR' hw ha
 unfold cVe at hh
 split at hh
 ·rename_i p m s
  simp only [Option.some.injEq, Prod.mk.injEq] at hh
  obtain ⟨hm, rfl⟩ := hh
  have hm := Nat.le_of_ble_eq_true hm
  have hv := hV p m s hm
  refine pokE (E := EVe7 Y F J R O b z C (fun p q => C p && C q) T A S) rfl hE (vaVe7 Y F J R O b z C (fun p q => C p && C q) T A S p m s fun r => r = .b (V p m s)) ?_ rfl rfl hR'
  rw [← hv]
  unfold ve7
  rw [List.drop_zero, List.take_length]
  by_cases hs : s.length = 64
  case neg =>
   rw [show ((s.length : Int) != 64) = true from bne_iff_ne.2 (by omega), beqF hs, Bool.false_and]
   rfl
  have e0 : ((s.length : Int) != 64) = false := by rw [hs]; rfl
  have e1 : Nat.beq s.length 64 = true := by rw [hs]; rfl
  have i1 : ile 32 (s.length : Int) = true := ile_le (by omega)
  have i2 : ile (s.length : Int) (s.length : Int) = true := ile_le (Int.le_refl _)
  rw [e0, e1, i1, i2, Bool.true_and]
  refine bif_of rfl (bif_of rfl (bif_of rfl (bif_of rfl (bif_of rfl ?_))))
  cases hY : Y (List.drop 32 s)
  ·rw [Bool.false_and]; rfl
  rw [Bool.true_and]
  by_cases hp : J p = 0
  case neg =>
   have hp1 : (J p != 0) = true := bne_iff_ne.2 hp
   have hp2 : (J p == 0) = false := beq_eq_false_iff_ne.2 hp
   rw [hp1, hp2, Bool.false_and]
   rfl
  have hp1 : (J p != 0) = false := by rw [hp]; rfl
  have hp2 : (J p == 0) = true := by rw [hp]; rfl
  rw [hp1, hp2, Bool.true_and]
  refine bif_of rfl (bif_of rfl (bif_of rfl ?_))
  by_cases hr : J (List.take 32 s) = 0
  case neg =>
   have hp1 : (J (List.take 32 s) != 0) = true := bne_iff_ne.2 hr
   have hp2 : (J (List.take 32 s) == 0) = false := beq_eq_false_iff_ne.2 hr
   rw [hp1, hp2, Bool.false_and]
   rfl
  have hr1 : (J (List.take 32 s) != 0) = false := by rw [hr]; rfl
  have hr2 : (J (List.take 32 s) == 0) = true := by rw [hr]; rfl
  rw [hr1, hr2, Bool.true_and, cond_false, cond_false]
  obtain ⟨lp, cp⟩ := hJ p hp
  obtain ⟨lr, cr⟩ := hJ _ hr
  have hd : (List.drop 32 s).length = 32 := by rw [List.length_drop, hs]
  have bO : ∀ l, Nat.beq (O l).length 32 = true := fun l => by rw [hO]; rfl
  refine bif_of rfl (bif_of (and_t cp cp) (bif_of (and_t (hA _ _) (hA _ _)) (bif_of (and_t (hA _ _) (hA _ _)) (bif_of (and_t (hA _ _) hz) ?_))))
  cases S (p27 (A (p27 (A (p27 (A (p27 (F p)) (p27 (F p)))) (p27 (A (p27 (F p)) (p27 (F p)))))) (p27 (A (p27 (A (p27 (F p)) (p27 (F p)))) (p27 (A (p27 (F p)) (p27 (F p)))))))) (p27 z)
  case true => exact rfl
  rw [Bool.not_false, Bool.true_and, cond_false]
  refine bif_of rfl (bif_of (ile_le (by rw [lr, lp]; omega)) (bif_of (ile_le (by rw [List.length_append, lr, lp]; omega)) (bif_of (Nat.ble_eq_true_of_le (by rw [List.length_append, List.length_append, lr, lp]; omega)) (bif_of (Nat.ble_eq_true_of_le (by rw [hR]; omega)) (bif_of (and_t (bO _) (bO _)) (bif_of rfl (bif_of (Nat.ble_eq_true_of_le (by rw [hd]; omega)) (bif_of (and_t hb (bO _)) (bif_of (bO _) (bif_of (and_t cp (bO _)) (bif_of (and_t cr (hT _ _)) (bif_of (and_t (hT _ _) (hA _ _)) ?_))))))))))))
  rfl
 ·cases hh
end Dc
end Go.Proofs.YtdfghknonbmadaaGreatDoor
namespace Go.Proofs.YtdfghknonbmadaaGreatDoor
namespace Dc
open Go.RowKit
set_option linter.unusedVariables false
set_option linter.unusedSimpArgs false
set_option maxRecDepth 100000
open Mt.Dg (w9 dg bb nv Q Qd rd byt vbl vb)
open Mt (Lq Pd IsR rad zr br mq ad sb Is Pq pe Bp)
theorem yD_le (s : Tx8) : yD s = Mt.le (u8 s) 32 := rd_le _ _
theorem isD_eq (s : Tx8) (hl : s.length = 32) : deI canX knX bsJX s = isD s := by
 unfold isD
 rw [yD_le]
 by_cases hy : Mt.le (u8 s) 32 < Mt.Nt.P
 ·rw [decide_eq_true hy, Bool.true_and]
  exact (Mt.de_is s hl hy).1
 ·unfold deI
  rw [Mt.can_le, decide_eq_false hy, Bool.and_false, Bool.false_and, Bool.false_and]
theorem de_eq (s : Tx8) : deEX s = deJ s := by
 show deE canX knX bsJX s = deJ s
 unfold deE deJ
 cases hb : Nat.beq s.length 32
 ·rw [cond_false, cond_false]
 ·rw [isD_eq s (Nat.eq_of_beq_eq_true hb)]
theorem of_deJ {s : Tx8} (h : deJ s = 0) : s.length = 32 ∧ isD s = true := by
 unfold deJ at h
 cases hb : Nat.beq s.length 32 <;> rw [hb] at h
 ·cases h
 refine ⟨Nat.eq_of_beq_eq_true hb, ?_⟩
 cases hi : isD s
 ·rw [hi] at h
  cases h
 ·rfl
theorem dec_both {s : Tx8} (h : deJ s = 0) : s.length = 32 ∧ ∃ p : Mt.Ed.Pt, ∃ q : Pq, ∃ r : Pd, Is q p ∧ p16 (dePX s) = pe q ∧ IsR r p ∧ deF s = pd r := by
 obtain ⟨hl, hi⟩ := of_deJ h
 have hb : Nat.beq s.length 32 = true := by rw [hl]; rfl
 have hd : deI canX knX bsJX s = true := by rw [isD_eq s hl, hi]
 have hf : deF s = pd ⟨Mt.ro (Mt.x2 (yD s)) (o8 s), yD s, 1⟩ := by unfold deF; rw [hb, hi]; rfl
 unfold isD at hi
 rw [Bool.and_eq_true, decide_eq_true_iff] at hi
 obtain ⟨hy, hok⟩ := hi
 rw [yD_le] at hy hok hf
 obtain ⟨h1, h2⟩ := Mt.de_is s hl hy
 obtain ⟨r1, -⟩ := Mt.ok_true hok
 have hon := (Mt.on_x2 _ _).2 r1
 refine ⟨hl, ⟨Mt.Ed.fe (Mt.ro (Mt.x2 (Mt.le (u8 s) 32)) (o8 s)), Mt.Ed.fe (Mt.le (u8 s) 32)⟩, _, _, Is.at (Mt.ro_ltP _ _) hy rfl rfl hon, ?_, IsR.at (Mt.ro_ltP _ _) hy rfl rfl hon, hf⟩
 show p16 (deP canX knX bsBX bsJX atX s) = _
 unfold deP
 rw [hb, hd, Bool.true_and, cond_true]
 exact h2
theorem sme_true {q r : Pd} {p s : Mt.Ed.Pt} (h : IsR q p) (k : IsR r s) : Mt.sme q r = true ↔ p = s := by
 rw [Mt.sme_is h k]
 exact pt_dec
theorem sa_pd {q r : Pd} (h : Sd q) (k : Sd r) : saF (p27 (pd q)) (p27 (pd r)) = Mt.sme q r := by unfold saF; rw [p27_pd, p27_pd, np_pd h, np_pd k]
theorem ra_pd' {q r : Pd} (h : Sd q) (k : Sd r) : raF (p27 (pd q)) (p27 (pd r)) = pd (rad q r) := by rw [p27_pd, p27_pd, ra_pd h k]
theorem nm8 {p : Mt.Ed.Pt} (h : p.On) : Mt.Ed.nm 8 p = Mt.Ed.add (Mt.Ed.add (Mt.Ed.add p p) (Mt.Ed.add p p)) (Mt.Ed.add (Mt.Ed.add p p) (Mt.Ed.add p p)) := by
 have h2 : Mt.Ed.nm 2 p = Mt.Ed.add p p := by rw [show 2 = 1 + 1 from rfl, Mt.Ed.nm_add h, Mt.Ed.nm_one h]
 have h4 : Mt.Ed.nm 4 p = Mt.Ed.add (Mt.Ed.add p p) (Mt.Ed.add p p) := by rw [show 4 = 2 + 2 from rfl, Mt.Ed.nm_add h, h2]
 rw [show 8 = 4 + 4 from rfl, Mt.Ed.nm_add h, h4]
theorem bool_eq {a b : Bool} {c : Prop} (h : a = true ↔ c) (k : b = true ↔ c) : a = b := by
 rw [Bool.eq_iff_iff, h, k]
theorem weak_eq {s : Tx8} (h : deJ s = 0) : saF (p27 (raF (p27 (raF (p27 (raF (p27 (deF s)) (p27 (deF s)))) (p27 (raF (p27 (deF s)) (p27 (deF s)))))) (p27 (raF (p27 (raF (p27 (deF s)) (p27 (deF s)))) (p27 (raF (p27 (deF s)) (p27 (deF s)))))))) (p27 (pd zr)) = wkX (p16 (dePX s)) := by
 obtain ⟨-, p, q, r, hq, e1, hr, e2⟩ := dec_both h
 have h2 := hr.add hr
 have h4 := h2.add h2
 have h8 := h4.add h4
 rw [e2, e1, ra_pd' (Sd.of hr) (Sd.of hr), ra_pd' (Sd.of h2) (Sd.of h2), ra_pd' (Sd.of h4) (Sd.of h4), sa_pd (Sd.of h8) zr_sd]
 refine bool_eq (sme_true h8 Mt.zr_is) ?_
 rw [weak_is hq, nm8 hr.on]
theorem o7_32 {l : Tx8} (h : l.length = 32) : o7F l = byD (Mt.le l 32 % Lq) := by unfold o7F; rw [h, rd_le]
theorem last_eq {D : TL → Tx8} {R : Tx8 → Tx8} (h : DR D R) {p m s : Tx8} (hm : m.length ≤ 1000000) (hs : s.length = 64) (hp : deJ p = 0) (hr : deJ (List.take 32 s) = 0) : saF (p27 (tiF (p27 (pd br)) (o7F (List.drop 32 s)))) (p27 (raF (p27 (deF (List.take 32 s))) (p27 (tiF (p27 (deF p)) (o7F (R (List.take 32 s ++ p ++ m))))))) = smP (p16 (tiX (w4 (ofX (List.drop 32 s))))) (p16 (adP' (p16 (dePX (List.take 32 s))) (p16 (btX (p16 (dePX p)) (w4 (nuF D ofX [List.take 32 s, p, m])) [0, 0, 0, 0])))) := by
 obtain ⟨lp, P1, q1, r1, hq1, e1, hr1, f1⟩ := dec_both hp
 obtain ⟨lr, P2, q2, r2, hq2, e2, hr2, f2⟩ := dec_both hr
 have hd : (List.drop 32 s).length = 32 := by rw [List.length_drop, hs]
 have ek : R (List.take 32 s ++ p ++ m) = D [List.take 32 s, p, m] := by
  rw [h.eq [List.take 32 s, p, m] (by
   rw [List.flatten_cons, List.flatten_cons, List.flatten_cons, List.flatten_nil, List.append_nil, List.length_append, List.length_append, lr, lp]; omega)]
  rw [List.flatten_cons, List.flatten_cons, List.flatten_cons, List.flatten_nil, List.append_nil, List.append_assoc]
 have ok : o7F (R (List.take 32 s ++ p ++ m)) = byD (Mt.le (D [List.take 32 s, p, m]) 64 % Lq) := by rw [ek, o7_64 (h.len _)]
 have on := of_enc (List.drop 32 s) (.inl hd)
 rw [hd] at on
 rw [ok, o7_32 hd, on, nu_enc D h.len, e1, e2, f1, f2]
 have hn : Mt.le (List.drop 32 s) 32 % Lq < Lq := mod_lt' _
 have hk : Mt.le (D [List.take 32 s, p, m]) 64 % Lq < Lq := mod_lt' _
 generalize Mt.le (List.drop 32 s) 32 % Lq = n at *
 generalize Mt.le (D [List.take 32 s, p, m]) 64 % Lq = k at *
 obtain ⟨t, ht1, ht2⟩ := times_pe hn
 obtain ⟨b, hb1, hb2⟩ := mul_pe hq1 hk
 obtain ⟨ha1, ha2⟩ := add_pe hq2 hb1
 have d1 := Mt.tmD_all Mt.br_is (Lq_lt4 hn)
 have d2 := Mt.tmD_all hr1 (Lq_lt4 hk)
 have d3 := hr2.add d2
 rw [ht2, hb2, ha2, tm_ti br br_sd (Lq_lt4 hn), tm_ti r1 (Sd.of hr1) (Lq_lt4 hk)]
 have g1 := ra_pd' (Sd.of hr2) (Sd.of d2)
 rw [p27_pd (Mt.tmD r1 k 256)] at g1
 have g2 := sa_pd (Sd.of d1) (Sd.of d3)
 rw [p27_pd (Mt.tmD br n 256)] at g2
 rw [g1, g2]
 exact bool_eq (sme_true d1 d3) (sm_true ht1 ha1)
theorem bool_ve : ∀ L c e f w t w' t' : Bool, (e = true → w = w') → (L = true → e = true → f = true → t = t') → (L && (c && (e && (f && (!w && t))))) = (L && (c && (e && (!w' && (f && t'))))) := by
 intro L c e f w t w' t' h1 h2
 cases L
 ·rfl
 cases c
 ·rfl
 cases e
 ·rfl
 obtain rfl := h1 rfl
 cases f
 ·cases w <;> rfl
 obtain rfl := h2 rfl rfl rfl
 rfl
theorem ca_eq (l : Tx8) : caX l = caF7 l := by
 rw [Mt.ca_le]
 unfold caF7
 rw [rd_le]
theorem ve_eq {D : TL → Tx8} {R : Tx8 → Tx8} (h : DR D R) {p m s : Tx8} (hm : m.length ≤ 1000000) : ve7 caF7 deF deJ R o7F (pd br) (pd zr) tiF raF saF p m s = veF (vX D) p m s := by
 show _ = (Nat.beq s.length 64 && (caX (List.drop 32 s) && ((deEX p == 0) && (!wkX (p16 (dePX p)) && ((deEX (List.take 32 s) == 0) && smP (p16 (tiX (w4 (ofX (List.drop 32 s))))) (p16 (adP' (p16 (dePX (List.take 32 s))) (p16 (btX (p16 (dePX p)) (w4 (nuF D ofX [List.take 32 s, p, m])) [0, 0, 0, 0])))))))))
 rw [ca_eq, de_eq, de_eq]
 unfold ve7
 exact bool_ve _ _ _ _ _ _ _ _ (fun hp => weak_eq (eq_of_beq hp)) (fun hs hp hr => last_eq h hm (Nat.eq_of_beq_eq_true hs) (eq_of_beq hp) (eq_of_beq hr))
theorem eve7_ok (R : Tx8 → Tx8) (hO : POk Tryz.prog GE 21 (Sh.cRef R)) : EnvOk Tryz.prog (EVe7 caF7 deF deJ R o7F (pd br) (pd zr) Qp (fun p q => Qp p && Qp q) tiF raF saF) := ⟨PT.add_ok (PT.add_ok (PT.add_ok (PT.add_ok (PT.add_ok (PT.add_ok (PT.add_ok (PT.add_ok (PT.add_ok (PT.add_ok (noT_ok _ _) canonO7_ok) decodeD_ok) hO) ofO7_ok) baseD_ok) zeroD_ok) timesPD_ok) addPD_ok) samePD_ok) (flagZ_ok _), noC_ok _ _⟩
theorem verify7_ok {D : TL → Tx8} {R : Tx8 → Tx8} (h : DR D R) (hO : POk Tryz.prog GE 21 (Sh.cRef R)) : POk Tryz.prog GE 12 (cVe (veF (vX D))) := verify_gen7 caF7 deF deJ R o7F (pd br) (pd zr) Qp tiF raF saF (veF (vX D)) h.ren o7_len (fun s hs => by
 obtain ⟨hl, p, q, r, -, -, hr, e⟩ := dec_both hs
 rw [e, p27_pd]
 exact ⟨hl, Qp_pd (Sd.of hr)⟩) (fun p q => by
 unfold raF
 rw [p27_pd]
 exact Qp_pd (rad_sd _ _)) (fun p l => by
 unfold tiF
 rw [p27_pd]
 exact Qp_pd (tm_sd _ _ _)) qp_base (by rw [p27_pd]; exact Qp_pd zr_sd) (fun p m s hm => ve_eq h hm) (eve7_ok R hO)
theorem dr_ok : DR dgX Sh.rOf := ⟨Go.Proofs.YtdfghknonbmadaaGreatDoor.dg_len, fun s => Sh.wr_len _, fun l hl => Sh.dOf_eq l (by
 have : (1000000000 : Nat) < 2 ^ 60 := by decide
 omega)⟩
end Dc
end Go.Proofs.YtdfghknonbmadaaGreatDoor
namespace Go.Proofs.YtdfghknonbmadaaGreatDoor
open Go.RowKit Mt
set_option linter.unusedVariables false
set_option linter.unusedSimpArgs false
set_option maxRecDepth 100000
def cAlv (b : Bool) : List SV → List Cont → Option (Bool × SV)
 | [], _ => some (true, .b b)
 | _, _ => none
def flagN : Nat := 1000001
def cFlag : List SV → List Cont → Option (Bool × SV) := fun _ _ => some (false, .any)
theorem flag_ok (n : Nat) : POk Tryz.prog GE n cFlag := by
 intro args acs r h
 cases h
def cPb2 (F : Tx8 → Tx8) : List SV → List Cont → Option (Bool × SV)
 | [.s s], _ => some (Nat.beq s.length 32, .tup [.s (F s), .i 0])
 | _, _ => none
def cSg2 (F : Tx8 → Tx8 → Tx8) : List SV → List Cont → Option (Bool × SV)
 | [.s s, .s m], _ => some (Nat.beq s.length 32 && Nat.ble m.length 1000000, .tup [.s (F s m), .i 0])
 | _, _ => none
def cSg3 (F : Tx8 → Tx8 → Tx8) : List SV → List Cont → Option (Bool × SV)
 | [.s [a, b, c, d, e], .s m], _ => some (Nat.ble m.length 1000000, .tup [.s [], .i 2])
 | [.s s, .s m], _ => some (Nat.beq s.length 32 && Nat.ble m.length 1000000, .tup [.s (F s m), .i 0])
 | _, _ => none
theorem pb2_of {P : Tx8 → Tx8} (h : POk Tryz.prog GE 7 (cPb P)) : POk Tryz.prog GE 7 (cPb2 P) := by
 intro args acs r hh
 unfold cPb2 at hh
 split at hh
 ·rename_i s
  simp only [Option.some.injEq, Prod.mk.injEq] at hh
  obtain ⟨h1, rfl⟩ := hh
  refine h [.s s] acs _ ?_
  show some (true, SV.tup [.s (bif Nat.beq s.length 32 then P s else []), .i (bif Nat.beq s.length 32 then 0 else 2)]) = _
  rw [h1]
  rfl
 ·cases hh
theorem sg2_of {S : Tx8 → Tx8 → Tx8} (h : POk Tryz.prog GE 9 (cSg S)) : POk Tryz.prog GE 9 (cSg2 S) := by
 intro args acs r hh
 unfold cSg2 at hh
 split at hh
 ·rename_i s m
  simp only [Option.some.injEq, Prod.mk.injEq, Bool.and_eq_true] at hh
  obtain ⟨⟨h1, h2⟩, rfl⟩ := hh
  refine h [.s s, .s m] acs _ ?_
  show some (Nat.ble m.length 1000000, SV.tup [.s (bif Nat.beq s.length 32 then S s m else []), .i (bif Nat.beq s.length 32 then 0 else 2)]) = _
  rw [h1, h2]
  rfl
 ·cases hh
theorem sg3_of {S : Tx8 → Tx8 → Tx8} (h : POk Tryz.prog GE 9 (cSg S)) : POk Tryz.prog GE 9 (cSg3 S) := by
 intro args acs r hh
 unfold cSg3 at hh
 split at hh
 ·rename_i a b c d e m
  simp only [Option.some.injEq, Prod.mk.injEq] at hh
  obtain ⟨h2, rfl⟩ := hh
  refine h [.s [a, b, c, d, e], .s m] acs _ ?_
  show some (Nat.ble m.length 1000000, SV.tup [.s [], .i 2]) = _
  rw [h2]
 ·rename_i s m hne
  simp only [Option.some.injEq, Prod.mk.injEq, Bool.and_eq_true] at hh
  obtain ⟨⟨h1, h2⟩, rfl⟩ := hh
  refine h [.s s, .s m] acs _ ?_
  show some (Nat.ble m.length 1000000, SV.tup [.s (bif Nat.beq s.length 32 then S s m else []), .i (bif Nat.beq s.length 32 then 0 else 2)]) = _
  rw [h1, h2]
  rfl
 ·cases hh
def Eal (P : Tx8 → Tx8) (S : Tx8 → Tx8 → Tx8) (V : Tx8 → Tx8 → Tx8 → Bool) : Env := ⟨GE, (((noT.add 7 (cPb2 P)).add 9 (cSg3 S)).add 11 (cVe V)).add flagN cFlag, noC⟩
def K32 : Tx8 := List.replicate 32 0
def TEXT : Tx8 := [116, 101, 120, 116]
def TEXX : Tx8 := [116, 101, 120, 84]
theorem alive_e (P : Tx8 → Tx8) (S : Tx8 → Tx8 → Tx8) (V : Tx8 → Tx8 → Tx8 → Bool) (K0 : SV → Prop) : vf Tryz.prog (Eal P S V) noL 6 [] GE (fun r _ => K0 r) = (bif ((P K32).length : Int) == 32 then bif ((S K32 TEXT).length : Int) == 64 then bif V (P K32) TEXT (S K32 TEXT) then bif !V (P K32) TEXX (S K32 TEXT) then bif ile 63 ((S K32 TEXT).length : Int) then K0 (.b (!V (P K32) TEXT (List.take 63 (S K32 TEXT)))) else False else K0 (.b false) else K0 (.b false) else K0 (.b false) else K0 (.b false)) := by kernel_rfl
theorem ve_no (C : Tx8 → Bool) (P : Tx8 → W6) (E : Tx8 → Int) (N : W6 → Bool) (D' : W6 → W6) (K : Tx8 → W6) (W : W6 → Bool) (F : TL → W6) (T : W6 → W6) (B : W6 → W6 → W6 → W6) (A : W6 → W6 → W6) (S : W6 → W6 → Bool) (p m s : Tx8) (h : C (List.drop 32 s) = false ∨ W (p16 (P p)) = true ∨ s.length ≠ 64) : veF ⟨C, P, E, N, D', K, W, F, T, B, A, S⟩ p m s = false := by
 unfold veF
 dsimp only
 rcases h with h | h | h
 ·rw [h, Bool.false_and, Bool.and_false]
 ·rw [h, Bool.not_true, Bool.false_and, Bool.and_false, Bool.and_false, Bool.and_false]
 ·rw [beqF h, Bool.false_and]
theorem nm_cancel {x d : Nat} (h : Ed.nm (x + d) Bp = Ed.nm x Bp) : Lq ∣ d := by
 apply nm_dvd
 have hx := Ed.nm_on Bp_on x
 have hd := Ed.nm_on Bp_on d
 rw [Ed.nm_add Bp_on] at h
 have h2 : Ed.add (Ed.neg (Ed.nm x Bp)) (Ed.add (Ed.nm x Bp) (Ed.nm d Bp)) = Ed.add (Ed.neg (Ed.nm x Bp)) (Ed.nm x Bp) := by rw [h]
 rw [← Ed.add_assoc (Ed.neg_on hx) hx hd, Ed.neg_add hx, Ed.zero_add hd] at h2
 exact h2
theorem k_same {k k' a r : Nat} (hk : k < Lq) (hk' : k' < Lq) (ha : ¬ Lq ∣ a) (h : Ed.nm (k * a + r) Bp = Ed.nm (k' * a + r) Bp) : k = k' := by
 have key : ∀ x y, x < Lq → y < Lq → x ≤ y → Ed.nm (y * a + r) Bp = Ed.nm (x * a + r) Bp → x = y := fun x y hx hy hxy h => by
  have e : y * a + r = (x * a + r) + (y - x) * a := by
   have : y * a = x * a + (y - x) * a := by rw [← Nat.add_mul, Nat.add_sub_cancel' hxy]
   omega
  rw [e] at h
  rcases prL.or (nm_cancel h) with h1 | h1
  ·have := Nat.eq_zero_of_dvd_of_lt h1 (by omega)
   omega
  ·exact absurd h1 ha
 rcases Nat.le_total k k' with h1 | h1
 ·exact key k k' hk hk' h1 h.symm
 ·exact (key k' k hk' hk h1 h).symm
theorem ve_last {C : Tx8 → Bool} {P : Tx8 → W6} {E : Tx8 → Int} {N : W6 → Bool} {D' : W6 → W6} {K : Tx8 → W6} {W : W6 → Bool} {F : TL → W6} {T : W6 → W6} {B : W6 → W6 → W6 → W6} {A : W6 → W6 → W6} {S : W6 → W6 → Bool} {p m s r1 s1 : Tx8} {a' b' : W6} (ht : List.take 32 s = r1) (hd : List.drop 32 s = s1) (e1 : p16 (T (w4 (K s1))) = a') (e2 : p16 (A (p16 (P r1)) (p16 (B (p16 (P p)) (w4 (F [r1, p, m])) [0, 0, 0, 0]))) = b') (h : veF ⟨C, P, E, N, D', K, W, F, T, B, A, S⟩ p m s = true) : S a' b' = true := by
 unfold veF at h
 dsimp only at h
 rw [ht, hd, e1, e2] at h
 simp only [Bool.and_eq_true] at h
 exact h.2.2.2.2.2
section
variable (D : TL → Tx8) (hD : ∀ l, (D l).length = 64)
theorem other (D : TL → Tx8) (hD : ∀ l, (D l).length = 64) (s m m' : Tx8) (h : veF (vX D) (pbX D s) m' (sgX D s m) = true) : nK D s m = le (D [ec (Ed.nm (nR D s m) Bp), ec (Ed.nm (nA D s) Bp), m']) 64 % Lq := by
 have hA := Ed.nm_on Bp_on (nA D s)
 have hR := Ed.nm_on Bp_on (nR D s m)
 obtain ⟨d1, d2⟩ := decode_ec hA
 obtain ⟨d3, d4⟩ := decode_ec hR
 have iA := at_is hA
 have iR := at_is hR
 have hS : nS D s m < Lq := mod_lt' _
 have hK : le (D [ec (Ed.nm (nR D s m) Bp), ec (Ed.nm (nA D s) Bp), m']) 64 % Lq < Lq := mod_lt' _
 obtain ⟨t, ht1, ht2⟩ := times_pe hS
 obtain ⟨b, hb1, hb2⟩ := mul_pe iA hK
 obtain ⟨ha1, ha2⟩ := add_pe iR hb1
 rw [pb_ec D hD] at h
 have e1 : p16 (tiX (w4 (ofX (wrX (enc (nS D s m)))))) = pe t := by rw [of_wr hS]; exact ht2
 have e2 : p16 (adP' (p16 (dePX (ec (Ed.nm (nR D s m) Bp)))) (p16 (btX (p16 (dePX (ec (Ed.nm (nA D s) Bp)))) (w4 (nuF D ofX [ec (Ed.nm (nR D s m) Bp), ec (Ed.nm (nA D s) Bp), m'])) [0, 0, 0, 0]))) = pe (pls (atp (Ed.nm (nR D s m) Bp).x.val (Ed.nm (nR D s m) Bp).y.val) (rdy b)) := by
  rw [d4, d2, nu_enc D hD, hb2]
  exact ha2
 have hs := (sm_true ht1 ha1).1 (ve_last (C := caX) (P := dePX) (E := deEX) (N := noX) (D' := dbP) (K := ofX) (W := wkX) (F := nuF D ofX) (T := tiX) (B := btX) (A := adP') (S := smP) (sg_take D hD s m) (sg_drop D hD s m) e1 e2 h)
 refine k_same (mod_lt' _) hK (nA_nd D hD s) (r := nR D s m) ?_
 have e3 : Ed.nm (nS D s m) Bp = Ed.nm (nK D s m * nA D s + nR D s m) Bp := nm_mod _
 rw [← e3, hs, Ed.nm_add Bp_on, Ed.nm_mul Bp_on]
 exact Ed.add_comm _ _
end
def ptB (n : Nat) : Tx8 :=
 let q := bt4 zq 0 n
 let i := Nt.pm 57896044618658097711785492504343953926634992332820282019728792003956564819949 256 q.z 57896044618658097711785492504343953926634992332820282019728792003956564819947
 let x := q.x * i % 57896044618658097711785492504343953926634992332820282019728792003956564819949
 let y := q.y * i % 57896044618658097711785492504343953926634992332820282019728792003956564819949
 bif decide (x % 2 = 1) then (wrX (enc y)).set 31 ((wrX (enc y)).getD 31 0 ||| BitVec.ofInt 8 128) else wrX (enc y)
theorem pm_lit (z : Nat) : Nt.pm Nt.P 256 z (Nt.P - 2) = Nt.pm 57896044618658097711785492504343953926634992332820282019728792003956564819949 256 z 57896044618658097711785492504343953926634992332820282019728792003956564819947 := by rw [Nt.P_val]
theorem iv_pm (z : Nat) : iv z = Nt.pm 57896044618658097711785492504343953926634992332820282019728792003956564819949 256 z 57896044618658097711785492504343953926634992332820282019728792003956564819947 := (Nt.pm_eq Nt.P 256 z (Nt.P - 2) (by rw [Nt.P_val]; decide +kernel)).symm.trans (pm_lit z)
theorem ec_ptB {n : Nat} (hn : n < Lq) : ec (Ed.nm n Bp) = ptB n := by
 have h := bt4_is zq_is (a := 0) (b := n) (by decide) (L_253 hn)
 have e : Ed.add (Ed.nm 0 Ed.zero) (Ed.nm n Bp) = Ed.nm n Bp := Ed.zero_add (Ed.nm_on Bp_on n)
 rw [e] at h
 have hx := h.vx
 have hy := h.vy
 unfold mq at hx hy
 rw [iv_pm, Nt.P_val] at hx hy
 unfold ec ptB
 rw [← hx, ← hy]
def xH : Tx8 := [80, 70, 173, 193, 219, 168, 56, 134, 123, 43, 187, 253, 208, 195, 66, 62, 88, 181, 121, 112, 181, 38, 122, 144, 245, 121, 96, 146, 74, 135, 241, 150, 10, 106, 133, 234, 166, 66, 218, 200, 53, 66, 75, 93, 124, 141, 99, 124, 0, 64, 140, 122, 115, 218, 103, 43, 127, 73, 133, 33, 66, 11, 109, 211]
def xR0 : Tx8 := [136, 212, 239, 1, 55, 2, 143, 221, 51, 206, 240, 34, 101, 155, 231, 59, 191, 238, 181, 47, 217, 174, 208, 148, 63, 253, 36, 54, 129, 195, 103, 178, 190, 105, 20, 106, 200, 118, 38, 130, 254, 42, 66, 142, 252, 122, 84, 120, 50, 70, 148, 159, 38, 15, 11, 119, 183, 49, 240, 131, 50, 139, 200, 162]
def xPA : Tx8 := [59, 106, 39, 188, 206, 182, 164, 45, 98, 163, 168, 208, 42, 111, 13, 115, 101, 50, 21, 119, 29, 226, 67, 166, 58, 192, 72, 161, 139, 89, 218, 41]
def xPR : Tx8 := [14, 186, 195, 4, 107, 49, 207, 22, 124, 98, 116, 156, 217, 148, 29, 121, 29, 24, 142, 196, 46, 189, 59, 57, 131, 192, 14, 94, 171, 221, 154, 200]
def xK1 : Tx8 := [63, 59, 253, 9, 138, 202, 246, 110, 83, 165, 71, 48, 208, 53, 108, 72, 89, 6, 45, 72, 224, 148, 197, 236, 216, 234, 103, 0, 118, 240, 190, 95, 150, 220, 120, 47, 133, 53, 225, 127, 140, 157, 89, 224, 86, 61, 29, 112, 147, 82, 80, 112, 242, 195, 32, 191, 159, 212, 100, 184, 107, 23, 103, 247]
def xK2 : Tx8 := [148, 4, 219, 77, 200, 103, 108, 182, 124, 115, 232, 94, 25, 175, 203, 209, 147, 197, 221, 114, 12, 242, 15, 70, 183, 94, 143, 18, 63, 150, 208, 251, 78, 131, 101, 207, 93, 57, 152, 47, 177, 15, 110, 55, 47, 219, 151, 248, 126, 202, 211, 219, 247, 91, 233, 26, 235, 171, 47, 175, 162, 179, 207, 214]
theorem dig0 : dgX [K32] = xH := by decide +kernel
theorem dig1 : dgX [List.drop 32 xH, TEXT] = xR0 := by decide +kernel
theorem dig2 : dgX [xPR, xPA, TEXT] = xK1 := by decide +kernel
theorem dig3 : dgX [xPR, xPA, TEXX] = xK2 := by decide +kernel
theorem num_a : le (clX (List.take 32 xH)) 32 % Lq = 3140620980319341722849076354004524857726602937622481303882784251885505225391 := by rw [Lq_val]; decide +kernel
theorem num_r : le xR0 64 % Lq = 850196773666356309422339814893910971881761216279783485008188274366385375558 := by rw [Lq_val]; decide +kernel
theorem num_k : le xK1 64 % Lq = 3051700886902431880199312561605616305919771856675659439704689325507489791389 := by rw [Lq_val]; decide +kernel
theorem num_k2 : le xK2 64 % Lq = 6926124309909794583650894854177328360763410026704415995850608499506585452493 := by rw [Lq_val]; decide +kernel
theorem pt_a : ptB 3140620980319341722849076354004524857726602937622481303882784251885505225391 = xPA := by decide +kernel
theorem pt_r : ptB 850196773666356309422339814893910971881761216279783485008188274366385375558 = xPR := by decide +kernel
theorem alive_gen (D : TL → Tx8) (hD : ∀ l, (D l).length = 64) (h0 : D [K32] = xH) (h1 : D [List.drop 32 xH, TEXT] = xR0) (h2 : D [xPR, xPA, TEXT] = xK1) (h3 : D [xPR, xPA, TEXX] = xK2) : veF (vX D) (pbX D K32) TEXX (sgX D K32 TEXT) = false := by
 have nA_x : nA D K32 = 3140620980319341722849076354004524857726602937622481303882784251885505225391 := by
  unfold nA
  rw [h0, num_a]
 have nR_x : nR D K32 TEXT = 850196773666356309422339814893910971881761216279783485008188274366385375558 := by
  unfold nR opP
  rw [h0, h1, num_r]
 apply Bool.eq_false_iff.2
 intro h
 have e := other D hD K32 TEXT TEXX h
 unfold nK at e
 rw [ec_ptB (n := nR D K32 TEXT) (mod_lt' _), ec_ptB (n := nA D K32) (mod_lt' _), nA_x, nR_x, pt_a, pt_r, h2, h3, num_k, num_k2] at e
 exact absurd e (by decide)
structure DgOk (D : TL → Tx8) : Prop where
 len : ∀ l, (D l).length = 64
 h0 : D [K32] = xH
 h1 : D [List.drop 32 xH, TEXT] = xR0
 h2 : D [xPR, xPA, TEXT] = xK1
 h3 : D [xPR, xPA, TEXX] = xK2
theorem dg_ok : DgOk dgX := ⟨dg_len, dig0, dig1, dig2, dig3⟩
section
variable (D : TL → Tx8) (hd : DgOk D) (hO : POk Tryz.prog GE 38 (Sh.cOf D))
theorem eal_ok (D : TL → Tx8) (hd : DgOk D) (hO : POk Tryz.prog GE 38 (Sh.cOf D)) : EnvOk Tryz.prog (Eal (pbX D) (sgX D) (veF (vX D))) := ⟨PT.add_ok (PT.add_ok (PT.add_ok (PT.add_ok (noT_ok _ _) (pb2_of (public_ok D hd.len hO))) (sg3_of (sign_ok D hd.len hO))) (verify_ok D hd.len hO)) (flag_ok _), noC_ok _ _⟩
theorem alive_ok (D : TL → Tx8) (hd : DgOk D) (hO : POk Tryz.prog GE 38 (Sh.cOf D)) : POk Tryz.prog GE 6 (cAlv true) := by
 intro args acs r hh β M w hR hw ha
 unfold cAlv at hh
 split at hh
 ·simp only [Option.some.injEq, Prod.mk.injEq, true_and] at hh
  subst hh
  refine pokE (E := Eal (pbX D) (sgX D) (veF (vX D))) rfl (eal_ok D hd hO) (alive_e (pbX D) (sgX D) (veF (vX D)) fun r => r = .b true) ?_ rfl rfl hR
  have l1 : (pbX D K32).length = 32 := by rw [pb_ec D hd.len]; exact ec_len _
  have l2 := sg_len D hd.len K32 TEXT
  have l3 : veF (vX D) (pbX D K32) TEXT (List.take 63 (sgX D K32 TEXT)) = false := ve_no caX dePX deEX noX dbP ofX wkX (nuF D ofX) tiX btX adP' smP _ _ _ (.inr (.inr (by rw [List.length_take, l2]; decide)))
  rw [l1, l2, verify_true D hd.len, alive_gen D hd.len hd.h0 hd.h1 hd.h2 hd.h3, l3]
  rfl
 ·cases hh
end
end Go.Proofs.YtdfghknonbmadaaGreatDoor
