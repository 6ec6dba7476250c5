/-
  edw: the words of points. No statement is proved here.
-/
import Derived.Test.YtdfghknonbmadaaGreatDoorMaD
import Derived.Test.YtdfghknonbmadaaGreatDoorMaE
namespace Go.Proofs.YtdfghknonbmadaaGreatDoor
namespace Mt
set_option linter.unusedVariables false
set_option linter.unusedSimpArgs false
set_option maxRecDepth 100000
theorem Ve {a : Nat} (h : a < Nt.P) : V (enc a) = a := V_enc (lt4 h)
theorem encA {a b : Nat} (ha : a < Nt.P) (hb : b < Nt.P) : w4 (adX (enc a) (enc b)) = enc (ad a b) := eq_enc (by rw [addV (by rw [Ve ha]; exact ha) (by rw [Ve hb]; exact hb), Ve ha, Ve hb]; rfl)
theorem encS {a b : Nat} (ha : a < Nt.P) (hb : b < Nt.P) : w4 (sbX (enc a) (enc b)) = enc (sb a b) := eq_enc (by rw [subV (by rw [Ve ha]; exact ha) (by rw [Ve hb]; exact hb), Ve ha, Ve hb]; rfl)
theorem encM {a b : Nat} (ha : a < Nt.P) (hb : b < Nt.P) : w4 (tmX (enc a) (enc b)) = enc (mq a b) := eq_enc (by rw [mulV, Ve ha, Ve hb]; rfl)
theorem encI {a : Nat} (ha : a < Nt.P) : w4 (ivX (enc a)) = enc (iv a) := eq_enc (by rw [inv_V _ (by rw [Ve ha]; exact ha), Ve ha])
theorem encE {a b : Nat} (ha : a < Nt.P) (hb : b < Nt.P) : smX (enc a) (enc b) = decide (a = b) := by rw [same_is, Ve ha, Ve hb]
theorem encO {a : Nat} (ha : a < Nt.P) : (lwX (enc a) != BitVec.ofInt 64 0) = decide (a % 2 = 1) := by rw [low_is, mk_ne, Ve ha]
theorem encB {a : Nat} (ha : a < Nt.P) (o : Bool) : w4 (roB pwX tmX sbX lwX mkX pkW sqY (enc a) o) = enc (ro a o) := eq_enc (by rw [root_V _ o (by rw [Ve ha]; exact ha), Ve ha])
theorem encJ {a : Nat} (ha : a < Nt.P) (o : Bool) : roJ pwX tmX sbX lwX mkX pkW sqY (enc a) o = ok a o := by rw [root_b _ o (by rw [Ve ha]; exact ha), Ve ha]
theorem encZ0 : w4 (zX 0) = enc 0 := rfl
theorem encZ1 : w4 (zX 1) = enc 1 := rfl
def pe (q : Pq) : W6 := p4 (enc q.x) (enc q.y) (enc q.z) (enc q.t)
structure Sm (q : Pq) : Prop where
 x : q.x < Nt.P
 y : q.y < Nt.P
 z : q.z < Nt.P
 t : q.t < Nt.P
theorem Is.sm {q : Pq} {p : Ed.Pt} (h : Is q p) : Sm q := ⟨h.lx, h.ly, h.lz, h.lt⟩
theorem p4_w4 (x y z t : W6) : p4 x y z t = p4 (w4 x) (w4 y) (w4 z) (w4 t) := rfl
theorem pe_eq {x y z t : W6} {q : Pq} (hx : w4 x = enc q.x) (hy : w4 y = enc q.y) (hz : w4 z = enc q.z) (ht : w4 t = enc q.t) : p4 x y z t = pe q := by
 rw [p4_w4, hx, hy, hz, ht]; rfl
theorem p16_p4 (x y z t : W6) : p16 (p4 x y z t) = p4 x y z t := rfl
theorem p16_pe (q : Pq) : p16 (pe q) = pe q := rfl
theorem rdy_sm {q : Pq} (h : Sm q) : Sm (rdy q) := ⟨ad_lt _ _, sb_lt _ _, ad_lt _ _, ml_lt _ _⟩
theorem ready_pe (K : Tx8 → W6) (hK : w4 (K curD) = enc dN) {q : Pq} (h : Sm q) : p16 (rdF adX sbX tmX K (pe q)) = pe (rdy q) := by
 show p16 (p4 (adX (enc q.y) (enc q.x)) (sbX (enc q.y) (enc q.x)) (adX (enc q.z) (enc q.z)) (tmX (w4 (adX (enc q.t) (enc q.t))) (w4 (K curD)))) = _
 rw [p16_p4, hK, encA h.t h.t]
 exact pe_eq (encA h.y h.x) (encS h.y h.x) (encA h.z h.z) (encM (ad_lt _ _) dN_lt)
theorem jn_pe {e f g h : Nat} (he : e < Nt.P) (hf : f < Nt.P) (hg : g < Nt.P) (hh : h < Nt.P) : p16 (jnW tmX (enc e) (enc f) (enc g) (enc h)) = pe (jn e f g h) := by
 show p16 (p4 (tmX (enc e) (enc f)) (tmX (enc g) (enc h)) (tmX (enc f) (enc g)) (tmX (enc e) (enc h))) = _
 rw [p16_p4]
 exact pe_eq (encM he hf) (encM hg hh) (encM hf hg) (encM he hh)
theorem plus_pe {q r : Pq} (h : Sm q) (k : Sm r) : p16 (plF adX sbX tmX (jnW tmX) (pe q) (pe r)) = pe (pls q r) := by
 have e : plF adX sbX tmX (jnW tmX) (pe q) (pe r) = psW adX sbX tmX (jnW tmX) (enc q.x) (enc q.y) (enc q.z) (enc q.t) (enc r.x) (enc r.y) (enc r.z) (enc r.t) := rfl
 rw [e]
 unfold psW
 simp only [w4_enc, encS h.y h.x, encA h.y h.x, encM (sb_lt q.y q.x) k.y, encM (ad_lt q.y q.x) k.x, encM h.t k.t, encM h.z k.z, encS (ml_lt _ _) (ml_lt _ _), encA (ml_lt _ _) (ml_lt _ _)]
 rw [jn_pe (sb_lt _ _) (sb_lt _ _) (ad_lt _ _) (ad_lt _ _), p16_pe]
 rfl
theorem double_pe {q : Pq} (h : Sm q) : p16 (dbF adX sbX tmX (jnW tmX) (pe q)) = pe (dbq q) := by
 have e : dbF adX sbX tmX (jnW tmX) (pe q) = dbW adX sbX tmX (jnW tmX) (enc q.x) (enc q.y) (enc q.z) (enc q.t) := rfl
 rw [e]
 unfold dbW
 simp only [w4_enc, encM h.x h.x, encM h.y h.y, encM h.z h.z, encA h.x h.y, encA (ml_lt q.x q.x) (ml_lt q.y q.y), encS (ml_lt q.x q.x) (ml_lt q.y q.y), encM (ad_lt q.x q.y) (ad_lt q.x q.y), encA (ml_lt q.z q.z) (ml_lt q.z q.z)]
 rw [encS (ad_lt _ _) (ml_lt _ _), encA (ad_lt _ _) (sb_lt _ _), jn_pe (sb_lt _ _) (ad_lt _ _) (sb_lt _ _) (ad_lt _ _), p16_pe]
 rfl
theorem at_pe {x y : Nat} (hx : x < Nt.P) (hy : y < Nt.P) : p16 (atF tmX zX (enc x) (enc y)) = pe (atp x y) := by
 show p16 (p4 (enc x) (enc y) (zX 1) (tmX (enc x) (enc y))) = _
 rw [p16_p4]
 exact pe_eq (w4_enc _) (w4_enc _) encZ1 (encM hx hy)
theorem no_pe {q : Pq} {p : Ed.Pt} (h : Is q p) : noP smX zX (pe q) = false := by
 show smX (enc q.z) (enc 0) = false
 rw [encE h.lz zero_lt]
 exact decide_eq_false fun e => h.z (by rw [e, Ed.fe_0])
theorem same_pe {q r : Pq} {p s : Ed.Pt} (h : Is q p) (k : Is r s) : smF tmX smX (pe q) (pe r) = (decide (p.x = s.x) && decide (p.y = s.y)) := by
 show (smX (w4 (tmX (enc q.x) (enc r.z))) (w4 (tmX (enc r.x) (enc q.z))) && smX (w4 (tmX (enc q.y) (enc r.z))) (w4 (tmX (enc r.y) (enc q.z)))) = _
 rw [encM h.lx k.lz, encM k.lx h.lz, encM h.ly k.lz, encM k.ly h.lz, encE (ml_lt _ _) (ml_lt _ _), encE (ml_lt _ _) (ml_lt _ _)]
 have := same_iff (x1 := Ed.fe q.x) (y1 := Ed.fe q.y) (x2 := Ed.fe r.x) (y2 := Ed.fe r.y) h.z k.z h.x h.y k.x k.y
 have e1 : (mq q.x r.z = mq r.x q.z) ↔ p.x = s.x := by rw [fe_eq (ml_lt _ _) (ml_lt _ _), Ed.fe_mul, Ed.fe_mul]; exact this.1
 have e2 : (mq q.y r.z = mq r.y q.z) ↔ p.y = s.y := by rw [fe_eq (ml_lt _ _) (ml_lt _ _), Ed.fe_mul, Ed.fe_mul]; exact this.2
 rw [decide_eq_decide.2 e1, decide_eq_decide.2 e2]
end Mt
end Go.Proofs.YtdfghknonbmadaaGreatDoor
namespace Go.Proofs.YtdfghknonbmadaaGreatDoor
open Go.RowKit
set_option linter.unusedVariables false
set_option linter.unusedSimpArgs false
set_option maxRecDepth 100000
def cDe (P : Tx8 → W6) (E : Tx8 → Int) : List SV → List Cont → Option (Bool × SV)
 | [.s l], _ => some (true, .tup [.a64 (p16 (P l)), .i (E l)])
 | _, _ => none
def deI (C : Tx8 → Bool) (K : Tx8 → W6) (J : W6 → Bool → Bool) (s : Tx8) : Bool := C (u8 s) && J (w4 (K (u8 s))) (o8 s)
def deE (C : Tx8 → Bool) (K : Tx8 → W6) (J : W6 → Bool → Bool) (s : Tx8) : Int := bif Nat.beq s.length 32 then bif deI C K J s then 0 else 90 else 2
def deP (C : Tx8 → Bool) (K : Tx8 → W6) (B : W6 → Bool → W6) (J : W6 → Bool → Bool) (T : W6 → W6 → W6) (s : Tx8) : W6 := bif Nat.beq s.length 32 && deI C K J s then dePt K B T (u8 s) (o8 s) else List.replicate 16 0
theorem take_set (s : Tx8) (k n : Nat) (v : BitVec 8) (hk : k < s.length) : List.take s.length (List.drop 0 ((s ++ List.replicate n 0).set k v)) = s.set k v := by
 rw [List.drop_zero, List.set_append_left _ _ hk]
 exact List.take_left' (by simp)
theorem getD_app (s : Tx8) (k n : Nat) (hk : k < s.length) : (s ++ List.replicate n 0).getD k 0 = s.getD k 0 := by
 rw [List.getD_eq_getElem?_getD, List.getElem?_append_left hk, ← List.getD_eq_getElem?_getD]
theorem beqF {n m : Nat} (h : n ≠ m) : Nat.beq n m = false := by
 cases e : Nat.beq n m
 ·rfl
 ·exact absurd (Nat.eq_of_beq_eq_true e) h
theorem decode_gen (C : Tx8 → Bool) (K : Tx8 → W6) (B : W6 → Bool → W6) (J : W6 → Bool → Bool) (T : W6 → W6 → W6) (hE : EnvOk Tryz.prog (Ed C K B J T)) : POk Tryz.prog GE 25 (cDe (deP C K B J T) (deE C K J)) := by
 intro args acs r hh β M' w hR hw ha
 unfold cDe at hh
 split at hh
 ·rename_i s
  simp only [Option.some.injEq, Prod.mk.injEq, true_and] at hh
  subst hh
  refine pokE (E := Ed C K B J T) rfl hE (decode_e C K B J T s fun r => r = .tup [.a64 (p16 (deP C K B J T s)), .i (deE C K J s)]) ?_ rfl rfl hR
  unfold deP deE
  by_cases hl : s.length = 32
  ·rw [nb_of hl, show Nat.beq s.length 32 = true by rw [hl]; rfl, Bool.true_and]
   simp only [cond_false, cond_true]
   intro cap x hc hx
   subst hx
   have i1 : inR 31 s.length = true := inR_iff.2 ⟨by omega, by omega⟩
   have i2 : Nat.blt 31 (s ++ List.replicate (cap - s.length) 0).length = true := blt_of (by simp; omega)
   have e1 : List.take s.length (List.drop 0 (u8 (s ++ List.replicate (cap - s.length) 0))) = u8 s := by
    unfold u8
    rw [getD_app s 31 _ (by omega), take_set s 31 _ _ (by omega)]
   have e2 : o8 (s ++ List.replicate (cap - s.length) 0) = o8 s := by
    unfold o8
    rw [getD_app s 31 _ (by omega)]
   have e3 : (u8 s).length = 32 := by unfold u8; rw [List.length_set]; exact hl
   have i3 : decide (0 + s.length ≤ (u8 (s ++ List.replicate (cap - s.length) 0)).length) = true := decide_eq_true (by unfold u8; simp)
   refine bif_of i1 (bif_of i2 (bif_of i1 (bif_of i2 (bif_of i1 (bif_of i2 (bif_of i3 ?_))))))
   rw [e1, e2]
   unfold deI
   cases hC : C (u8 s)
   ·rfl
   ·simp only [Bool.not_true, cond_false, Bool.true_and]
    refine bif_of i3 (bif_of (by rw [e3]; rfl) ?_)
    cases hJ : J (w4 (K (u8 s))) (o8 s) <;> rfl
  ·have hb : ((s.length : Int) != 32) = true := bne_iff_ne.2 (by omega)
   rw [hb, beqF hl]
   rfl
 ·cases hh
theorem ed_ok : EnvOk Tryz.prog (Ed canX knX bsBX bsJX atX) := ⟨PT.add_ok (PT.add_ok (PT.add_ok (PT.add_ok (noT_ok _ _) canon_ok) known_ok) beside_ok) at_ok, noC_ok _ _⟩
abbrev dePX : Tx8 → W6 := deP canX knX bsBX bsJX atX
abbrev deEX : Tx8 → Int := deE canX knX bsJX
theorem decode_ok : POk Tryz.prog GE 25 (cDe dePX deEX) := decode_gen canX knX bsBX bsJX atX ed_ok
def byY (M : W6 → W6 → W6) (I : W6 → W6) (Y : W6 → Tx8) (p : W6) : Tx8 := Y (w4 (M (el p 1) (w4 (I (el p 2)))))
def byO (M : W6 → W6 → W6) (I : W6 → W6) (O : W6 → Bool) (p : W6) : Bool := O (w4 (M (el p 0) (w4 (I (el p 2)))))
def Eb2 (M : W6 → W6 → W6) (I : W6 → W6) (O : W6 → Bool) (N : W6 → Bool) (Y : W6 → Tx8) : Env := ⟨GE, ((((noT.add 62 (ct2 M)).add 79 (ct1 I)).add 61 (cNo N)).add 81 (cOd O)).add 80 (cWr Y), noC⟩
theorem bytesP_e (M : W6 → W6 → W6) (I : W6 → W6) (O : W6 → Bool) (N : W6 → Bool) (Y : W6 → Tx8) (x y z t : W6) (K0 : SV → Prop) : vf Tryz.prog (Eb2 M I O N Y) noL 40 [.a64 (p4 x y z t)] GE (fun r _ => K0 r) = (bif !N (p4 x y z t) then ∀ (cap : Nat) (u : Tx8), (byY M I Y (p4 x y z t)).length ≤ cap → u = byY M I Y (p4 x y z t) ++ List.replicate (cap - (byY M I Y (p4 x y z t)).length) 0 → bif byO M I O (p4 x y z t) then bif inR 31 (byY M I Y (p4 x y z t)).length then bif Nat.blt 31 u.length then bif inR 31 (byY M I Y (p4 x y z t)).length then bif Nat.blt 31 u.length then bif decide (0 + (byY M I Y (p4 x y z t)).length ≤ (u.set 31 (u.getD 31 0 ||| BitVec.ofInt 8 128)).length) then K0 (.s (List.take (byY M I Y (p4 x y z t)).length (List.drop 0 (u.set 31 (u.getD 31 0 ||| BitVec.ofInt 8 128))))) else False else False else False else False else False else bif decide (0 + (byY M I Y (p4 x y z t)).length ≤ u.length) then K0 (.s (List.take (byY M I Y (p4 x y z t)).length (List.drop 0 u))) else False else False) := by kernel_rfl
def byF (M : W6 → W6 → W6) (I : W6 → W6) (O : W6 → Bool) (Y : W6 → Tx8) (p : W6) : Tx8 := bif byO M I O p then (byY M I Y p).set 31 ((byY M I Y p).getD 31 0 ||| BitVec.ofInt 8 128) else byY M I Y p
def cBP (N : W6 → Bool) (B : W6 → Tx8) : List SV → List Cont → Option (Bool × SV)
 | [.a64 p], _ => some (Nat.beq p.length 16 && !N p, .s (B p))
 | _, _ => none
theorem bytesP_gen (M : W6 → W6 → W6) (I : W6 → W6) (O : W6 → Bool) (N : W6 → Bool) (Y : W6 → Tx8) (hY : ∀ l, (Y l).length = 32) (hE : EnvOk Tryz.prog (Eb2 M I O N Y)) : POk Tryz.prog GE 40 (cBP N (byF M I O Y)) := by
 intro args acs r hh β M' w hR hw ha
 unfold cBP at hh
 split at hh
 ·rename_i p
  simp only [Option.some.injEq, Prod.mk.injEq, Bool.and_eq_true] at hh
  obtain ⟨⟨h1, h3⟩, rfl⟩ := hh
  obtain ⟨a, b, c, d, e, f, g, i, j, k, l, m, n, o, q, r, rfl⟩ := ex16 (Nat.eq_of_beq_eq_true h1)
  refine pokE (E := Eb2 M I O N Y) rfl hE (bytesP_e M I O N Y [a, b, c, d] [e, f, g, i] [j, k, l, m] [n, o, q, r] fun x => x = .s (byF M I O Y [a, b, c, d, e, f, g, i, j, k, l, m, n, o, q, r])) (bif_of h3 ?_) rfl rfl hR
  intro cap u hc hu
  have hlen : (byY M I Y (p4 [a, b, c, d] [e, f, g, i] [j, k, l, m] [n, o, q, r])).length = 32 := hY _
  have e1 : byF M I O Y [a, b, c, d, e, f, g, i, j, k, l, m, n, o, q, r] = bif byO M I O (p4 [a, b, c, d] [e, f, g, i] [j, k, l, m] [n, o, q, r]) then (byY M I Y (p4 [a, b, c, d] [e, f, g, i] [j, k, l, m] [n, o, q, r])).set 31 ((byY M I Y (p4 [a, b, c, d] [e, f, g, i] [j, k, l, m] [n, o, q, r])).getD 31 0 ||| BitVec.ofInt 8 128) else byY M I Y (p4 [a, b, c, d] [e, f, g, i] [j, k, l, m] [n, o, q, r]) := rfl
  rw [e1]
  generalize byY M I Y (p4 [a, b, c, d] [e, f, g, i] [j, k, l, m] [n, o, q, r]) = s at hlen hc hu ⊢
  subst hu
  have i1 : inR 31 s.length = true := inR_iff.2 ⟨by omega, by omega⟩
  have i2 : Nat.blt 31 (s ++ List.replicate (cap - s.length) 0).length = true := blt_of (by simp; omega)
  cases byO M I O (p4 [a, b, c, d] [e, f, g, i] [j, k, l, m] [n, o, q, r])
  ·refine bif_of (decide_eq_true (by simp)) ?_
   rw [List.drop_zero, List.take_left' rfl]
   rfl
  ·refine bif_of i1 (bif_of i2 (bif_of i1 (bif_of i2 (bif_of (decide_eq_true (by simp)) ?_))))
   rw [getD_app s 31 _ (by omega), take_set s 31 _ _ (by omega)]
   rfl
 ·cases hh
theorem eb_ok : EnvOk Tryz.prog (Eb2 tmX ivX odX noX wrX) := ⟨PT.add_ok (PT.add_ok (PT.add_ok (PT.add_ok (PT.add_ok (noT_ok _ _) mul_ok) inv_ok) none_ok) odd_ok) bytesE_ok, noC_ok _ _⟩
abbrev byP : W6 → Tx8 := byF tmX ivX odX wrX
theorem bytesP_ok : POk Tryz.prog GE 40 (cBP noX byP) := bytesP_gen tmX ivX odX noX wrX (fun l => wrN_len l 32) eb_ok
theorem bit_e (s : Tx8) (n : Nat) : vf Tryz.prog E00 noL 102 [.s s, .i (n : Int)] GE (fun r _ => r = .w8 (s.getD ((n : Int).tdiv 8).toNat 0 >>> ((n : Int).tmod 8).toNat &&& BitVec.ofInt 8 1)) = (bif inI (n : Int) then bif inR ((n : Int).tdiv 8) s.length then SV.w8 (s.getD ((n : Int).tdiv 8).toNat 0 >>> ((n : Int).tmod 8).toNat &&& BitVec.ofInt 8 1) = SV.w8 (s.getD ((n : Int).tdiv 8).toNat 0 >>> ((n : Int).tmod 8).toNat &&& BitVec.ofInt 8 1) else False else False) := by kernel_rfl
def bitX (s : Tx8) (n : Nat) : BitVec 8 := s.getD (n / 8) 0 >>> (n % 8) &&& BitVec.ofInt 8 1
def cBi (B : Tx8 → Nat → BitVec 8) : List SV → List Cont → Option (Bool × SV)
 | [.s s, .i n], _ => some (Nat.beq s.length 32 && (ile 0 n && ile n 255), .w8 (B s n.toNat))
 | _, _ => none
theorem bit_ok : POk Tryz.prog GE 102 (cBi bitX) := by
 intro args acs r hh β M' w hR hw ha
 unfold cBi at hh
 split at hh
 ·rename_i s n
  simp only [Option.some.injEq, Prod.mk.injEq, Bool.and_eq_true] at hh
  obtain ⟨⟨h1, h2, h3⟩, rfl⟩ := hh
  have h1 := Nat.eq_of_beq_eq_true h1
  rw [ile_eq] at h2 h3
  have h2 := of_decide_eq_true h2
  have h3 := of_decide_eq_true h3
  obtain ⟨m, rfl⟩ : ∃ m : Nat, n = (m : Int) := ⟨n.toNat, by omega⟩
  rw [Int.toNat_natCast]
  have := pokE (E := E00) rfl e00_ok (bit_e s m) (bif_of (inI_iff.2 (by omega)) (bif_of (inR_iff.2 ⟨by rw [tdiv8i]; omega, by rw [tdiv8i]; omega⟩) rfl)) rfl rfl hR
  rw [tdiv8, show ((m : Int).tmod 8).toNat = m % 8 by rw [Int.tmod_eq_emod_of_nonneg (by omega)]; omega] at this
  exact this
 ·cases hh
end Go.Proofs.YtdfghknonbmadaaGreatDoor
namespace Go.Proofs.YtdfghknonbmadaaGreatDoor
open Go.RowKit
set_option linter.unusedVariables false
set_option linter.unusedSimpArgs false
set_option maxRecDepth 100000
def Ebo (Z : W6) (R D : W6 → W6) (P A : W6 → W6 → W6) (N : W6 → Bool) (B : Tx8 → Nat → BitVec 8) : Env := ⟨GE, (((((noT.add 59 (cK0 (p16 Z))).add 65 (cP1 R)).add 98 (cP1 D)).add 64 (cP2 P)).add 31 (cA2 N A)).add 102 (cBi B), noC⟩
def MB (p q x f : W6) : Mm := [⟨false, .a64 BEG⟩, ⟨false, .a64 PRI⟩, ⟨false, .a64 CON⟩, ⟨false, .a64 WHO⟩, ⟨false, .a64 ROM⟩, ⟨true, .a64 (p16 p)⟩, ⟨true, .a64 (p16 q)⟩, ⟨true, .a64 (List.replicate 16 0)⟩, ⟨true, .a64 (p16 x)⟩, ⟨true, .gone⟩, ⟨true, .gone⟩, ⟨true, .gone⟩, ⟨true, .gone⟩, ⟨true, .gone⟩, ⟨true, .gone⟩, ⟨true, .gone⟩, ⟨true, .gone⟩, ⟨true, .gone⟩, ⟨true, .gone⟩, ⟨true, .gone⟩, ⟨true, .a64 f⟩]
def iB (a b : Tx8) (j : Nat) : List (Nat × SV) := [(2, .s a), (3, .s b), (8, .ptr 7 0), (9, .ptr 8 0), (10, .ptr 20 0), (11, .i (252 - (j : Int)))]
def oB : List (Nat × SV) := [(8, .ptr 7 0), (9, .ptr 8 0)]
def fourF (Z : W6) (R : W6 → W6) (A : W6 → W6 → W6) (p q : W6) : W6 := p16 (R (p16 Z)) ++ (p16 (R (p16 p)) ++ (p16 (R (p16 q)) ++ (p16 (R (p16 (A (p16 p) (p16 q)))) ++ [])))
def LB (p q x z f : W6) (a b : Tx8) : LT := noL.add 0 (vLoop GE 42 (iB a b 0) (MB p q x f) oB (MB p q z f))
theorem vaB (Z : W6) (R D : W6 → W6) (P A : W6 → W6 → W6) (N : W6 → Bool) (B : Tx8 → Nat → BitVec 8) (p q x z f : W6) (a b : Tx8) (K0 : SV → Mm → Prop) : (vf Tryz.prog (Ebo Z R D P A N B) (LB p q x z f a b) 66 [.a64 (p16 p), .a64 (p16 q), .s a, .s b] GE K0) = (bif !N (List.take 16 (List.drop 0 (p16 p))) && !N (List.take 16 (List.drop 0 (p16 q))) then loopOf Tryz.prog 66 0 = loopOf Tryz.prog 66 0 ∧ SV.s a = SV.s a ∧ SV.s b = SV.s b ∧ SV.ptr ((0 : Nat) + (1 : Nat) + (1 : Nat) + (1 : Nat) + (1 : Nat) + (1 : Nat) + (1 : Nat) + (1 : Nat)) (0 : Nat) = SV.ptr 7 0 ∧ SV.ptr ((0 : Nat) + (1 : Nat) + (1 : Nat) + (1 : Nat) + (1 : Nat) + (1 : Nat) + (1 : Nat) + (1 : Nat) + (1 : Nat)) (0 : Nat) = SV.ptr 8 0 ∧ SV.ptr ((0 : Nat) + (1 : Nat) + (1 : Nat) + (1 : Nat) + (1 : Nat) + (1 : Nat) + (1 : Nat) + (1 : Nat) + (1 : Nat) + (1 : Nat) + (11 : Nat)) (0 : Nat) = SV.ptr 20 0 ∧ SV.i (252 : Int) = SV.i ((252 : Int) - (↑(0 : Nat) : Int)) ∧ g5E ((true = true ∧ Cont.a64 (p16 p) = Cont.a64 (p16 p)) ∧ (true = true ∧ Cont.a64 (p16 q) = Cont.a64 (p16 q)) ∧ (true = true ∧ Cont.a64 (List.replicate 16 (0 : BitVec 64)) = Cont.a64 (List.replicate 16 (0 : BitVec 64))) ∧ (true = true ∧ Cont.a64 (p16 Z) = Cont.a64 (p16 x)) ∧ (true = true ∧ Cont.gone = Cont.gone) ∧ (true = true ∧ Cont.gone = Cont.gone) ∧ (true = true ∧ Cont.gone = Cont.gone) ∧ (true = true ∧ Cont.gone = Cont.gone) ∧ (true = true ∧ Cont.gone = Cont.gone) ∧ (true = true ∧ Cont.gone = Cont.gone) ∧ (true = true ∧ Cont.gone = Cont.gone) ∧ (true = true ∧ Cont.gone = Cont.gone) ∧ (true = true ∧ Cont.gone = Cont.gone) ∧ (true = true ∧ Cont.gone = Cont.gone) ∧ (true = true ∧ Cont.gone = Cont.gone) ∧ (true = true ∧ Cont.a64 (p16 (R (List.take 16 (List.drop 0 (p16 Z)))) ++ (p16 (R (List.take 16 (List.drop 0 (p16 p)))) ++ (p16 (R (List.take 16 (List.drop 0 (p16 q)))) ++ (p16 (R (p16 (A (List.take 16 (List.drop 0 (p16 p))) (List.take 16 (List.drop 0 (p16 q)))))) ++ [])))) = Cont.a64 f) ∧ K0 (SV.a64 (List.take 16 (List.drop 0 (List.take 16 (List.drop 0 (p16 z)))))) [{ rw := false, c := Cont.a64 BEG }, { rw := false, c := Cont.a64 PRI }, { rw := false, c := Cont.a64 CON }, { rw := false, c := Cont.a64 WHO }, { rw := false, c := Cont.a64 ROM }, { rw := true, c := Cont.a64 (p16 p) }, { rw := true, c := Cont.a64 (p16 q) }, { rw := true, c := Cont.a64 (List.take 16 (List.drop 0 (p16 z))) }, { rw := true, c := Cont.a64 (p16 z) }, { rw := true, c := Cont.gone }, { rw := true, c := Cont.gone }, { rw := true, c := Cont.gone }, { rw := true, c := Cont.gone }, { rw := true, c := Cont.gone }, { rw := true, c := Cont.gone }, { rw := true, c := Cont.gone }, { rw := true, c := Cont.gone }, { rw := true, c := Cont.gone }, { rw := true, c := Cont.gone }, { rw := true, c := Cont.gone }, { rw := true, c := Cont.a64 f }]) else False) := by kernel_rfl
theorem vrB (Z : W6) (R D : W6 → W6) (P A : W6 → W6 → W6) (N : W6 → Bool) (B : Tx8 → Nat → BitVec 8) (p q x y z f : W6) (a b : Tx8) (j : Nat) (c : Prop) : (frK 42 (iB a b j) fun fr => vround Tryz.prog (Ebo Z R D P A N B) noL 66 0 fr (MB p q x f) (Kn GE 0 42 c (iB a b (j + 1)) (MB p q y f) oB (MB p q z f))) = (bif ile (0 : Int) ((252 : Int) - (↑j : Int)) then bif (List.length b).beq 32 && (ile (0 : Int) ((252 : Int) - (↑j : Int)) && ile ((252 : Int) - (↑j : Int)) (255 : Int)) then bif (List.length a).beq 32 && (ile (0 : Int) ((252 : Int) - (↑j : Int)) && ile ((252 : Int) - (↑j : Int)) (255 : Int)) then bif inR (↑(B b ((252 : Int) - (↑j : Int)).toNat <<< (1 : Nat) ||| B a ((252 : Int) - (↑j : Int)).toNat).toNat : Int) (4 : Nat) then bif ((B b ((252 : Int) - (↑j : Int)).toNat <<< (1 : Nat) ||| B a ((252 : Int) - (↑j : Int)).toNat).toNat * (16 : Nat) + (16 : Nat)).ble (List.length f) then bif (List.take 16 (List.drop ((B b ((252 : Int) - (↑j : Int)).toNat <<< (1 : Nat) ||| B a ((252 : Int) - (↑j : Int)).toNat).toNat * (16 : Nat)) f)).length.beq 16 then bif inI ((252 : Int) - (↑j : Int) - (1 : Int)) then c ∧ SV.s a = SV.s a ∧ SV.s b = SV.s b ∧ SV.ptr 7 0 = SV.ptr 7 0 ∧ SV.ptr 8 0 = SV.ptr 8 0 ∧ SV.ptr 20 0 = SV.ptr 20 0 ∧ SV.i ((252 : Int) - (↑j : Int) - (1 : Int)) = SV.i ((252 : Int) - (↑(j + (1 : Nat)) : Int)) ∧ g5E ((true = true ∧ Cont.a64 (p16 p) = Cont.a64 (p16 p)) ∧ (true = true ∧ Cont.a64 (p16 q) = Cont.a64 (p16 q)) ∧ (true = true ∧ Cont.a64 (List.replicate 16 (0 : BitVec 64)) = Cont.a64 (List.replicate 16 (0 : BitVec 64))) ∧ (true = true ∧ Cont.a64 (p16 (P (p16 (D (List.take 16 (List.drop 0 (p16 x))))) (List.take 16 (List.drop ((B b ((252 : Int) - (↑j : Int)).toNat <<< (1 : Nat) ||| B a ((252 : Int) - (↑j : Int)).toNat).toNat * (16 : Nat)) f)))) = Cont.a64 (p16 y)) ∧ (true = true ∧ Cont.gone = Cont.gone) ∧ (true = true ∧ Cont.gone = Cont.gone) ∧ (true = true ∧ Cont.gone = Cont.gone) ∧ (true = true ∧ Cont.gone = Cont.gone) ∧ (true = true ∧ Cont.gone = Cont.gone) ∧ (true = true ∧ Cont.gone = Cont.gone) ∧ (true = true ∧ Cont.gone = Cont.gone) ∧ (true = true ∧ Cont.gone = Cont.gone) ∧ (true = true ∧ Cont.gone = Cont.gone) ∧ (true = true ∧ Cont.gone = Cont.gone) ∧ (true = true ∧ Cont.gone = Cont.gone) ∧ (true = true ∧ Cont.a64 f = Cont.a64 f) ∧ True) else False else False else False else False else False else False else (0 : Nat) = (0 : Nat) ∧ SV.ptr 7 0 = SV.ptr 7 0 ∧ SV.ptr 8 0 = SV.ptr 8 0 ∧ g5E ((true = true ∧ Cont.a64 (p16 p) = Cont.a64 (p16 p)) ∧ (true = true ∧ Cont.a64 (p16 q) = Cont.a64 (p16 q)) ∧ (true = true ∧ Cont.a64 (List.replicate 16 (0 : BitVec 64)) = Cont.a64 (List.replicate 16 (0 : BitVec 64))) ∧ (true = true ∧ Cont.a64 (p16 x) = Cont.a64 (p16 z)) ∧ (true = true ∧ Cont.gone = Cont.gone) ∧ (true = true ∧ Cont.gone = Cont.gone) ∧ (true = true ∧ Cont.gone = Cont.gone) ∧ (true = true ∧ Cont.gone = Cont.gone) ∧ (true = true ∧ Cont.gone = Cont.gone) ∧ (true = true ∧ Cont.gone = Cont.gone) ∧ (true = true ∧ Cont.gone = Cont.gone) ∧ (true = true ∧ Cont.gone = Cont.gone) ∧ (true = true ∧ Cont.gone = Cont.gone) ∧ (true = true ∧ Cont.gone = Cont.gone) ∧ (true = true ∧ Cont.gone = Cont.gone) ∧ (true = true ∧ Cont.a64 f = Cont.a64 f) ∧ True)) := by kernel_rfl
def ixB (B : Tx8 → Nat → BitVec 8) (a b : Tx8) (j : Nat) : Nat := (B b (252 - j) <<< 1 ||| B a (252 - j)).toNat
def btN (D : W6 → W6) (P : W6 → W6 → W6) (B : Tx8 → Nat → BitVec 8) (f : W6) (a b : Tx8) (z : W6) : Nat → W6
 | 0 => z
 | j + 1 => P (p16 (D (p16 (btN D P B f a b z j)))) (List.take 16 (List.drop (ixB B a b j * 16) f))
theorem bit2 {x y : BitVec 8} (hx : x.toNat ≤ 1) (hy : y.toNat ≤ 1) : (x <<< 1 ||| y).toNat = 2 * x.toNat + y.toNat := by
 rw [BitVec.toNat_or, BitVec.toNat_shiftLeft, Nat.shiftLeft_eq, show x.toNat * 2 ^ 1 % 2 ^ 8 = 2 ^ 1 * x.toNat by omega, ← Nat.two_pow_add_eq_or_of_lt (i := 1) (show y.toNat < 2 ^ 1 by omega)]
theorem loopB (Z : W6) (R D : W6 → W6) (P A : W6 → W6 → W6) (N : W6 → Bool) (B : Tx8 → Nat → BitVec 8) (hB : ∀ s n, (B s n).toNat ≤ 1) (hE : EnvOk Tryz.prog (Ebo Z R D P A N B)) (p q z f : W6) (a b : Tx8) (hf : f.length = 64) (hla : a.length = 32) (hlb : b.length = 32) : ∀ fr M K, vLoop GE 42 (iB a b 0) (MB p q z f) oB (MB p q (btN D P B f a b z 253) f) fr M K → Wp Tryz.prog GE GE (loopOf Tryz.prog 66 0) fr M K := by
 refine loop_next hE mixed (noL_ok _ _ _ _) (Nat.le_refl _) (by kernel_rfl) (iB a b) (fun j => MB p q (btN D P B f a b z j) f) (fun j => j ≤ 253) (fun j => 253 - j) (fun j => j + 1) 0 (Nat.zero_le _) (fun j hj => of_eq (vrB Z R D P A N B p q (btN D P B f a b z j) (btN D P B f a b z (j + 1)) (btN D P B f a b z 253) f a b j _) ?_)
 have hnext : btN D P B f a b z (j + 1) = P (p16 (D (p16 (btN D P B f a b z j)))) (List.take 16 (List.drop (ixB B a b j * 16) f)) := rfl
 have hfin : j = 253 → btN D P B f a b z j = btN D P B f a b z 253 := fun e => by rw [e]
 rw [hnext]
 generalize btN D P B f a b z 253 = y at hfin
 generalize btN D P B f a b z j = x at hfin
 cases hq : ile 0 (252 - (j : Int))
 ·have hj2 : j = 253 := by rw [ile_eq] at hq; have := of_decide_eq_false hq; omega
  exact ⟨rfl, rfl, rfl, ⟨rfl, rfl⟩, ⟨rfl, rfl⟩, ⟨rfl, rfl⟩, ⟨rfl, rfl⟩, ⟨rfl, rfl⟩, ⟨rfl, rfl⟩, ⟨rfl, rfl⟩, ⟨rfl, rfl⟩, ⟨rfl, congrArg (fun x => Cont.a64 (p16 x)) (hfin hj2)⟩, ⟨rfl, rfl⟩, ⟨rfl, rfl⟩, ⟨rfl, rfl⟩, ⟨rfl, rfl⟩, ⟨rfl, rfl⟩, ⟨rfl, rfl⟩, ⟨rfl, rfl⟩, ⟨rfl, rfl⟩, ⟨rfl, rfl⟩, ⟨rfl, rfl⟩, ⟨rfl, rfl⟩, ⟨rfl, rfl⟩, trivial⟩
 ·have hj2 : j ≤ 252 := by rw [ile_eq] at hq; have := of_decide_eq_true hq; omega
  have hn : (252 - (j : Int)).toNat = 252 - j := by omega
  have g1 : ∀ l : Tx8, l.length = 32 → (Nat.beq l.length 32 && (true && ile (252 - (j : Int)) 255)) = true := fun l hl => by
   rw [hl, ile_eq]
   exact decide_eq_true (by omega)
  have hix : ixB B a b j ≤ 3 := by
   unfold ixB
   have h1 := hB b (252 - j)
   have h2 := hB a (252 - j)
   rw [bit2 h1 h2]
   omega
  have hi : (B b (252 - (j : Int)).toNat <<< 1 ||| B a (252 - (j : Int)).toNat).toNat = ixB B a b j := by rw [hn]; rfl
  rw [hi]
  generalize ixB B a b j = i at hix
  refine bif_of (g1 b hlb) (bif_of (g1 a hla) (bif_of (inR_iff.2 ⟨by omega, by omega⟩) (bif_of (Nat.ble_eq_true_of_le (by omega)) (bif_of ?_ (bif_of (inI_iff.2 (by omega)) ⟨⟨by omega, by omega⟩, rfl, rfl, rfl, rfl, rfl, ?_, ⟨rfl, rfl⟩, ⟨rfl, rfl⟩, ⟨rfl, rfl⟩, ⟨rfl, rfl⟩, ⟨rfl, rfl⟩, ⟨rfl, rfl⟩, ⟨rfl, rfl⟩, ⟨rfl, rfl⟩, ⟨rfl, rfl⟩, ⟨rfl, rfl⟩, ⟨rfl, rfl⟩, ⟨rfl, rfl⟩, ⟨rfl, rfl⟩, ⟨rfl, rfl⟩, ⟨rfl, rfl⟩, ⟨rfl, rfl⟩, ⟨rfl, rfl⟩, ⟨rfl, rfl⟩, ⟨rfl, rfl⟩, ⟨rfl, rfl⟩, ⟨rfl, rfl⟩, trivial⟩)))))
  ·have : (List.take 16 (List.drop (i * 16) f)).length = 16 := by rw [List.length_take, List.length_drop]; omega
   rw [this]; rfl
  ·exact congrArg SV.i (by omega)
def boF (Z : W6) (R D : W6 → W6) (P A : W6 → W6 → W6) (B : Tx8 → Nat → BitVec 8) (p q : W6) (a b : Tx8) : W6 := btN D P B (fourF Z R A p q) a b Z 253
def cBo (N : W6 → Bool) (F : W6 → W6 → Tx8 → Tx8 → W6) : List SV → List Cont → Option (Bool × SV)
 | [.a64 p, .a64 q, .s a, .s b], _ => some (Nat.beq p.length 16 && (Nat.beq q.length 16 && (!N p && (!N q && (Nat.beq a.length 32 && Nat.beq b.length 32)))), .a64 (p16 (F p q a b)))
 | _, _ => none
theorem both_gen (Z : W6) (R D : W6 → W6) (P A : W6 → W6 → W6) (N : W6 → Bool) (B : Tx8 → Nat → BitVec 8) (hB : ∀ s n, (B s n).toNat ≤ 1) (hE : EnvOk Tryz.prog (Ebo Z R D P A N B)) : POk Tryz.prog GE 66 (cBo N (boF Z R D P A B)) := by
 intro args acs r hh β M' w hR hw ha
 unfold cBo at hh
 split at hh
 ·rename_i p p' s t
  simp only [Option.some.injEq, Prod.mk.injEq, Bool.and_eq_true] at hh
  obtain ⟨⟨h1, h2, h3, h4, h5, h6⟩, rfl⟩ := hh
  obtain ⟨a, b, c, d, e, f, g, i, j, k, l, m, n, o, q, r, rfl⟩ := ex16 (Nat.eq_of_beq_eq_true h1)
  obtain ⟨a', b', c', d', e', f', g', i', j', k', l', m', n', o', q', r', rfl⟩ := ex16 (Nat.eq_of_beq_eq_true h2)
  have h5 := Nat.eq_of_beq_eq_true h5
  have h6 := Nat.eq_of_beq_eq_true h6
  have hf : (fourF Z R A [a, b, c, d, e, f, g, i, j, k, l, m, n, o, q, r] [a', b', c', d', e', f', g', i', j', k', l', m', n', o', q', r']).length = 64 := rfl
  refine pure0 (vf_ok hE mixed (LT.add_ok (noL_ok _ _ _ _) (loopB Z R D P A N B hB hE [a, b, c, d, e, f, g, i, j, k, l, m, n, o, q, r] [a', b', c', d', e', f', g', i', j', k', l', m', n', o', q', r'] Z _ s t hf h5 h6)) (of_eq (vaB Z R D P A N B [a, b, c, d, e, f, g, i, j, k, l, m, n, o, q, r] [a', b', c', d', e', f', g', i', j', k', l', m', n', o', q', r'] Z (boF Z R D P A B [a, b, c, d, e, f, g, i, j, k, l, m, n, o, q, r] [a', b', c', d', e', f', g', i', j', k', l', m', n', o', q', r'] s t) (fourF Z R A [a, b, c, d, e, f, g, i, j, k, l, m, n, o, q, r] [a', b', c', d', e', f', g', i', j', k', l', m', n', o', q', r']) s t _) ?_)) rfl rfl hR
  exact bif_of (by rw [Bool.and_eq_true]; exact ⟨h3, h4⟩) ⟨rfl, rfl, rfl, rfl, rfl, rfl, rfl, ⟨rfl, rfl⟩, ⟨rfl, rfl⟩, ⟨rfl, rfl⟩, ⟨rfl, rfl⟩, ⟨rfl, rfl⟩, ⟨rfl, rfl⟩, ⟨rfl, rfl⟩, ⟨rfl, rfl⟩, ⟨rfl, rfl⟩, ⟨rfl, rfl⟩, ⟨rfl, rfl⟩, ⟨rfl, rfl⟩, ⟨rfl, rfl⟩, ⟨rfl, rfl⟩, ⟨rfl, rfl⟩, ⟨rfl, rfl⟩, ⟨rfl, rfl⟩, ⟨rfl, rfl⟩, ⟨rfl, rfl⟩, ⟨rfl, rfl⟩, ⟨rfl, rfl⟩, rfl⟩
 ·cases hh
theorem bitX_le (s : Tx8) (n : Nat) : (bitX s n).toNat ≤ 1 := by
 unfold bitX
 rw [BitVec.toNat_and, show (BitVec.ofInt 8 1).toNat = 2 ^ 1 - 1 from rfl, Nat.and_two_pow_sub_one_eq_mod]
 omega
theorem ebo_ok : EnvOk Tryz.prog (Ebo (atX (w4 (zX 0)) (w4 (zX 1))) rdP dbP plP adP' noX bitX) := ⟨PT.add_ok (PT.add_ok (PT.add_ok (PT.add_ok (PT.add_ok (PT.add_ok (noT_ok _ _) zeroP_ok) ready_ok) double_ok) plusP_ok) addP_ok) bit_ok, noC_ok _ _⟩
abbrev boX : W6 → W6 → Tx8 → Tx8 → W6 := boF (atX (w4 (zX 0)) (w4 (zX 1))) rdP dbP plP adP' bitX
theorem both_ok : POk Tryz.prog GE 66 (cBo noX boX) := both_gen (atX (w4 (zX 0)) (w4 (zX 1))) rdP dbP plP adP' noX bitX bitX_le ebo_ok
end Go.Proofs.YtdfghknonbmadaaGreatDoor
