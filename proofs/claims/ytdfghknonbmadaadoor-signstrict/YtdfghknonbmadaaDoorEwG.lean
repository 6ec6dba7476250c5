/-
  edw: what sums, doubles, comparisons and the base point are; points' bytes. No statement is proved here.
-/
import Derived.Test.YtdfghknonbmadaaDoorNuJ
import Derived.Test.YtdfghknonbmadaaDoorEwB
import Derived.Test.YtdfghknonbmadaaDoorMaF
namespace Go.Proofs.YtdfghknonbmadaaDoor
open Go.RowKit
set_option linter.unusedVariables false
set_option linter.unusedSimpArgs false
set_option maxRecDepth 100000

def cK0 (v : W6) : List SV → List Cont → Option (Bool × SV)
  | [], _ => some (true, .a64 v)
  | _, _ => none
def cA2 (N : W6 → Bool) (F : W6 → W6 → W6) : List SV → List Cont → Option (Bool × SV)
  | [.a64 p, .a64 q], _ => some (Nat.beq p.length 16 && (Nat.beq q.length 16 && (!N p && !N q)), .a64 (p16 (F p q)))
  | _, _ => none
def cA1 (N : W6 → Bool) (F : W6 → W6) : List SV → List Cont → Option (Bool × SV)
  | [.a64 p], _ => some (Nat.beq p.length 16 && !N p, .a64 (p16 (F p)))
  | _, _ => none
def cAb (N : W6 → Bool) (F : W6 → W6 → Bool) : List SV → List Cont → Option (Bool × SV)
  | [.a64 p, .a64 q], _ => some (Nat.beq p.length 16 && (Nat.beq q.length 16 && (!N p && !N q)), .b (F p q))
  | _, _ => none
section
variable (A S M : W6 → W6 → W6) (E : W6 → W6 → Bool) (I : W6 → W6) (Z : BitVec 32 → W6) (K : List (BitVec 8) → W6) (R D : W6 → W6) (P : W6 → W6 → W6) (N : W6 → Bool) (T : W6 → W6 → W6)
theorem zeroP_e : vf Tryd.prog (E7 A S M E I Z K R D P N T) noL 33 [] GE (fun r _ => r = .a64 (p16 (T (w4 (Z 0)) (w4 (Z 1))))) = (SV.a64 (p16 (T (w4 (Z 0)) (w4 (Z 1)))) = SV.a64 (p16 (T (w4 (Z 0)) (w4 (Z 1))))) := by kernel_rfl
def bXs : Tx8 := bts ⟨#[26, 213, 37, 143, 96, 45, 86, 201, 178, 167, 37, 149, 96, 199, 44, 105, 92, 220, 214, 253, 49, 226, 164, 192, 254, 83, 110, 205, 211, 54, 105, 33]⟩
def bYs : Tx8 := bts ⟨#[88, 102, 102, 102, 102, 102, 102, 102, 102, 102, 102, 102, 102, 102, 102, 102, 102, 102, 102, 102, 102, 102, 102, 102, 102, 102, 102, 102, 102, 102, 102, 102]⟩
def adTF (P : W6 → W6 → W6) (R : W6 → W6) (p q : W6) : W6 := P p (p16 (R q))
def smF (M : W6 → W6 → W6) (E : W6 → W6 → Bool) (p q : W6) : Bool := smA M E (el p 0) (el p 2) (el q 0) (el q 2) && smA M E (el p 1) (el p 2) (el q 1) (el q 2)
theorem sameQ_e (x y z t m n o q : W6) : vf Tryd.prog (E7 A S M E I Z K R D P N T) noL 18 [.a64 (p4 x y z t), .a64 (p4 m n o q)] GE (fun r _ => r = .b (smF M E (p4 x y z t) (p4 m n o q))) = (bif !N (p4 x y z t) then bif !N (p4 m n o q) then bif smA M E x z m o then SV.b (smA M E y z n o) = SV.b (smF M E (p4 x y z t) (p4 m n o q)) else SV.b false = SV.b (smF M E (p4 x y z t) (p4 m n o q)) else False else False) := by kernel_rfl
theorem addQ_e (x y z t m n o q : W6) : vf Tryd.prog (E7 A S M E I Z K R D P N T) noL 19 [.a64 (p4 x y z t), .a64 (p4 m n o q)] GE (fun r _ => r = .a64 (p16 (adTF P R (p4 x y z t) (p4 m n o q)))) = (bif !N (p4 x y z t) then bif !N (p4 m n o q) then SV.a64 (p16 (adTF P R (p4 x y z t) (p4 m n o q))) = SV.a64 (p16 (adTF P R (p4 x y z t) (p4 m n o q))) else False else False) := by kernel_rfl
variable (hE : EnvOk Tryd.prog (E7 A S M E I Z K R D P N T))
theorem zeroP_gen (A S M : W6 → W6 → W6) (E : W6 → W6 → Bool) (I : W6 → W6) (Z : BitVec 32 → W6) (K : List (BitVec 8) → W6) (R D : W6 → W6) (P : W6 → W6 → W6) (N : W6 → Bool) (T : W6 → W6 → W6) (hE : EnvOk Tryd.prog (E7 A S M E I Z K R D P N T)) : POk Tryd.prog GE 33 (cK0 (p16 (T (w4 (Z 0)) (w4 (Z 1))))) := by
  intro args acs r hh β M' w hR hw ha
  unfold cK0 at hh
  split at hh
  · simp only [Option.some.injEq, Prod.mk.injEq, true_and] at hh
    subst hh
    exact pokE (E := E7 A S M E I Z K R D P N T) rfl hE (zeroP_e A S M E I Z K R D P N T) rfl rfl rfl hR
  · cases hh
theorem base_gen (A S M : W6 → W6 → W6) (E : W6 → W6 → Bool) (I : W6 → W6) (Z : BitVec 32 → W6) (K : List (BitVec 8) → W6) (R D : W6 → W6) (P : W6 → W6 → W6) (N : W6 → Bool) (T : W6 → W6 → W6) (hE : EnvOk Tryd.prog (E7 A S M E I Z K R D P N T)) : POk Tryd.prog GE 41 (cK0 (p16 (T (w4 (K bXs)) (w4 (K bYs))))) := by
  intro args acs r hh β M' w hR hw ha
  unfold cK0 at hh
  split at hh
  · simp only [Option.some.injEq, Prod.mk.injEq, true_and] at hh
    subst hh
    exact pokE (E := E7 A S M E I Z K R D P N T) rfl hE (base_e A S M E I Z K R D P N T) rfl rfl rfl hR
  · cases hh
theorem addP_gen (A S M : W6 → W6 → W6) (E : W6 → W6 → Bool) (I : W6 → W6) (Z : BitVec 32 → W6) (K : List (BitVec 8) → W6) (R D : W6 → W6) (P : W6 → W6 → W6) (N : W6 → Bool) (T : W6 → W6 → W6) (hE : EnvOk Tryd.prog (E7 A S M E I Z K R D P N T)) : POk Tryd.prog GE 19 (cA2 N (adTF P R)) := by
  intro args acs r hh β M' w hR hw ha
  unfold cA2 at hh
  split at hh
  · rename_i p p'
    simp only [Option.some.injEq, Prod.mk.injEq, Bool.and_eq_true] at hh
    obtain ⟨⟨h1, h2, h3, h4⟩, rfl⟩ := hh
    obtain ⟨a, b, c, d, e, f, g, i, j, k, l, m, n, o, q, r, rfl⟩ := ex16 (Nat.eq_of_beq_eq_true h1)
    obtain ⟨a', b', c', d', e', f', g', i', j', k', l', m', n', o', q', r', rfl⟩ := ex16 (Nat.eq_of_beq_eq_true h2)
    exact pokE (E := E7 A S M E I Z K R D P N T) rfl hE (addQ_e A S M E I Z K R D P N T [a, b, c, d] [e, f, g, i] [j, k, l, m] [n, o, q, r] [a', b', c', d'] [e', f', g', i'] [j', k', l', m'] [n', o', q', r']) (bif_of h3 (bif_of h4 rfl)) rfl rfl hR
  · cases hh
theorem twice_gen (A S M : W6 → W6 → W6) (E : W6 → W6 → Bool) (I : W6 → W6) (Z : BitVec 32 → W6) (K : List (BitVec 8) → W6) (R D : W6 → W6) (P : W6 → W6 → W6) (N : W6 → Bool) (T : W6 → W6 → W6) (hE : EnvOk Tryd.prog (E7 A S M E I Z K R D P N T)) : POk Tryd.prog GE 32 (cA1 N D) := by
  intro args acs r hh β M' w hR hw ha
  unfold cA1 at hh
  split at hh
  · rename_i p
    simp only [Option.some.injEq, Prod.mk.injEq, Bool.and_eq_true] at hh
    obtain ⟨⟨h1, h3⟩, rfl⟩ := hh
    obtain ⟨a, b, c, d, e, f, g, i, j, k, l, m, n, o, q, r, rfl⟩ := ex16 (Nat.eq_of_beq_eq_true h1)
    exact pokE (E := E7 A S M E I Z K R D P N T) rfl hE (twice_e A S M E I Z K R D P N T [a, b, c, d] [e, f, g, i] [j, k, l, m] [n, o, q, r]) (bif_of h3 rfl) rfl rfl hR
  · cases hh
theorem sameP_gen (A S M : W6 → W6 → W6) (E : W6 → W6 → Bool) (I : W6 → W6) (Z : BitVec 32 → W6) (K : List (BitVec 8) → W6) (R D : W6 → W6) (P : W6 → W6 → W6) (N : W6 → Bool) (T : W6 → W6 → W6) (hE : EnvOk Tryd.prog (E7 A S M E I Z K R D P N T)) : POk Tryd.prog GE 18 (cAb N (smF M E)) := by
  intro args acs r hh β M' w hR hw ha
  unfold cAb at hh
  split at hh
  · rename_i p p'
    simp only [Option.some.injEq, Prod.mk.injEq, Bool.and_eq_true] at hh
    obtain ⟨⟨h1, h2, h3, h4⟩, rfl⟩ := hh
    obtain ⟨a, b, c, d, e, f, g, i, j, k, l, m, n, o, q, r, rfl⟩ := ex16 (Nat.eq_of_beq_eq_true h1)
    obtain ⟨a', b', c', d', e', f', g', i', j', k', l', m', n', o', q', r', rfl⟩ := ex16 (Nat.eq_of_beq_eq_true h2)
    refine pokE (E := E7 A S M E I Z K R D P N T) rfl hE (sameQ_e A S M E I Z K R D P N T [a, b, c, d] [e, f, g, i] [j, k, l, m] [n, o, q, r] [a', b', c', d'] [e', f', g', i'] [j', k', l', m'] [n', o', q', r']) (bif_of h3 (bif_of h4 ?_)) rfl rfl hR
    have e1 : smF M E (p4 [a, b, c, d] [e, f, g, i] [j, k, l, m] [n, o, q, r]) (p4 [a', b', c', d'] [e', f', g', i'] [j', k', l', m'] [n', o', q', r']) = (smA M E [a, b, c, d] [j, k, l, m] [a', b', c', d'] [j', k', l', m'] && smA M E [e, f, g, i] [j, k, l, m] [e', f', g', i'] [j', k', l', m']) := rfl
    rw [e1]
    cases smA M E [a, b, c, d] [j, k, l, m] [a', b', c', d'] [j', k', l', m'] <;> rfl
  · cases hh
end
abbrev zeP : W6 := p16 (atX (w4 (zX 0)) (w4 (zX 1)))
abbrev baP : W6 := p16 (atX (w4 (knX bXs)) (w4 (knX bYs)))
abbrev adP' : W6 → W6 → W6 := adTF plP rdP
abbrev smP : W6 → W6 → Bool := smF tmX smX
theorem zeroP_ok : POk Tryd.prog GE 33 (cK0 zeP) := zeroP_gen adX sbX tmX smX ivX zX knX rdP dbP plP noX atX e7_ok
theorem base_ok : POk Tryd.prog GE 41 (cK0 baP) := base_gen adX sbX tmX smX ivX zX knX rdP dbP plP noX atX e7_ok
theorem addP_ok : POk Tryd.prog GE 19 (cA2 noX adP') := addP_gen adX sbX tmX smX ivX zX knX rdP dbP plP noX atX e7_ok
theorem twice_ok : POk Tryd.prog GE 32 (cA1 noX dbP) := twice_gen adX sbX tmX smX ivX zX knX rdP dbP plP noX atX e7_ok
theorem sameP_ok : POk Tryd.prog GE 18 (cAb noX smP) := sameP_gen adX sbX tmX smX ivX zX knX rdP dbP plP noX atX e7_ok
-- beside
abbrev roBX : W6 → Bool → W6 := roB pwX tmX sbX lwX mkX pkW sqY
abbrev roJX : W6 → Bool → Bool := roJ pwX tmX sbX lwX mkX pkW sqY
def bsB (A S M : W6 → W6 → W6) (I : W6 → W6) (Z : BitVec 32 → W6) (K : Tx8 → W6) (B : W6 → Bool → W6) (y : W6) (o : Bool) : W6 := B (x2W A S M I Z K y) o
def bsJ (A S M : W6 → W6 → W6) (I : W6 → W6) (Z : BitVec 32 → W6) (K : Tx8 → W6) (J : W6 → Bool → Bool) (y : W6) (o : Bool) : Bool := J (x2W A S M I Z K y) o
theorem beside_gen (A S M : W6 → W6 → W6) (E : W6 → W6 → Bool) (I : W6 → W6) (Z : BitVec 32 → W6) (K : List (BitVec 8) → W6) (B : W6 → Bool → W6) (J : W6 → Bool → Bool) (hE : EnvOk Tryd.prog (Er A S M E I Z K B J)) : POk Tryd.prog GE 30 (cBs (bsB A S M I Z K B) (bsJ A S M I Z K J)) := by
  intro args acs r hh β M' w hR hw ha
  unfold cBs at hh
  split at hh
  · rename_i a b c d o
    simp only [Option.some.injEq, Prod.mk.injEq, true_and] at hh
    subst hh
    exact pokE (E := Er A S M E I Z K B J) rfl hE (beside_e A S M E I Z K B J [a, b, c, d] o) rfl rfl rfl hR
  · cases hh
theorem er_ok : EnvOk Tryd.prog (Er adX sbX tmX smX ivX zX knX roBX roJX) := ⟨PT.add_ok ee_ok.T root_ok, noC_ok _ _⟩
abbrev bsBX : W6 → Bool → W6 := bsB adX sbX tmX ivX zX knX roBX
abbrev bsJX : W6 → Bool → Bool := bsJ adX sbX tmX ivX zX knX roJX
theorem beside_ok : POk Tryd.prog GE 30 (cBs bsBX bsJX) := beside_gen adX sbX tmX smX ivX zX knX roBX roJX er_ok
-- Decode
def u8 (x : Tx8) : Tx8 := x.set 31 (x.getD 31 0 &&& ~~~BitVec.ofInt 8 128)
def o8 (x : Tx8) : Bool := x.getD 31 0 &&& BitVec.ofInt 8 128 != BitVec.ofInt 8 0
def P0 (n : Int) : SV := .tup [.a64 (List.replicate 16 0), .i n]
def dePt (K : Tx8 → W6) (B : W6 → Bool → W6) (T : W6 → W6 → W6) (v : Tx8) (o : Bool) : W6 := T (w4 (B (w4 (K v)) o)) (w4 (K v))
theorem decode_e (C : Tx8 → Bool) (K : Tx8 → W6) (B : W6 → Bool → W6) (J : W6 → Bool → Bool) (T : W6 → W6 → W6) (s : Tx8) (K0 : SV → Prop) : vf Tryd.prog (Ed C K B J T) noL 13 [.s s] GE (fun r _ => K0 r) = (bif (s.length : Int) != 32 then K0 (P0 2) else ∀ (cap : Nat) (x : Tx8), s.length ≤ cap → x = s ++ List.replicate (cap - s.length) 0 → bif inR 31 s.length then bif Nat.blt 31 x.length then bif inR 31 s.length then bif Nat.blt 31 x.length then bif inR 31 s.length then bif Nat.blt 31 x.length then bif decide (0 + s.length ≤ (u8 x).length) then bif !C (List.take s.length (List.drop 0 (u8 x))) then K0 (P0 90) else bif decide (0 + s.length ≤ (u8 x).length) then bif Nat.beq (List.take s.length (List.drop 0 (u8 x))).length 32 then bif !J (w4 (K (List.take s.length (List.drop 0 (u8 x))))) (o8 x) then K0 (P0 90) else K0 (.tup [.a64 (p16 (dePt K B T (List.take s.length (List.drop 0 (u8 x))) (o8 x))), .i 0]) else False else False else False else False else False else False else False else False else False) := by kernel_rfl
end Go.Proofs.YtdfghknonbmadaaDoor
namespace Go.Proofs.YtdfghknonbmadaaDoor
namespace Mt
set_option linter.unusedVariables false
set_option linter.unusedSimpArgs false
set_option maxRecDepth 100000

theorem Ve {a : Nat} (h : a < Nt.P) : V (enc a) = a := V_enc (lt4 h)
theorem encA {a b : Nat} (ha : a < Nt.P) (hb : b < Nt.P) : w4 (adX (enc a) (enc b)) = enc (ad a b) := eq_enc (by rw [addV (by rw [Ve ha]; exact ha) (by rw [Ve hb]; exact hb), Ve ha, Ve hb]; rfl)
theorem encS {a b : Nat} (ha : a < Nt.P) (hb : b < Nt.P) : w4 (sbX (enc a) (enc b)) = enc (sb a b) := eq_enc (by rw [subV (by rw [Ve ha]; exact ha) (by rw [Ve hb]; exact hb), Ve ha, Ve hb]; rfl)
theorem encM {a b : Nat} (ha : a < Nt.P) (hb : b < Nt.P) : w4 (tmX (enc a) (enc b)) = enc (mq a b) := eq_enc (by rw [mulV, Ve ha, Ve hb]; rfl)
theorem encI {a : Nat} (ha : a < Nt.P) : w4 (ivX (enc a)) = enc (iv a) := eq_enc (by rw [inv_V _ (by rw [Ve ha]; exact ha), Ve ha])
theorem encE {a b : Nat} (ha : a < Nt.P) (hb : b < Nt.P) : smX (enc a) (enc b) = decide (a = b) := by rw [same_is, Ve ha, Ve hb]
theorem encO {a : Nat} (ha : a < Nt.P) : (lwX (enc a) != BitVec.ofInt 64 0) = decide (a % 2 = 1) := by rw [low_is, mk_ne, Ve ha]
theorem encB {a : Nat} (ha : a < Nt.P) (o : Bool) : w4 (roB pwX tmX sbX lwX mkX pkW sqY (enc a) o) = enc (ro a o) := eq_enc (by rw [root_V _ o (by rw [Ve ha]; exact ha), Ve ha])
theorem encJ {a : Nat} (ha : a < Nt.P) (o : Bool) : roJ pwX tmX sbX lwX mkX pkW sqY (enc a) o = ok a o := by rw [root_b _ o (by rw [Ve ha]; exact ha), Ve ha]
theorem encZ0 : w4 (zX 0) = enc 0 := rfl
theorem encZ1 : w4 (zX 1) = enc 1 := rfl
/-- The words of a point's four numbers. -/
def pe (q : Pq) : W6 := p4 (enc q.x) (enc q.y) (enc q.z) (enc q.t)
structure Sm (q : Pq) : Prop where
  x : q.x < Nt.P
  y : q.y < Nt.P
  z : q.z < Nt.P
  t : q.t < Nt.P
theorem Is.sm {q : Pq} {p : Ed.Pt} (h : Is q p) : Sm q := ⟨h.lx, h.ly, h.lz, h.lt⟩
theorem p4_w4 (x y z t : W6) : p4 x y z t = p4 (w4 x) (w4 y) (w4 z) (w4 t) := rfl
theorem pe_eq {x y z t : W6} {q : Pq} (hx : w4 x = enc q.x) (hy : w4 y = enc q.y) (hz : w4 z = enc q.z) (ht : w4 t = enc q.t) : p4 x y z t = pe q := by
  rw [p4_w4, hx, hy, hz, ht]; rfl
theorem el0 (x y z t : W6) : el (p4 x y z t) 0 = w4 x := rfl
theorem el1 (x y z t : W6) : el (p4 x y z t) 1 = w4 y := rfl
theorem el2 (x y z t : W6) : el (p4 x y z t) 2 = w4 z := rfl
theorem el3 (x y z t : W6) : el (p4 x y z t) 3 = w4 t := rfl
theorem p16_p4 (x y z t : W6) : p16 (p4 x y z t) = p4 x y z t := rfl
theorem p16_pe (q : Pq) : p16 (pe q) = pe q := rfl
theorem p16_16 (p : W6) : p16 (p16 p) = p16 p := rfl
theorem rdy_sm {q : Pq} (h : Sm q) : Sm (rdy q) := ⟨ad_lt _ _, sb_lt _ _, ad_lt _ _, ml_lt _ _⟩
/-- A number's words, made of bytes. -/
theorem ready_pe (K : Tx8 → W6) (hK : w4 (K curD) = enc dN) {q : Pq} (h : Sm q) : p16 (rdF adX sbX tmX K (pe q)) = pe (rdy q) := by
  show p16 (p4 (adX (enc q.y) (enc q.x)) (sbX (enc q.y) (enc q.x)) (adX (enc q.z) (enc q.z)) (tmX (w4 (adX (enc q.t) (enc q.t))) (w4 (K curD)))) = _
  rw [p16_p4, hK, encA h.t h.t]
  exact pe_eq (encA h.y h.x) (encS h.y h.x) (encA h.z h.z) (encM (ad_lt _ _) dN_lt)
theorem jn_pe {e f g h : Nat} (he : e < Nt.P) (hf : f < Nt.P) (hg : g < Nt.P) (hh : h < Nt.P) : p16 (jnW tmX (enc e) (enc f) (enc g) (enc h)) = pe (jn e f g h) := by
  show p16 (p4 (tmX (enc e) (enc f)) (tmX (enc g) (enc h)) (tmX (enc f) (enc g)) (tmX (enc e) (enc h))) = _
  rw [p16_p4]
  exact pe_eq (encM he hf) (encM hg hh) (encM hf hg) (encM he hh)
theorem plus_pe {q r : Pq} (h : Sm q) (k : Sm r) : p16 (plF adX sbX tmX (jnW tmX) (pe q) (pe r)) = pe (pls q r) := by
  have e : plF adX sbX tmX (jnW tmX) (pe q) (pe r) = psW adX sbX tmX (jnW tmX) (enc q.x) (enc q.y) (enc q.z) (enc q.t) (enc r.x) (enc r.y) (enc r.z) (enc r.t) := rfl
  rw [e]
  unfold psW
  simp only [w4_enc, encS h.y h.x, encA h.y h.x, encM (sb_lt q.y q.x) k.y, encM (ad_lt q.y q.x) k.x, encM h.t k.t, encM h.z k.z, encS (ml_lt _ _) (ml_lt _ _), encA (ml_lt _ _) (ml_lt _ _)]
  rw [jn_pe (sb_lt _ _) (sb_lt _ _) (ad_lt _ _) (ad_lt _ _), p16_pe]
  rfl
theorem double_pe {q : Pq} (h : Sm q) : p16 (dbF adX sbX tmX (jnW tmX) (pe q)) = pe (dbq q) := by
  have e : dbF adX sbX tmX (jnW tmX) (pe q) = dbW adX sbX tmX (jnW tmX) (enc q.x) (enc q.y) (enc q.z) (enc q.t) := rfl
  rw [e]
  unfold dbW
  simp only [w4_enc, encM h.x h.x, encM h.y h.y, encM h.z h.z, encA h.x h.y, encA (ml_lt q.x q.x) (ml_lt q.y q.y), encS (ml_lt q.x q.x) (ml_lt q.y q.y), encM (ad_lt q.x q.y) (ad_lt q.x q.y), encA (ml_lt q.z q.z) (ml_lt q.z q.z)]
  rw [encS (ad_lt _ _) (ml_lt _ _), encA (ad_lt _ _) (sb_lt _ _), jn_pe (sb_lt _ _) (ad_lt _ _) (sb_lt _ _) (ad_lt _ _), p16_pe]
  rfl
theorem at_pe {x y : Nat} (hx : x < Nt.P) (hy : y < Nt.P) : p16 (atF tmX zX (enc x) (enc y)) = pe (atp x y) := by
  show p16 (p4 (enc x) (enc y) (zX 1) (tmX (enc x) (enc y))) = _
  rw [p16_p4]
  exact pe_eq (w4_enc _) (w4_enc _) encZ1 (encM hx hy)
theorem no_pe {q : Pq} {p : Ed.Pt} (h : Is q p) : noP smX zX (pe q) = false := by
  show smX (enc q.z) (enc 0) = false
  rw [encE h.lz zero_lt]
  exact decide_eq_false fun e => h.z (by rw [e, Ed.fe_0])
theorem same_pe {q r : Pq} {p s : Ed.Pt} (h : Is q p) (k : Is r s) : smF tmX smX (pe q) (pe r) = (decide (p.x = s.x) && decide (p.y = s.y)) := by
  show (smX (w4 (tmX (enc q.x) (enc r.z))) (w4 (tmX (enc r.x) (enc q.z))) && smX (w4 (tmX (enc q.y) (enc r.z))) (w4 (tmX (enc r.y) (enc q.z)))) = _
  rw [encM h.lx k.lz, encM k.lx h.lz, encM h.ly k.lz, encM k.ly h.lz, encE (ml_lt _ _) (ml_lt _ _), encE (ml_lt _ _) (ml_lt _ _)]
  have := same_iff (x1 := Ed.fe q.x) (y1 := Ed.fe q.y) (x2 := Ed.fe r.x) (y2 := Ed.fe r.y) h.z k.z h.x h.y k.x k.y
  have e1 : (mq q.x r.z = mq r.x q.z) ↔ p.x = s.x := by rw [fe_eq (ml_lt _ _) (ml_lt _ _), Ed.fe_mul, Ed.fe_mul]; exact this.1
  have e2 : (mq q.y r.z = mq r.y q.z) ↔ p.y = s.y := by rw [fe_eq (ml_lt _ _) (ml_lt _ _), Ed.fe_mul, Ed.fe_mul]; exact this.2
  rw [decide_eq_decide.2 e1, decide_eq_decide.2 e2]
end Mt
end Go.Proofs.YtdfghknonbmadaaDoor
namespace Go.Proofs.YtdfghknonbmadaaDoor
open Go.RowKit
set_option linter.unusedVariables false
set_option linter.unusedSimpArgs false
set_option maxRecDepth 100000

def cDe (P : Tx8 → W6) (E : Tx8 → Int) : List SV → List Cont → Option (Bool × SV)
  | [.s l], _ => some (true, .tup [.a64 (p16 (P l)), .i (E l)])
  | _, _ => none
def deI (C : Tx8 → Bool) (K : Tx8 → W6) (J : W6 → Bool → Bool) (s : Tx8) : Bool := C (u8 s) && J (w4 (K (u8 s))) (o8 s)
def deE (C : Tx8 → Bool) (K : Tx8 → W6) (J : W6 → Bool → Bool) (s : Tx8) : Int := bif Nat.beq s.length 32 then bif deI C K J s then 0 else 90 else 2
def deP (C : Tx8 → Bool) (K : Tx8 → W6) (B : W6 → Bool → W6) (J : W6 → Bool → Bool) (T : W6 → W6 → W6) (s : Tx8) : W6 := bif Nat.beq s.length 32 && deI C K J s then dePt K B T (u8 s) (o8 s) else List.replicate 16 0
theorem take_set (s : Tx8) (k n : Nat) (v : BitVec 8) (hk : k < s.length) : List.take s.length (List.drop 0 ((s ++ List.replicate n 0).set k v)) = s.set k v := by
  rw [List.drop_zero, List.set_append_left _ _ hk]
  exact List.take_left' (by simp)
theorem getD_app (s : Tx8) (k n : Nat) (hk : k < s.length) : (s ++ List.replicate n 0).getD k 0 = s.getD k 0 := by
  rw [List.getD_eq_getElem?_getD, List.getElem?_append_left hk, ← List.getD_eq_getElem?_getD]
theorem beqF {n m : Nat} (h : n ≠ m) : Nat.beq n m = false := by
  cases e : Nat.beq n m
  · rfl
  · exact absurd (Nat.eq_of_beq_eq_true e) h
theorem decode_gen (C : Tx8 → Bool) (K : Tx8 → W6) (B : W6 → Bool → W6) (J : W6 → Bool → Bool) (T : W6 → W6 → W6) (hE : EnvOk Tryd.prog (Ed C K B J T)) : POk Tryd.prog GE 13 (cDe (deP C K B J T) (deE C K J)) := by
  intro args acs r hh β M' w hR hw ha
  unfold cDe at hh
  split at hh
  · rename_i s
    simp only [Option.some.injEq, Prod.mk.injEq, true_and] at hh
    subst hh
    refine pokE (E := Ed C K B J T) rfl hE (decode_e C K B J T s fun r => r = .tup [.a64 (p16 (deP C K B J T s)), .i (deE C K J s)]) ?_ rfl rfl hR
    unfold deP deE
    by_cases hl : s.length = 32
    · rw [nb_of hl, show Nat.beq s.length 32 = true by rw [hl]; rfl, Bool.true_and]
      simp only [cond_false, cond_true]
      intro cap x hc hx
      subst hx
      have i1 : inR 31 s.length = true := inR_iff.2 ⟨by omega, by omega⟩
      have i2 : Nat.blt 31 (s ++ List.replicate (cap - s.length) 0).length = true := blt_of (by simp; omega)
      have e1 : List.take s.length (List.drop 0 (u8 (s ++ List.replicate (cap - s.length) 0))) = u8 s := by
        unfold u8
        rw [getD_app s 31 _ (by omega), take_set s 31 _ _ (by omega)]
      have e2 : o8 (s ++ List.replicate (cap - s.length) 0) = o8 s := by
        unfold o8
        rw [getD_app s 31 _ (by omega)]
      have e3 : (u8 s).length = 32 := by unfold u8; rw [List.length_set]; exact hl
      have i3 : decide (0 + s.length ≤ (u8 (s ++ List.replicate (cap - s.length) 0)).length) = true := decide_eq_true (by unfold u8; simp)
      refine bif_of i1 (bif_of i2 (bif_of i1 (bif_of i2 (bif_of i1 (bif_of i2 (bif_of i3 ?_))))))
      rw [e1, e2]
      unfold deI
      cases hC : C (u8 s)
      · rfl
      · simp only [Bool.not_true, cond_false, Bool.true_and]
        refine bif_of i3 (bif_of (by rw [e3]; rfl) ?_)
        cases hJ : J (w4 (K (u8 s))) (o8 s) <;> rfl
    · have hb : ((s.length : Int) != 32) = true := bne_iff_ne.2 (by omega)
      rw [hb, beqF hl]
      rfl
  · cases hh
theorem ed_ok : EnvOk Tryd.prog (Ed canX knX bsBX bsJX atX) := ⟨PT.add_ok (PT.add_ok (PT.add_ok (PT.add_ok (noT_ok _ _) canon_ok) known_ok) beside_ok) at_ok, noC_ok _ _⟩
abbrev dePX : Tx8 → W6 := deP canX knX bsBX bsJX atX
abbrev deEX : Tx8 → Int := deE canX knX bsJX
theorem decode_ok : POk Tryd.prog GE 13 (cDe dePX deEX) := decode_gen canX knX bsBX bsJX atX ed_ok
-- a point's bytes
def byY (M : W6 → W6 → W6) (I : W6 → W6) (Y : W6 → Tx8) (p : W6) : Tx8 := Y (w4 (M (el p 1) (w4 (I (el p 2)))))
def byO (M : W6 → W6 → W6) (I : W6 → W6) (O : W6 → Bool) (p : W6) : Bool := O (w4 (M (el p 0) (w4 (I (el p 2)))))
def Eb2 (M : W6 → W6 → W6) (I : W6 → W6) (O : W6 → Bool) (N : W6 → Bool) (Y : W6 → Tx8) : Env := ⟨GE, ((((noT.add 36 (ct2 M)).add 46 (ct1 I)).add 35 (cNo N)).add 48 (cOd O)).add 47 (cWr Y), noC⟩
theorem bytesP_e (M : W6 → W6 → W6) (I : W6 → W6) (O : W6 → Bool) (N : W6 → Bool) (Y : W6 → Tx8) (x y z t : W6) (K0 : SV → Prop) : vf Tryd.prog (Eb2 M I O N Y) noL 23 [.a64 (p4 x y z t)] GE (fun r _ => K0 r) = (bif !N (p4 x y z t) then ∀ (cap : Nat) (u : Tx8), (byY M I Y (p4 x y z t)).length ≤ cap → u = byY M I Y (p4 x y z t) ++ List.replicate (cap - (byY M I Y (p4 x y z t)).length) 0 → bif byO M I O (p4 x y z t) then bif inR 31 (byY M I Y (p4 x y z t)).length then bif Nat.blt 31 u.length then bif inR 31 (byY M I Y (p4 x y z t)).length then bif Nat.blt 31 u.length then bif decide (0 + (byY M I Y (p4 x y z t)).length ≤ (u.set 31 (u.getD 31 0 ||| BitVec.ofInt 8 128)).length) then K0 (.s (List.take (byY M I Y (p4 x y z t)).length (List.drop 0 (u.set 31 (u.getD 31 0 ||| BitVec.ofInt 8 128))))) else False else False else False else False else False else bif decide (0 + (byY M I Y (p4 x y z t)).length ≤ u.length) then K0 (.s (List.take (byY M I Y (p4 x y z t)).length (List.drop 0 u))) else False else False) := by kernel_rfl
def byF (M : W6 → W6 → W6) (I : W6 → W6) (O : W6 → Bool) (Y : W6 → Tx8) (p : W6) : Tx8 := bif byO M I O p then (byY M I Y p).set 31 ((byY M I Y p).getD 31 0 ||| BitVec.ofInt 8 128) else byY M I Y p
def cBP (N : W6 → Bool) (B : W6 → Tx8) : List SV → List Cont → Option (Bool × SV)
  | [.a64 p], _ => some (Nat.beq p.length 16 && !N p, .s (B p))
  | _, _ => none
theorem bytesP_gen (M : W6 → W6 → W6) (I : W6 → W6) (O : W6 → Bool) (N : W6 → Bool) (Y : W6 → Tx8) (hY : ∀ l, (Y l).length = 32) (hE : EnvOk Tryd.prog (Eb2 M I O N Y)) : POk Tryd.prog GE 23 (cBP N (byF M I O Y)) := by
  intro args acs r hh β M' w hR hw ha
  unfold cBP at hh
  split at hh
  · rename_i p
    simp only [Option.some.injEq, Prod.mk.injEq, Bool.and_eq_true] at hh
    obtain ⟨⟨h1, h3⟩, rfl⟩ := hh
    obtain ⟨a, b, c, d, e, f, g, i, j, k, l, m, n, o, q, r, rfl⟩ := ex16 (Nat.eq_of_beq_eq_true h1)
    refine pokE (E := Eb2 M I O N Y) rfl hE (bytesP_e M I O N Y [a, b, c, d] [e, f, g, i] [j, k, l, m] [n, o, q, r] fun x => x = .s (byF M I O Y [a, b, c, d, e, f, g, i, j, k, l, m, n, o, q, r])) (bif_of h3 ?_) rfl rfl hR
    intro cap u hc hu
    have hlen : (byY M I Y (p4 [a, b, c, d] [e, f, g, i] [j, k, l, m] [n, o, q, r])).length = 32 := hY _
    have e1 : byF M I O Y [a, b, c, d, e, f, g, i, j, k, l, m, n, o, q, r] = bif byO M I O (p4 [a, b, c, d] [e, f, g, i] [j, k, l, m] [n, o, q, r]) then (byY M I Y (p4 [a, b, c, d] [e, f, g, i] [j, k, l, m] [n, o, q, r])).set 31 ((byY M I Y (p4 [a, b, c, d] [e, f, g, i] [j, k, l, m] [n, o, q, r])).getD 31 0 ||| BitVec.ofInt 8 128) else byY M I Y (p4 [a, b, c, d] [e, f, g, i] [j, k, l, m] [n, o, q, r]) := rfl
    rw [e1]
    generalize byY M I Y (p4 [a, b, c, d] [e, f, g, i] [j, k, l, m] [n, o, q, r]) = s at hlen hc hu ⊢
    subst hu
    have i1 : inR 31 s.length = true := inR_iff.2 ⟨by omega, by omega⟩
    have i2 : Nat.blt 31 (s ++ List.replicate (cap - s.length) 0).length = true := blt_of (by simp; omega)
    cases byO M I O (p4 [a, b, c, d] [e, f, g, i] [j, k, l, m] [n, o, q, r])
    · refine bif_of (decide_eq_true (by simp)) ?_
      rw [List.drop_zero, List.take_left' rfl]
      rfl
    · refine bif_of i1 (bif_of i2 (bif_of i1 (bif_of i2 (bif_of (decide_eq_true (by simp)) ?_))))
      rw [getD_app s 31 _ (by omega), take_set s 31 _ _ (by omega)]
      rfl
  · cases hh
theorem eb_ok : EnvOk Tryd.prog (Eb2 tmX ivX odX noX wrX) := ⟨PT.add_ok (PT.add_ok (PT.add_ok (PT.add_ok (PT.add_ok (noT_ok _ _) mul_ok) inv_ok) none_ok) odd_ok) bytesE_ok, noC_ok _ _⟩
abbrev byP : W6 → Tx8 := byF tmX ivX odX wrX
theorem bytesP_ok : POk Tryd.prog GE 23 (cBP noX byP) := bytesP_gen tmX ivX odX noX wrX (fun l => wrN_len l 32) eb_ok
-- bits
theorem bit_e (s : Tx8) (n : Nat) : vf Tryd.prog E00 noL 64 [.s s, .i (n : Int)] GE (fun r _ => r = .w8 (s.getD ((n : Int).tdiv 8).toNat 0 >>> ((n : Int).tmod 8).toNat &&& BitVec.ofInt 8 1)) = (bif inI (n : Int) then bif inR ((n : Int).tdiv 8) s.length then SV.w8 (s.getD ((n : Int).tdiv 8).toNat 0 >>> ((n : Int).tmod 8).toNat &&& BitVec.ofInt 8 1) = SV.w8 (s.getD ((n : Int).tdiv 8).toNat 0 >>> ((n : Int).tmod 8).toNat &&& BitVec.ofInt 8 1) else False else False) := by kernel_rfl
/-- A bit of bytes. -/
def bitX (s : Tx8) (n : Nat) : BitVec 8 := s.getD (n / 8) 0 >>> (n % 8) &&& BitVec.ofInt 8 1
def cBi (B : Tx8 → Nat → BitVec 8) : List SV → List Cont → Option (Bool × SV)
  | [.s s, .i n], _ => some (Nat.beq s.length 32 && (ile 0 n && ile n 255), .w8 (B s n.toNat))
  | _, _ => none
theorem bit_ok : POk Tryd.prog GE 64 (cBi bitX) := by
  intro args acs r hh β M' w hR hw ha
  unfold cBi at hh
  split at hh
  · rename_i s n
    simp only [Option.some.injEq, Prod.mk.injEq, Bool.and_eq_true] at hh
    obtain ⟨⟨h1, h2, h3⟩, rfl⟩ := hh
    have h1 := Nat.eq_of_beq_eq_true h1
    rw [ile_eq] at h2 h3
    have h2 := of_decide_eq_true h2
    have h3 := of_decide_eq_true h3
    obtain ⟨m, rfl⟩ : ∃ m : Nat, n = (m : Int) := ⟨n.toNat, by omega⟩
    rw [Int.toNat_natCast]
    have := pokE (E := E00) rfl e00_ok (bit_e s m) (bif_of (inI_iff.2 (by omega)) (bif_of (inR_iff.2 ⟨by rw [tdiv8i]; omega, by rw [tdiv8i]; omega⟩) rfl)) rfl rfl hR
    rw [tdiv8, show ((m : Int).tmod 8).toNat = m % 8 by rw [Int.tmod_eq_emod_of_nonneg (by omega)]; omega] at this
    exact this
  · cases hh
end Go.Proofs.YtdfghknonbmadaaDoor
