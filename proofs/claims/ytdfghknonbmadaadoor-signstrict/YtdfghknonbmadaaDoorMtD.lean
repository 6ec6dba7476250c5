/-
  sign: what is signed is verified; what is not canonical, or weak, is not. No statement is proved here.
-/
import Derived.Test.YtdfghknonbmadaaDoorSgC
namespace Go.Proofs.YtdfghknonbmadaaDoor
open Go.RowKit Mt
set_option linter.unusedVariables false
set_option linter.unusedSimpArgs false
set_option maxRecDepth 100000

theorem pt_dec {p s : Ed.Pt} : (decide (p.x = s.x) && decide (p.y = s.y)) = true ↔ p = s := by
  rw [Bool.and_eq_true, decide_eq_true_iff, decide_eq_true_iff]
  constructor
  · rintro ⟨h1, h2⟩
    exact Ed.pt_eq h1 h2
  · rintro rfl
    exact ⟨rfl, rfl⟩
theorem sm_true {q r : Pq} {p s : Ed.Pt} (h : Is q p) (k : Is r s) : smP (pe q) (pe r) = true ↔ p = s := by
  show smF tmX smX (pe q) (pe r) = true ↔ _
  rw [same_pe h k]
  exact pt_dec
/-- Whether a point's key is weak: eight times it is the zero point. -/
theorem weak_is {q : Pq} {p : Ed.Pt} (h : Is q p) : wkX (pe q) = true ↔ Ed.nm 8 p = Ed.zero := by
  show smP (p16 (dbP (p16 (dbP (p16 (dbP (pe q))))))) (p16 (atX (w4 (zX 0)) (w4 (zX 1)))) = true ↔ _
  have e1 := double_pe h.sm
  have e2 := double_pe h.dbl.sm
  have e3 := double_pe h.dbl.dbl.sm
  rw [show p16 (dbP (pe q)) = pe (dbq q) from e1, show p16 (dbP (pe (dbq q))) = pe (dbq (dbq q)) from e2, show p16 (dbP (pe (dbq (dbq q)))) = pe (dbq (dbq (dbq q))) from e3, show p16 (atX (w4 (zX 0)) (w4 (zX 1))) = pe zq from ze_pe, sm_true h.dbl.dbl.dbl zq_is]
  have e : Ed.nm 8 p = Ed.add (Ed.add (Ed.add p p) (Ed.add p p)) (Ed.add (Ed.add p p) (Ed.add p p)) := by
    have h2 : Ed.nm 2 p = Ed.add p p := by rw [show 2 = 1 + 1 from rfl, Ed.nm_add h.on, Ed.nm_one h.on]
    have h4 : Ed.nm 4 p = Ed.add (Ed.add p p) (Ed.add p p) := by rw [show 4 = 2 + 2 from rfl, Ed.nm_add h.on, h2]
    rw [show 8 = 4 + 4 from rfl, Ed.nm_add h.on, h4]
  rw [e]
theorem ca_wr {n : Nat} (h : n < Lq) : caX (wrX (enc n)) = true := by
  have e := ca_le (wrX (enc n))
  rw [wr_len, le_enc (Lq_lt4 h), decide_eq_true h] at e
  exact e
theorem ve_core (C : Tx8 → Bool) (P : Tx8 → W6) (E : Tx8 → Int) (N : W6 → Bool) (D' : W6 → W6) (K : Tx8 → W6) (W : W6 → Bool) (F : TL → W6) (T : W6 → W6) (B : W6 → W6 → W6 → W6) (A : W6 → W6 → W6) (S : W6 → W6 → Bool) (p m s r1 s1 : Tx8) (a' b' : W6) (hs : s.length = 64) (ht : List.take 32 s = r1) (hd : List.drop 32 s = s1) (c1 : C s1 = true) (c2 : E p = 0) (c3 : E r1 = 0) (c4 : W (p16 (P p)) = false) (e1 : p16 (T (w4 (K s1))) = a') (e2 : p16 (A (p16 (P r1)) (p16 (B (p16 (P p)) (w4 (F [r1, p, m])) [0, 0, 0, 0]))) = b') (h : S a' b' = true) : veF ⟨C, P, E, N, D', K, W, F, T, B, A, S⟩ p m s = true := by
  unfold veF
  dsimp only
  rw [hs, ht, hd, c1, c2, c3, c4, e1, e2, h]
  rfl
theorem ve_sum {S : W6 → W6 → Bool} {a b : W6} (a' b' : W6) (ha : a = a') (hb : b = b') (h : S a' b' = true) : S a b = true := by rw [ha, hb]; exact h
theorem ve_same {n r k a : Nat} (hn : n = (k * a + r) % Lq) {t b q : Pq} (ht : Is t (Ed.nm n Bp)) (hq : Is q (Ed.nm r Bp)) (hb : Is b (Ed.nm k (Ed.nm a Bp))) : smP (pe t) (pe (pls q (rdy b))) = true := by
  rw [sm_true ht (hq.pls hb), hn, nm_mod, Ed.nm_add Bp_on, Ed.nm_mul Bp_on]
  exact Ed.add_comm _ _
theorem of_wr {n : Nat} (h : n < Lq) : w4 (ofX (wrX (enc n))) = enc n := by
  have := of_enc (wrX (enc n)) (.inl (wr_len _))
  rw [wr_len, le_enc (Lq_lt4 h), Nat.mod_eq_of_lt h] at this
  exact this
theorem at_is {p : Ed.Pt} (h : p.On) : Is (atp p.x.val p.y.val) p := Is.at (Ed.val_lt _) (Ed.val_lt _) (Ed.fe_of _) (Ed.fe_of _) h
theorem wk_no {q : Pq} {p : Ed.Pt} {x : W6} (h : Is q p) (hx : x = pe q) (h8 : Ed.nm 8 p ≠ Ed.zero) : wkX x = false := by
  subst hx
  cases hw : wkX (pe q)
  · rfl
  · exact absurd ((weak_is h).1 hw) h8
section
variable (D : TL → Tx8) (hD : ∀ l, (D l).length = 64)
/-- The numbers of a signature. -/
def nA (D : TL → Tx8) (s : Tx8) : Nat := le (clX (List.take 32 (D [s]))) 32 % Lq
def nR (D : TL → Tx8) (s m : Tx8) : Nat := le (D [opP D s, m]) 64 % Lq
theorem pb_ec (D : TL → Tx8) (hD : ∀ l, (D l).length = 64) (s : Tx8) : pbX D s = ec (Ed.nm (nA D s) Bp) := by
  obtain ⟨q, h1, h2⟩ := se_pt D hD s
  unfold pbX
  rw [h2]
  exact bytes_pe h1
theorem siR_ec (D : TL → Tx8) (hD : ∀ l, (D l).length = 64) (s m : Tx8) : siR tiX byP (nuF D ofX) (opP D s) m = ec (Ed.nm (nR D s m) Bp) := by
  obtain ⟨q, h1, h2⟩ := nu_pt D hD [opP D s, m]
  unfold siR
  rw [h2]
  exact bytes_pe h1
def nK (D : TL → Tx8) (s m : Tx8) : Nat := le (D [ec (Ed.nm (nR D s m) Bp), ec (Ed.nm (nA D s) Bp), m]) 64 % Lq
def nS (D : TL → Tx8) (s m : Tx8) : Nat := (nK D s m * nA D s + nR D s m) % Lq
theorem siS_enc (D : TL → Tx8) (hD : ∀ l, (D l).length = 64) (s m : Tx8) : w4 (siS tiX byP (nuF D ofX) maX (seA D s) (opP D s) m) = enc (nS D s m) := by
  apply eq_enc
  unfold siS
  rw [siR_ec D hD, show byP (p16 (tiX (seA D s))) = ec (Ed.nm (nA D s) Bp) from pb_ec D hD s, nu_enc D hD, nu_enc D hD, se_enc D hD]
  rw [muladd_V _ _ _ rfl, V_enc (Lq_lt4 (mod_lt' _)), V_enc (Lq_lt4 (mod_lt' _)), V_enc (Lq_lt4 (mod_lt' _))]
  rfl
theorem sg_is (D : TL → Tx8) (hD : ∀ l, (D l).length = 64) (s m : Tx8) : sgX D s m = ec (Ed.nm (nR D s m) Bp) ++ wrX (enc (nS D s m)) := by
  unfold sgX siF
  rw [siR_ec D hD, siS_enc D hD]
theorem sg_take (D : TL → Tx8) (hD : ∀ l, (D l).length = 64) (s m : Tx8) : List.take 32 (sgX D s m) = ec (Ed.nm (nR D s m) Bp) := by rw [sg_is D hD, List.take_left' (ec_len _)]
theorem sg_drop (D : TL → Tx8) (hD : ∀ l, (D l).length = 64) (s m : Tx8) : List.drop 32 (sgX D s m) = wrX (enc (nS D s m)) := by rw [sg_is D hD, List.drop_left' (ec_len _)]
theorem sg_len (D : TL → Tx8) (hD : ∀ l, (D l).length = 64) (s m : Tx8) : (sgX D s m).length = 64 := by rw [sg_is D hD, List.length_append, ec_len, wr_len]
theorem nA_nd (D : TL → Tx8) (hD : ∀ l, (D l).length = 64) (s : Tx8) : ¬ Lq ∣ nA D s := by
  intro h
  have h2 := clamp_nd (List.take 32 (D [s])) (by rw [List.length_take, hD]; rfl)
  exact h2 ((Nat.dvd_mod_iff (Nat.dvd_refl _)).1 h)
theorem nA_weak (D : TL → Tx8) (hD : ∀ l, (D l).length = 64) (s : Tx8) : Ed.nm 8 (Ed.nm (nA D s) Bp) ≠ Ed.zero := by
  rw [← Ed.nm_mul Bp_on]
  intro h
  rcases prL.or (nm_dvd h) with h1 | h1
  · have := Nat.le_of_dvd (by decide) h1
    rw [Lq_val] at this
    omega
  · exact nA_nd D hD s h1
/-- What is signed is verified. -/
theorem verify_true (D : TL → Tx8) (hD : ∀ l, (D l).length = 64) (s m : Tx8) : veF (vX D) (pbX D s) m (sgX D s m) = true := by
  have hA := Ed.nm_on Bp_on (nA D s)
  have hR := Ed.nm_on Bp_on (nR D s m)
  obtain ⟨d1, d2⟩ := decode_ec hA
  obtain ⟨d3, d4⟩ := decode_ec hR
  have iA := at_is hA
  have iR := at_is hR
  have hS : nS D s m < Lq := mod_lt' _
  have hK : nK D s m < Lq := mod_lt' _
  obtain ⟨t, ht1, ht2⟩ := times_pe hS
  obtain ⟨b, hb1, hb2⟩ := mul_pe iA hK
  obtain ⟨ha1, ha2⟩ := add_pe iR hb1
  rw [pb_ec D hD]
  have w1 := wk_no iA d2 (nA_weak D hD s)
  have e1 : p16 (tiX (w4 (ofX (wrX (enc (nS D s m)))))) = pe t := by rw [of_wr hS]; exact ht2
  have e2 : p16 (adP' (p16 (dePX (ec (Ed.nm (nR D s m) Bp)))) (p16 (btX (p16 (dePX (ec (Ed.nm (nA D s) Bp)))) (w4 (nuF D ofX [ec (Ed.nm (nR D s m) Bp), ec (Ed.nm (nA D s) Bp), m])) [0, 0, 0, 0]))) = pe (pls (atp (Ed.nm (nR D s m) Bp).x.val (Ed.nm (nR D s m) Bp).y.val) (rdy b)) := by
    rw [d4, d2, show w4 (nuF D ofX [ec (Ed.nm (nR D s m) Bp), ec (Ed.nm (nA D s) Bp), m]) = enc (nK D s m) from nu_enc D hD _, hb2]
    exact ha2
  exact ve_core caX dePX deEX noX dbP ofX wkX (nuF D ofX) tiX btX adP' smP _ m _ _ _ _ _ (sg_len D hD s m) (sg_take D hD s m) (sg_drop D hD s m) (ca_wr hS) d1 d3 w1 e1 e2 (ve_same rfl ht1 iR hb1)
end
end Go.Proofs.YtdfghknonbmadaaDoor
namespace Go.Proofs.YtdfghknonbmadaaDoor
open Go.RowKit
set_option linter.unusedVariables false
set_option linter.unusedSimpArgs false
set_option maxRecDepth 100000

def capK : SV → (Nat → Prop) → Prop
  | .sl _ _ _ c, K => K c
  | _, _ => False
def slotK : List SV → Nat → (SV → Prop) → Prop
  | [], _, _ => False
  | v :: _, 0, K => K v
  | _ :: l, n + 1, K => slotK l n K
theorem capK_ok {v : SV} {K : Nat → Prop} (h : capK v K) : ∃ c, K c := by
  unfold capK at h
  split at h
  · exact ⟨_, h⟩
  · exact h.elim
theorem slotK_ok {K : SV → Prop} : ∀ (l : List SV) (n : Nat), slotK l n K → ∃ v, K v
  | [], _, h => h.elim
  | v :: _, 0, h => ⟨v, h⟩
  | _ :: l, n + 1, h => slotK_ok l n h
/-- The order's bytes. -/
def ORD : Tx8 := [237, 211, 245, 92, 26, 99, 18, 88, 214, 156, 247, 162, 222, 249, 222, 20, 0, 0, 0, 0, 0, 0, 0, 0, 0, 0, 0, 0, 0, 0, 0, 16]
def cOrd : List SV → List Cont → Option (Bool × SV)
  | [], _ => some (true, .a8 ORD)
  | _, _ => none
theorem order_ok : POk Tryd.prog GE 7 cOrd := by
  intro args acs r hh β M w hR hw ha
  unfold cOrd at hh
  split at hh
  · simp only [Option.some.injEq, Prod.mk.injEq, true_and] at hh
    subst hh
    exact pokE (E := E00) rfl e00_ok (show vf Tryd.prog E00 noL 7 [] GE (fun r _ => r = .a8 ORD) = (SV.a8 ORD = SV.a8 ORD) by kernel_rfl) rfl rfl rfl hR
  · cases hh
def cAlv (b : Bool) : List SV → List Cont → Option (Bool × SV)
  | [], _ => some (true, .b b)
  | _, _ => none
/-- Guards are told apart where they are made. -/
def flagN : Nat := 1000001
def cFlag : List SV → List Cont → Option (Bool × SV) := fun _ _ => some (false, .any)
theorem flag_ok (n : Nat) : POk Tryd.prog GE n cFlag := by
  intro args acs r h
  cases h
/-- Public and Sign of a secret of 32 bytes; of another one, whose length is told. -/
def cPb2 (F : Tx8 → Tx8) : List SV → List Cont → Option (Bool × SV)
  | [.s s], _ => some (Nat.beq s.length 32, .tup [.s (F s), .i 0])
  | _, _ => none
def cSg2 (F : Tx8 → Tx8 → Tx8) : List SV → List Cont → Option (Bool × SV)
  | [.s s, .s m], _ => some (Nat.beq s.length 32 && Nat.ble m.length 1000000, .tup [.s (F s m), .i 0])
  | _, _ => none
def cSg3 (F : Tx8 → Tx8 → Tx8) : List SV → List Cont → Option (Bool × SV)
  | [.s [a, b, c, d, e], .s m], _ => some (Nat.ble m.length 1000000, .tup [.s [], .i 2])
  | [.s s, .s m], _ => some (Nat.beq s.length 32 && Nat.ble m.length 1000000, .tup [.s (F s m), .i 0])
  | _, _ => none
theorem pb2_of {P : Tx8 → Tx8} (h : POk Tryd.prog GE 5 (cPb P)) : POk Tryd.prog GE 5 (cPb2 P) := by
  intro args acs r hh
  unfold cPb2 at hh
  split at hh
  · rename_i s
    simp only [Option.some.injEq, Prod.mk.injEq] at hh
    obtain ⟨h1, rfl⟩ := hh
    refine h [.s s] acs _ ?_
    show some (true, SV.tup [.s (bif Nat.beq s.length 32 then P s else []), .i (bif Nat.beq s.length 32 then 0 else 2)]) = _
    rw [h1]
    rfl
  · cases hh
theorem sg2_of {S : Tx8 → Tx8 → Tx8} (h : POk Tryd.prog GE 6 (cSg S)) : POk Tryd.prog GE 6 (cSg2 S) := by
  intro args acs r hh
  unfold cSg2 at hh
  split at hh
  · rename_i s m
    simp only [Option.some.injEq, Prod.mk.injEq, Bool.and_eq_true] at hh
    obtain ⟨⟨h1, h2⟩, rfl⟩ := hh
    refine h [.s s, .s m] acs _ ?_
    show some (Nat.ble m.length 1000000, SV.tup [.s (bif Nat.beq s.length 32 then S s m else []), .i (bif Nat.beq s.length 32 then 0 else 2)]) = _
    rw [h1, h2]
    rfl
  · cases hh
theorem sg3_of {S : Tx8 → Tx8 → Tx8} (h : POk Tryd.prog GE 6 (cSg S)) : POk Tryd.prog GE 6 (cSg3 S) := by
  intro args acs r hh
  unfold cSg3 at hh
  split at hh
  · rename_i a b c d e m
    simp only [Option.some.injEq, Prod.mk.injEq] at hh
    obtain ⟨h2, rfl⟩ := hh
    refine h [.s [a, b, c, d, e], .s m] acs _ ?_
    show some (Nat.ble m.length 1000000, SV.tup [.s [], .i 2]) = _
    rw [h2]
  · rename_i s m hne
    simp only [Option.some.injEq, Prod.mk.injEq, Bool.and_eq_true] at hh
    obtain ⟨⟨h1, h2⟩, rfl⟩ := hh
    refine h [.s s, .s m] acs _ ?_
    show some (Nat.ble m.length 1000000, SV.tup [.s (bif Nat.beq s.length 32 then S s m else []), .i (bif Nat.beq s.length 32 then 0 else 2)]) = _
    rw [h1, h2]
    rfl
  · cases hh
def Eal (P : Tx8 → Tx8) (S : Tx8 → Tx8 → Tx8) (V : Tx8 → Tx8 → Tx8 → Bool) : Env := ⟨GE, (((noT.add 5 (cPb2 P)).add 6 (cSg3 S)).add 8 (cVe V)).add flagN cFlag, noC⟩
def Elb (P : Tx8 → Tx8) (S : Tx8 → Tx8 → Tx8) (V : Tx8 → Tx8 → Tx8 → Bool) (b : Bool) : Env := ⟨GE, (((((noT.add 5 (cPb2 P)).add 6 (cSg2 S)).add 8 (cVe V)).add 7 cOrd).add 4 (cAlv b)).add flagN cFlag, noC⟩
def K32 : Tx8 := List.replicate 32 0
def TEXT : Tx8 := [116, 101, 120, 116]
def TEXX : Tx8 := [116, 101, 120, 84]
theorem alive_e (P : Tx8 → Tx8) (S : Tx8 → Tx8 → Tx8) (V : Tx8 → Tx8 → Tx8 → Bool) (K0 : SV → Prop) : vf Tryd.prog (Eal P S V) noL 4 [] GE (fun r _ => K0 r) = (bif ((P K32).length : Int) == 32 then bif ((S K32 TEXT).length : Int) == 64 then bif V (P K32) TEXT (S K32 TEXT) then bif !V (P K32) TEXX (S K32 TEXT) then bif ile 63 ((S K32 TEXT).length : Int) then K0 (.b (!V (P K32) TEXT (List.take 63 (S K32 TEXT)))) else False else K0 (.b false) else K0 (.b false) else K0 (.b false) else K0 (.b false)) := by kernel_rfl
def MLw (x : Tx8) : Mm := [⟨false, .a64 BEG⟩, ⟨false, .a64 PRI⟩, ⟨false, .a64 CON⟩, ⟨false, .a64 WHO⟩, ⟨false, .a64 ROM⟩, ⟨true, .a8 x⟩, ⟨true, .a8 ORD⟩]
def iLw (s m p x : Tx8) (cap : Nat) (c : Int) (j : Nat) : List (Nat × SV) := [(0, .s s), (1, .s m), (5, .s p), (7, .s x), (9, .sl 5 0 x.length cap), (10, .ptr 6 0), (11, .i c), (12, .i (j : Nat))]
def oLw (s m p x : Tx8) (cap : Nat) : List (Nat × SV) := [(0, .s s), (1, .s m), (5, .s p), (7, .s x), (9, .sl 5 0 x.length cap)]
theorem vrLw (P : Tx8 → Tx8) (S : Tx8 → Tx8 → Tx8) (V : Tx8 → Tx8 → Tx8 → Bool) (b : Bool) (s m p x u y z : Tx8) (cap j : Nat) (c d : Int) (q : Prop) : (frK 102 (iLw s m p x cap c j) fun fr => vround Tryd.prog (Elb P S V b) noL 3 0 fr (MLw u) (Kn GE 0 102 q (iLw s m p x cap d (j + 1)) (MLw y) (oLw s m p x cap) (MLw z))) = (bif ilt (↑j : Int) (32 : Int) then bif inI ((32 : Int) + (↑j : Int)) then bif inR ((32 : Int) + (↑j : Int)) (List.length x) then bif ((32 : Int) + (↑j : Int)).toNat.blt (List.length u) then bif inR (↑j : Int) (32 : Nat) then bif j.blt (32 : Nat) then bif inI ((↑(List.getD u ((32 : Int) + (↑j : Int)).toNat (0 : BitVec (8 : Nat))).toNat : Int) + (↑(List.getD ORD j (0 : BitVec (8 : Nat))).toNat : Int)) then bif inI ((↑(List.getD u ((32 : Int) + (↑j : Int)).toNat (0 : BitVec (8 : Nat))).toNat : Int) + (↑(List.getD ORD j (0 : BitVec (8 : Nat))).toNat : Int) + c) then bif inI ((32 : Int) + (↑j : Int)) then bif inR ((32 : Int) + (↑j : Int)) (List.length x) then bif ((32 : Int) + (↑j : Int)).toNat.blt (List.length u) then bif inI ((↑j : Int) + (1 : Int)) then q ∧ SV.s s = SV.s s ∧ SV.s m = SV.s m ∧ SV.s p = SV.s p ∧ SV.s x = SV.s x ∧ SV.sl (5 : Nat) (0 : Nat) (List.length x) cap = SV.sl (5 : Nat) (0 : Nat) (List.length x) cap ∧ SV.ptr (6 : Nat) (0 : Nat) = SV.ptr (6 : Nat) (0 : Nat) ∧ SV.i (((↑(List.getD u ((32 : Int) + (↑j : Int)).toNat (0 : BitVec (8 : Nat))).toNat : Int) + (↑(List.getD ORD j (0 : BitVec (8 : Nat))).toNat : Int) + c).fdiv ((2 : Int) ^ (8 : Nat))) = SV.i d ∧ SV.i ((↑j : Int) + (1 : Int)) = SV.i (↑(j + (1 : Nat)) : Int) ∧ (false = false ∧ Cont.a64 BEG = Cont.a64 BEG) ∧ (false = false ∧ Cont.a64 PRI = Cont.a64 PRI) ∧ (false = false ∧ Cont.a64 CON = Cont.a64 CON) ∧ (false = false ∧ Cont.a64 WHO = Cont.a64 WHO) ∧ (false = false ∧ Cont.a64 ROM = Cont.a64 ROM) ∧ (true = true ∧ Cont.a8 (List.set u ((32 : Int) + (↑j : Int)).toNat (BitVec.ofInt (8 : Nat) ((↑(List.getD u ((32 : Int) + (↑j : Int)).toNat (0 : BitVec (8 : Nat))).toNat : Int) + (↑(List.getD ORD j (0 : BitVec (8 : Nat))).toNat : Int) + c))) = Cont.a8 y) ∧ (true = true ∧ Cont.a8 ORD = Cont.a8 ORD) ∧ True else False else False else False else False else False else False else False else False else False else False else False else (0 : Nat) = (0 : Nat) ∧ SV.s s = SV.s s ∧ SV.s m = SV.s m ∧ SV.s p = SV.s p ∧ SV.s x = SV.s x ∧ SV.sl (5 : Nat) (0 : Nat) (List.length x) cap = SV.sl (5 : Nat) (0 : Nat) (List.length x) cap ∧ (false = false ∧ Cont.a64 BEG = Cont.a64 BEG) ∧ (false = false ∧ Cont.a64 PRI = Cont.a64 PRI) ∧ (false = false ∧ Cont.a64 CON = Cont.a64 CON) ∧ (false = false ∧ Cont.a64 WHO = Cont.a64 WHO) ∧ (false = false ∧ Cont.a64 ROM = Cont.a64 ROM) ∧ (true = true ∧ Cont.a8 u = Cont.a8 z) ∧ (true = true ∧ Cont.a8 ORD = Cont.a8 ORD) ∧ True) := by kernel_rfl
def LLw (s m p x : Tx8) (u z : Nat → Tx8) : LT := noL.add 0 (fun fr M K => slotK fr 9 fun v => capK v fun c => vLoop GE 102 (iLw s m p x c 0 0) (MLw (u c)) (oLw s m p x c) (MLw (z c)) fr M K)
theorem vaLw (P : Tx8 → Tx8) (S : Tx8 → Tx8 → Tx8) (V : Tx8 → Tx8 → Tx8 → Bool) (b : Bool) (s m : Tx8) (u z : Nat → Tx8) (K0 : SV → Prop) : (vf Tryd.prog (Elb P S V b) (LLw s m (P s) (S s m) u z) 3 [.s s, .s m] GE (fun r _ => K0 r)) = (bif (↑(List.length s) : Int) != (32 : Int) then K0 (SV.b b) else bif bif false then true else ilt (1024 : Int) (↑(List.length m) : Int) then K0 (SV.b b) else bif (List.length s).beq (32 : Nat) then bif (List.length s).beq (32 : Nat) && (List.length m).ble (1000000 : Nat) then bif bif false then true else (↑(List.length (S s m)) : Int) != (64 : Int) then K0 (SV.b false) else ∀ (cap : Nat) (x : List (BitVec (8 : Nat))), List.length (S s m) ≤ cap → x = S s m ++ List.replicate (cap - List.length (S s m)) (0 : BitVec (8 : Nat)) → loopOf Tryd.prog (3 : Nat) (0 : Nat) = loopOf Tryd.prog (3 : Nat) (0 : Nat) ∧ SV.s s = SV.s s ∧ SV.s m = SV.s m ∧ SV.s (P s) = SV.s (P s) ∧ SV.s (S s m) = SV.s (S s m) ∧ SV.sl (5 : Nat) (0 : Nat) (List.length (S s m)) cap = SV.sl (5 : Nat) (0 : Nat) (List.length (S s m)) cap ∧ SV.ptr ((0 : Nat) + (1 : Nat) + (1 : Nat) + (1 : Nat) + (1 : Nat) + (1 : Nat) + (1 : Nat)) (0 : Nat) = SV.ptr (6 : Nat) (0 : Nat) ∧ SV.i (0 : Int) = SV.i (0 : Int) ∧ SV.i (0 : Int) = SV.i (↑(0 : Nat) : Int) ∧ (false = false ∧ Cont.a64 BEG = Cont.a64 BEG) ∧ (false = false ∧ Cont.a64 PRI = Cont.a64 PRI) ∧ (false = false ∧ Cont.a64 CON = Cont.a64 CON) ∧ (false = false ∧ Cont.a64 WHO = Cont.a64 WHO) ∧ (false = false ∧ Cont.a64 ROM = Cont.a64 ROM) ∧ (true = true ∧ Cont.a8 x = Cont.a8 (u cap)) ∧ (true = true ∧ Cont.a8 ORD = Cont.a8 ORD) ∧ bif (List.length m).ble (1000000 : Nat) then bif V (P s) m (S s m) then bif decide ((0 : Nat) + List.length (S s m) ≤ List.length (z cap)) then bif (List.length m).ble (1000000 : Nat) then bif bif true then !V (P s) m (List.take (List.length (S s m)) (List.drop (0 : Nat) (z cap))) else false then bif (List.length m).ble (1000000 : Nat) then bif bif true then !V (bts { data := #[(1 : UInt8)] } ++ List.take (31 : Nat) (List.drop (0 : Nat) (List.replicate (31 : Nat) (0 : BitVec (8 : Nat))))) m (bts { data := #[(1 : UInt8)] } ++ List.take (31 : Nat) (List.drop (0 : Nat) (List.replicate (31 : Nat) (0 : BitVec (8 : Nat)))) ++ List.take (32 : Nat) (List.drop (0 : Nat) (List.replicate (32 : Nat) (0 : BitVec (8 : Nat))))) else false then K0 (SV.b (bif true then b else false)) else K0 (SV.b false) else False else K0 (SV.b false) else False else False else K0 (SV.b false) else False else False else False) := by kernel_rfl
end Go.Proofs.YtdfghknonbmadaaDoor
