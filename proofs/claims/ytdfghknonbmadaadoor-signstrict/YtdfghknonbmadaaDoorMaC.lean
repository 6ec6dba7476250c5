/-
  Numbers: primes, powers, the curve. No statement is proved here.
-/
import Derived.Test.YtdfghknonbmadaaDoorNt
import Derived.Test.YtdfghknonbmadaaDoorNuF
namespace Go.Proofs.YtdfghknonbmadaaDoor
namespace Mt
set_option linter.unusedVariables false
set_option linter.unusedSimpArgs false
set_option maxRecDepth 1000000
theorem P_pos : 0 < Nt.P := by have := Nt.P_two; omega
theorem lt4 {a : Nat} (h : a < Nt.P) : a < 115792089237316195423570985008687907853269984665640564039457584007913129639936 := by rw [Nt.P_val] at h; omega
def sq (a : Nat) : Nat → Nat
  | 0 => a
  | i + 1 => sq a i * sq a i % Nt.P
theorem sq_mod (a : Nat) : ∀ i, sq a i % Nt.P = a ^ 2 ^ i % Nt.P
  | 0 => by rw [Nat.pow_zero, Nat.pow_one]; rfl
  | i + 1 => by
    have e : sq a (i + 1) = sq a i * sq a i % Nt.P := rfl
    rw [e, Nat.mod_mod, ← Nt.mm, sq_mod a i, Nt.mm, ← Nat.pow_add, Nat.pow_succ, Nat.mul_two]
def ex (i : Nat) : Nat := if h : i = 0 then 0 else 2 * ex (i - 1) + 1
theorem ex_def (i : Nat) : ex i = 2 ^ i - 1 := by
  induction i with
  | zero => rw [ex]; rfl
  | succ i ih =>
    rw [ex, dif_neg (by omega), show i + 1 - 1 = i from rfl, ih, Nat.pow_succ]
    have := Nat.two_pow_pos i
    omega
def pw (a i : Nat) : Nat := a ^ ex i % Nt.P
theorem pw_ltP (a i : Nat) : pw a i < Nt.P := Nat.mod_lt _ P_pos
theorem pw_one {a : Nat} (ha : a < Nt.P) : pw a 1 = a := by
  unfold pw
  rw [ex_def, show 2 ^ 1 - 1 = 1 from rfl, Nat.pow_one, Nat.mod_eq_of_lt ha]
theorem pow_pos2 (n : Nat) : 0 < 2 ^ n := Nat.two_pow_pos n
theorem join_pw (a i n : Nat) : sq (pw a i) n * pw a n % Nt.P = pw a (i + n) := by
  rw [← Nt.mm, sq_mod]
  unfold pw
  rw [← Nat.pow_mod, Nat.mod_mod, Nt.mm, ← Nat.pow_mul, ← Nat.pow_add]
  congr 2
  rw [ex_def, ex_def, ex_def]
  have h1 := pow_pos2 i
  have h2 := pow_pos2 n
  rw [Nat.sub_mul, Nat.one_mul, Nat.pow_add]
  have h3 : 2 ^ n ≤ 2 ^ i * 2 ^ n := Nat.le_mul_of_pos_left _ h1
  omega
def pb (a r : Nat) (b : Bool) : Nat := (r * r % Nt.P) * (bif b then a else 1) % Nt.P
def pws (a : Nat) (bs : List Bool) : Nat := bs.foldl (pb a) (pw a 250)
theorem pb_ltP (a r : Nat) (b : Bool) : pb a r b < Nt.P := Nat.mod_lt _ P_pos
theorem fold_ltP (a : Nat) : ∀ (bs : List Bool) (r : Nat), r < Nt.P → bs.foldl (pb a) r < Nt.P
  | [], r, h => h
  | b :: bs, r, h => fold_ltP a bs (pb a r b) (pb_ltP a r b)
theorem pws_ltP (a : Nat) (bs : List Bool) : pws a bs < Nt.P := fold_ltP a bs _ (pw_ltP a 250)
theorem cond_lt {a : Nat} (ha : a < 115792089237316195423570985008687907853269984665640564039457584007913129639936) (b : Bool) : (bif b then a else 1) < 115792089237316195423570985008687907853269984665640564039457584007913129639936 := by
  cases b
  · exact (by decide : 1 < 115792089237316195423570985008687907853269984665640564039457584007913129639936)
  · exact ha
theorem pb_pow (a e : Nat) (b : Bool) : pb a (a ^ e % Nt.P) b = a ^ (2 * e + (bif b then 1 else 0)) % Nt.P := by
  unfold pb
  rw [Nt.mm, Nt.mml, ← Nat.pow_add, Nat.two_mul]
  cases b
  · simp only [cond_false, Nat.mul_one, Nat.add_zero]
  · simp only [cond_true]; rw [← Nat.pow_succ]
theorem inv_pows (a x : Nat) : [false, true, false, true, true].foldl (pb a) (a ^ x % Nt.P) = a ^ (2 * (2 * (2 * (2 * (2 * x + 0) + 1) + 0) + 1) + 1) % Nt.P := by
  simp only [List.foldl, pb_pow, cond_true, cond_false]
theorem root_pows (a x : Nat) : [true, false].foldl (pb a) (a ^ x % Nt.P) = a ^ (2 * (2 * x + 1) + 0) % Nt.P := by
  simp only [List.foldl, pb_pow, cond_true, cond_false]
theorem inv_exp : 2 * (2 * (2 * (2 * (2 * ex 250 + 0) + 1) + 0) + 1) + 1 = Nt.P - 2 := by rw [Nt.P_val, ex_def]
theorem root_exp : 2 * (2 * ex 250 + 1) + 0 = Nt.K + 1 := by rw [Nt.K_val, ex_def]
theorem inv_pws (a : Nat) : pws a [false, true, false, true, true] = a ^ (Nt.P - 2) % Nt.P := by
  unfold pws pw
  rw [inv_pows, inv_exp]
theorem root_pws (a : Nat) : pws a [true, false] = Nt.c1 a := by
  unfold pws pw Nt.c1
  rw [root_pows, root_exp]
def iv (a : Nat) : Nat := a ^ (Nt.P - 2) % Nt.P
theorem iv_ltP (a : Nat) : iv a < Nt.P := Nat.mod_lt _ P_pos
theorem c1_ltP (a : Nat) : Nt.c1 a < Nt.P := Nat.mod_lt _ P_pos
def rs (a : Nat) (odd : Bool) : Nat := bif (decide (Nt.rt a % 2 = 1) != odd) then (0 + Nt.P - Nt.rt a) % Nt.P else Nt.rt a
def ok (a : Nat) (odd : Bool) : Bool := decide (rs a odd * rs a odd % Nt.P = a) && !(decide (rs a odd % 2 = 1) != odd)
def ro (a : Nat) (odd : Bool) : Nat := bif ok a odd then rs a odd else 0
theorem I_lt : Nt.I < Nt.P := by rw [Nt.I_val, Nt.P_val]; decide
theorem rt_ltP (a : Nat) : Nt.rt a < Nt.P := by
  unfold Nt.rt
  split
  · exact c1_ltP a
  · exact Nat.mod_lt _ P_pos
theorem cond_ltP {p x y : Nat} (b : Bool) (hx : x < p) (hy : y < p) : (bif b then x else y) < p := by cases b <;> assumption
theorem cond_ite {q : Prop} [Decidable q] (x y : Nat) : (bif decide q then x else y) = if q then x else y := by by_cases h : q <;> simp [h]
theorem rs_ltP (a : Nat) (odd : Bool) : rs a odd < Nt.P := cond_ltP _ (Nat.mod_lt _ P_pos) (rt_ltP a)
theorem ro_ltP (a : Nat) (odd : Bool) : ro a odd < Nt.P := cond_ltP _ (rs_ltP a odd) P_pos
theorem rt_of {a c p i r : Nat} (h1 : Nt.c1 a = c) (h2 : Nt.P = p) (h3 : Nt.I = i) (h : (if c * c % p = a then c else c * i % p) = r) : Nt.rt a = r := by
  unfold Nt.rt
  rw [h1, h2, h3]; exact h
theorem rs_of {a p r s : Nat} {odd : Bool} (h1 : Nt.rt a = r) (h2 : Nt.P = p) (h : (bif (decide (r % 2 = 1) != odd) then (0 + p - r) % p else r) = s) : rs a odd = s := by
  unfold rs
  rw [h1, h2]; exact h
theorem ok_of {a p s : Nat} {odd b : Bool} (h1 : rs a odd = s) (h2 : Nt.P = p) (h : (decide (s * s % p = a) && !(decide (s % 2 = 1) != odd)) = b) : ok a odd = b := by
  unfold ok
  rw [h1, h2]; exact h
theorem inv_mul {a : Nat} (h0 : 0 < a) (ha : a < Nt.P) : a * iv a % Nt.P = 1 := Nt.inv_mul (Nt.not_dvd h0 ha)
theorem iv_zero (a : Nat) (h : a = 0) : iv a = 0 := by
  unfold iv
  have h2 := Nt.zero_pow_mod (Nt.P - 2) (by have := Nt.P_two; omega)
  rw [← h] at h2
  exact h2.trans h
theorem neg_sq {p r : Nat} (hr : r < p) : (0 + p - r) % p * ((0 + p - r) % p) % p = r * r % p := by
  by_cases h : r = 0
  · subst h; simp
  · have e1 : (0 + p - r) % p = p - r := by rw [Nat.zero_add]; exact Nat.mod_eq_of_lt (by omega)
    rw [e1]
    obtain ⟨q, rfl⟩ : ∃ q, p = r + q := ⟨p - r, by omega⟩
    have e2 : r + q - r = q := by omega
    rw [e2]
    have e3 : q * q + (r + q) * r = r * r + (r + q) * q := by rw [Nat.add_mul, Nat.add_mul, Nat.mul_comm q r]; omega
    have e4 : (q * q + (r + q) * r) % (r + q) = (r * r + (r + q) * q) % (r + q) := by rw [e3]
    rwa [Nat.add_mul_mod_self_left, Nat.add_mul_mod_self_left] at e4
theorem cond_sq {p n r : Nat} (b : Bool) (h : n * n % p = r * r % p) : (bif b then n else r) * (bif b then n else r) % p = r * r % p := by
  cases b
  · rfl
  · exact h
theorem rs_sq (a : Nat) (odd : Bool) : rs a odd * rs a odd % Nt.P = Nt.rt a * Nt.rt a % Nt.P := cond_sq _ (neg_sq (rt_ltP a))
theorem P_odd : Nt.P % 2 = 1 := by rw [Nt.P_val]
theorem par_gen {p r : Nat} (odd : Bool) (hp : p % 2 = 1) (h0 : 0 < r) (hr : r < p) : decide ((bif (decide (r % 2 = 1) != odd) then (0 + p - r) % p else r) % 2 = 1) = odd := by
  have e1 : (p - r) % p = p - r := Nat.mod_eq_of_lt (by omega)
  by_cases h : r % 2 = 1
  · cases odd
    · simp [h, e1]; omega
    · simp [h]
  · cases odd
    · simp [h]
    · simp [h, e1]; omega
theorem rs_par {a : Nat} (odd : Bool) (h0 : 0 < Nt.rt a) : decide (rs a odd % 2 = 1) = odd := par_gen odd P_odd h0 (rt_ltP a)
theorem rt_pos {a : Nat} (h0 : 0 < a) (h : Nt.has a) : 0 < Nt.rt a := by
  apply Nat.pos_of_ne_zero
  intro e
  have h2 : Nt.rt a * Nt.rt a % Nt.P = a := h
  rw [e, Nat.zero_mul, Nat.zero_mod] at h2
  omega
theorem ok_has {a : Nat} (odd : Bool) (h0 : 0 < a) (h : Nt.has a) : ok a odd = true := by
  have h1 : rs a odd * rs a odd % Nt.P = a := (rs_sq a odd).trans h
  have h2 := rs_par odd (rt_pos h0 h)
  unfold ok
  rw [h2, decide_eq_true h1]
  cases odd <;> rfl
theorem ok_not {a : Nat} (odd : Bool) (h : ¬ Nt.has a) : ok a odd = false := by
  have h1 : ¬ rs a odd * rs a odd % Nt.P = a := fun e => h ((rs_sq a odd).symm.trans e)
  unfold ok
  rw [decide_eq_false h1]; rfl
theorem cond_yes {b : Bool} {x y : Nat} (h : b = true) : (bif b then x else y) = x := by subst h; rfl
theorem cond_no {b : Bool} {x y : Nat} (h : b = false) : (bif b then x else y) = y := by subst h; rfl
theorem ro_yes {a : Nat} {odd : Bool} (h : ok a odd = true) : ro a odd = rs a odd := cond_yes h
theorem ro_no {a : Nat} {odd : Bool} (h : ok a odd = false) : ro a odd = 0 := cond_no h
theorem ite_zero {p i a c : Nat} (hc : c = 0) (h : a = 0) : (if c * c % p = a then c else c * i % p) = 0 := by
  subst hc
  subst h
  simp
theorem rt_zero (a : Nat) (h : a = 0) : Nt.rt a = 0 := rt_of rfl rfl rfl (ite_zero (Nt.c1_zero a h) h)
theorem rs_zero_gen {p r : Nat} (odd : Bool) (h : r = 0) : (bif (decide (r % 2 = 1) != odd) then (0 + p - r) % p else r) = 0 := by
  subst h
  cases odd <;> simp
theorem rs_zero (a : Nat) (odd : Bool) (h : a = 0) : rs a odd = 0 := rs_zero_gen odd (rt_zero a h)
theorem ok_zero_gen {p s a : Nat} {odd : Bool} (h1 : s = 0) (h2 : a = 0) : (decide (s * s % p = a) && !(decide (s % 2 = 1) != odd)) = !odd := by
  subst h1
  subst h2
  cases odd <;> simp
theorem ok_zero (a : Nat) (odd : Bool) (h : a = 0) : ok a odd = !odd := ok_zero_gen (rs_zero a odd h) h
end Mt
end Go.Proofs.YtdfghknonbmadaaDoor
namespace Go.Proofs.YtdfghknonbmadaaDoor
open Go.RowKit
set_option linter.unusedVariables false
set_option linter.unusedSimpArgs false
set_option maxRecDepth 100000

theorem pokE {E : Env} (hG : E.G = GE) (hE : EnvOk Tryd.prog E) {f : Nat} {args : List SV} {r : SV} {q : Prop} (h : vf Tryd.prog E noL f args GE (fun r' _ => r' = r) = q) (hq : q) (ha : SV.wf.wfs 0 args = true) (hr : r.wf 0 = true) {β : Nat → Nat} {M : Mm} {w : World} (hR : Rel GE β M w) : CallR Tryd.prog f (vals β args).toArray w (fun v w' => v = val β r ∧ Fp0 w w') := by
  have hS := vf_ok hE mixed (noL_ok _ _ _ _) (of_eq h hq)
  rw [hG] at hS
  exact pure0 hS ha hr hR
/-- From an equation, never from the bare reckoning: a type that is no equation is unfolded at each use, and a long function has no end there. -/
theorem pok1 {E : Env} (hG : E.G = GE) (hE : EnvOk Tryd.prog E) {f : Nat} {F : W6 → W6} (h : ∀ a : W6, vf Tryd.prog E noL f [.a64 (w4 a)] GE (fun r _ => r = .a64 (w4 (F (w4 a)))) = (SV.a64 (w4 (F (w4 a))) = SV.a64 (w4 (F (w4 a))))) : POk Tryd.prog GE f (ct1 F) := by
  intro args acs r hh β M w hR hw ha
  unfold ct1 at hh
  split at hh
  · rename_i a b c d
    simp only [Option.some.injEq, Prod.mk.injEq, true_and] at hh
    subst hh
    exact pokE hG hE (h [a, b, c, d]) rfl rfl rfl hR
  · cases hh
theorem ones_gen (J : W6 → W6 → Nat → W6) (hE : EnvOk Tryd.prog (EJ J)) : POk Tryd.prog GE 83 (ct1 (onW J)) := pok1 (E := EJ J) rfl hE (ones_e J)
theorem ones_ok : POk Tryd.prog GE 83 (ct1 (onW joX)) := ones_gen joX ej_ok
def EP (M : W6 → W6 → W6) (O : W6 → W6) (C : B6 → W6 → W6 → W6) (Z : BitVec 32 → W6) : Env := ⟨GE, (((noT.add 36 (ct2 M)).add 83 (ct1 O)).add 79 (cPk C)).add 56 (ctS Z), noC⟩
theorem ep_ok : EnvOk Tryd.prog (EP tmX (onW joX) pkW zX) := ⟨PT.add_ok (PT.add_ok (PT.add_ok (PT.add_ok (noT_ok _ _) mul_ok) ones_ok) choose_ok) smallE_ok, noC_ok _ _⟩
def B5 (l : W6) : Mm := [⟨false, .a64 BEG⟩, ⟨false, .a64 PRI⟩, ⟨false, .a64 CON⟩, ⟨false, .a64 WHO⟩, ⟨false, .a64 ROM⟩, ⟨false, .a64 l⟩]
def MP (l a r : W6) : Mm := [⟨false, .a64 BEG⟩, ⟨false, .a64 PRI⟩, ⟨false, .a64 CON⟩, ⟨false, .a64 WHO⟩, ⟨false, .a64 ROM⟩, ⟨false, .a64 l⟩, ⟨true, .a64 (w4 a)⟩, ⟨true, .a64 (List.replicate 4 0)⟩, ⟨true, .a64 (w4 r)⟩]
def iP (len cap j : Nat) : List (Nat × SV) := [(2, .ptr 6 0), (4, .ptr 7 0), (5, .ptr 8 0), (10, .sl 5 0 len cap), (11, .i (len : Nat)), (12, .i (j : Nat))]
def oP : List (Nat × SV) := [(2, .ptr 6 0), (4, .ptr 7 0), (5, .ptr 8 0)]
def LP (l a r x : W6) (len cap : Nat) : LT := noL.add 0 (vLoop (B5 l) 27 (iP len cap 0) (MP l a r) oP (MP l a x))
theorem vaP (M : W6 → W6 → W6) (O : W6 → W6) (C : B6 → W6 → W6 → W6) (Z : BitVec 32 → W6) (l a r x : W6) (len cap : Nat) (K : SV → Mm → Prop) : (vf Tryd.prog (EP M O C Z) (LP l a r x len cap) 69 [.a64 (w4 a), .sl 5 0 len cap] (B5 l) K) = (loopOf Tryd.prog (69 : Nat) (0 : Nat) = loopOf Tryd.prog (69 : Nat) (0 : Nat) ∧ SV.ptr (List.length (B5 l)) (0 : Nat) = SV.ptr (6 : Nat) (0 : Nat) ∧ SV.ptr ((0 : Nat) + (1 : Nat) + (1 : Nat) + (1 : Nat) + (1 : Nat) + (1 : Nat) + (1 : Nat) + (1 : Nat)) (0 : Nat) = SV.ptr (7 : Nat) (0 : Nat) ∧ SV.ptr ((0 : Nat) + (1 : Nat) + (1 : Nat) + (1 : Nat) + (1 : Nat) + (1 : Nat) + (1 : Nat) + (1 : Nat) + (1 : Nat)) (0 : Nat) = SV.ptr (8 : Nat) (0 : Nat) ∧ SV.sl (5 : Nat) (0 : Nat) len cap = SV.sl (5 : Nat) (0 : Nat) len cap ∧ SV.i (↑len : Int) = SV.i (↑len : Int) ∧ SV.i (0 : Int) = SV.i (↑(0 : Nat) : Int) ∧ (false = false ∧ Cont.a64 BEG = Cont.a64 BEG) ∧ (false = false ∧ Cont.a64 PRI = Cont.a64 PRI) ∧ (false = false ∧ Cont.a64 CON = Cont.a64 CON) ∧ (false = false ∧ Cont.a64 WHO = Cont.a64 WHO) ∧ (false = false ∧ Cont.a64 ROM = Cont.a64 ROM) ∧ (false = false ∧ Cont.a64 l = Cont.a64 l) ∧ (true = true ∧ Cont.a64 (w4 a) = Cont.a64 (w4 a)) ∧ (true = true ∧ Cont.a64 (List.replicate (4 : Nat) (0 : BitVec (64 : Nat))) = Cont.a64 (List.replicate (4 : Nat) (0 : BitVec (64 : Nat)))) ∧ (true = true ∧ Cont.a64 (w4 (O [List.getD a (0 : Nat) (0 : BitVec (64 : Nat)), List.getD a (1 : Nat) (0 : BitVec (64 : Nat)), List.getD a (2 : Nat) (0 : BitVec (64 : Nat)), List.getD a (3 : Nat) (0 : BitVec (64 : Nat))])) = Cont.a64 (w4 r)) ∧ K (SV.a64 (List.take (4 : Nat) (List.drop (0 : Nat) (List.take (4 : Nat) (List.drop (0 : Nat) (w4 x)))))) [{ rw := false, c := Cont.a64 BEG }, { rw := false, c := Cont.a64 PRI }, { rw := false, c := Cont.a64 CON }, { rw := false, c := Cont.a64 WHO }, { rw := false, c := Cont.a64 ROM }, { rw := false, c := Cont.a64 l }, { rw := true, c := Cont.a64 (w4 a) }, { rw := true, c := Cont.a64 (List.take (4 : Nat) (List.drop (0 : Nat) (w4 x))) }, { rw := true, c := Cont.a64 (w4 x) }]) := by kernel_rfl
theorem vrP (M : W6 → W6 → W6) (O : W6 → W6) (C : B6 → W6 → W6 → W6) (Z : BitVec 32 → W6) (l a r x z : W6) (len cap j : Nat) (p : Prop) : (frK 27 (iP len cap j) fun fr => vround Tryd.prog (EP M O C Z) noL 69 0 fr (MP l a r) (Kn (B5 l) 0 27 p (iP len cap (j + 1)) (MP l a x) oP (MP l a z))) = (bif ilt (↑j : Int) (↑len : Int) then bif inR (↑j : Int) len then bif j.blt (List.length l) then bif inI ((↑j : Int) + (1 : Int)) then p ∧ SV.ptr (6 : Nat) (0 : Nat) = SV.ptr (6 : Nat) (0 : Nat) ∧ SV.ptr (7 : Nat) (0 : Nat) = SV.ptr (7 : Nat) (0 : Nat) ∧ SV.ptr (8 : Nat) (0 : Nat) = SV.ptr (8 : Nat) (0 : Nat) ∧ SV.sl (5 : Nat) (0 : Nat) len cap = SV.sl (5 : Nat) (0 : Nat) len cap ∧ SV.i (↑len : Int) = SV.i (↑len : Int) ∧ SV.i ((↑j : Int) + (1 : Int)) = SV.i (↑(j + (1 : Nat)) : Int) ∧ (false = false ∧ Cont.a64 BEG = Cont.a64 BEG) ∧ (false = false ∧ Cont.a64 PRI = Cont.a64 PRI) ∧ (false = false ∧ Cont.a64 CON = Cont.a64 CON) ∧ (false = false ∧ Cont.a64 WHO = Cont.a64 WHO) ∧ (false = false ∧ Cont.a64 ROM = Cont.a64 ROM) ∧ (false = false ∧ Cont.a64 l = Cont.a64 l) ∧ (true = true ∧ Cont.a64 (w4 a) = Cont.a64 (w4 a)) ∧ (true = true ∧ Cont.a64 (List.replicate (4 : Nat) (0 : BitVec (64 : Nat))) = Cont.a64 (List.replicate (4 : Nat) (0 : BitVec (64 : Nat)))) ∧ (true = true ∧ Cont.a64 (w4 (M [List.getD (M [List.getD r (0 : Nat) (0 : BitVec (64 : Nat)), List.getD r (1 : Nat) (0 : BitVec (64 : Nat)), List.getD r (2 : Nat) (0 : BitVec (64 : Nat)), List.getD r (3 : Nat) (0 : BitVec (64 : Nat))] [List.getD r (0 : Nat) (0 : BitVec (64 : Nat)), List.getD r (1 : Nat) (0 : BitVec (64 : Nat)), List.getD r (2 : Nat) (0 : BitVec (64 : Nat)), List.getD r (3 : Nat) (0 : BitVec (64 : Nat))]) (0 : Nat) (0 : BitVec (64 : Nat)), List.getD (M [List.getD r (0 : Nat) (0 : BitVec (64 : Nat)), List.getD r (1 : Nat) (0 : BitVec (64 : Nat)), List.getD r (2 : Nat) (0 : BitVec (64 : Nat)), List.getD r (3 : Nat) (0 : BitVec (64 : Nat))] [List.getD r (0 : Nat) (0 : BitVec (64 : Nat)), List.getD r (1 : Nat) (0 : BitVec (64 : Nat)), List.getD r (2 : Nat) (0 : BitVec (64 : Nat)), List.getD r (3 : Nat) (0 : BitVec (64 : Nat))]) (1 : Nat) (0 : BitVec (64 : Nat)), List.getD (M [List.getD r (0 : Nat) (0 : BitVec (64 : Nat)), List.getD r (1 : Nat) (0 : BitVec (64 : Nat)), List.getD r (2 : Nat) (0 : BitVec (64 : Nat)), List.getD r (3 : Nat) (0 : BitVec (64 : Nat))] [List.getD r (0 : Nat) (0 : BitVec (64 : Nat)), List.getD r (1 : Nat) (0 : BitVec (64 : Nat)), List.getD r (2 : Nat) (0 : BitVec (64 : Nat)), List.getD r (3 : Nat) (0 : BitVec (64 : Nat))]) (2 : Nat) (0 : BitVec (64 : Nat)), List.getD (M [List.getD r (0 : Nat) (0 : BitVec (64 : Nat)), List.getD r (1 : Nat) (0 : BitVec (64 : Nat)), List.getD r (2 : Nat) (0 : BitVec (64 : Nat)), List.getD r (3 : Nat) (0 : BitVec (64 : Nat))] [List.getD r (0 : Nat) (0 : BitVec (64 : Nat)), List.getD r (1 : Nat) (0 : BitVec (64 : Nat)), List.getD r (2 : Nat) (0 : BitVec (64 : Nat)), List.getD r (3 : Nat) (0 : BitVec (64 : Nat))]) (3 : Nat) (0 : BitVec (64 : Nat))] [List.getD (C (-List.getD l j (0 : BitVec (64 : Nat))) [List.getD (Z (BitVec.ofInt (32 : Nat) (1 : Int))) (0 : Nat) (0 : BitVec (64 : Nat)), List.getD (Z (BitVec.ofInt (32 : Nat) (1 : Int))) (1 : Nat) (0 : BitVec (64 : Nat)), List.getD (Z (BitVec.ofInt (32 : Nat) (1 : Int))) (2 : Nat) (0 : BitVec (64 : Nat)), List.getD (Z (BitVec.ofInt (32 : Nat) (1 : Int))) (3 : Nat) (0 : BitVec (64 : Nat))] [List.getD a (0 : Nat) (0 : BitVec (64 : Nat)), List.getD a (1 : Nat) (0 : BitVec (64 : Nat)), List.getD a (2 : Nat) (0 : BitVec (64 : Nat)), List.getD a (3 : Nat) (0 : BitVec (64 : Nat))]) (0 : Nat) (0 : BitVec (64 : Nat)), List.getD (C (-List.getD l j (0 : BitVec (64 : Nat))) [List.getD (Z (BitVec.ofInt (32 : Nat) (1 : Int))) (0 : Nat) (0 : BitVec (64 : Nat)), List.getD (Z (BitVec.ofInt (32 : Nat) (1 : Int))) (1 : Nat) (0 : BitVec (64 : Nat)), List.getD (Z (BitVec.ofInt (32 : Nat) (1 : Int))) (2 : Nat) (0 : BitVec (64 : Nat)), List.getD (Z (BitVec.ofInt (32 : Nat) (1 : Int))) (3 : Nat) (0 : BitVec (64 : Nat))] [List.getD a (0 : Nat) (0 : BitVec (64 : Nat)), List.getD a (1 : Nat) (0 : BitVec (64 : Nat)), List.getD a (2 : Nat) (0 : BitVec (64 : Nat)), List.getD a (3 : Nat) (0 : BitVec (64 : Nat))]) (1 : Nat) (0 : BitVec (64 : Nat)), List.getD (C (-List.getD l j (0 : BitVec (64 : Nat))) [List.getD (Z (BitVec.ofInt (32 : Nat) (1 : Int))) (0 : Nat) (0 : BitVec (64 : Nat)), List.getD (Z (BitVec.ofInt (32 : Nat) (1 : Int))) (1 : Nat) (0 : BitVec (64 : Nat)), List.getD (Z (BitVec.ofInt (32 : Nat) (1 : Int))) (2 : Nat) (0 : BitVec (64 : Nat)), List.getD (Z (BitVec.ofInt (32 : Nat) (1 : Int))) (3 : Nat) (0 : BitVec (64 : Nat))] [List.getD a (0 : Nat) (0 : BitVec (64 : Nat)), List.getD a (1 : Nat) (0 : BitVec (64 : Nat)), List.getD a (2 : Nat) (0 : BitVec (64 : Nat)), List.getD a (3 : Nat) (0 : BitVec (64 : Nat))]) (2 : Nat) (0 : BitVec (64 : Nat)), List.getD (C (-List.getD l j (0 : BitVec (64 : Nat))) [List.getD (Z (BitVec.ofInt (32 : Nat) (1 : Int))) (0 : Nat) (0 : BitVec (64 : Nat)), List.getD (Z (BitVec.ofInt (32 : Nat) (1 : Int))) (1 : Nat) (0 : BitVec (64 : Nat)), List.getD (Z (BitVec.ofInt (32 : Nat) (1 : Int))) (2 : Nat) (0 : BitVec (64 : Nat)), List.getD (Z (BitVec.ofInt (32 : Nat) (1 : Int))) (3 : Nat) (0 : BitVec (64 : Nat))] [List.getD a (0 : Nat) (0 : BitVec (64 : Nat)), List.getD a (1 : Nat) (0 : BitVec (64 : Nat)), List.getD a (2 : Nat) (0 : BitVec (64 : Nat)), List.getD a (3 : Nat) (0 : BitVec (64 : Nat))]) (3 : Nat) (0 : BitVec (64 : Nat))])) = Cont.a64 (w4 x)) ∧ True else False else False else False else (0 : Nat) = (0 : Nat) ∧ SV.ptr (6 : Nat) (0 : Nat) = SV.ptr (6 : Nat) (0 : Nat) ∧ SV.ptr (7 : Nat) (0 : Nat) = SV.ptr (7 : Nat) (0 : Nat) ∧ SV.ptr (8 : Nat) (0 : Nat) = SV.ptr (8 : Nat) (0 : Nat) ∧ (false = false ∧ Cont.a64 BEG = Cont.a64 BEG) ∧ (false = false ∧ Cont.a64 PRI = Cont.a64 PRI) ∧ (false = false ∧ Cont.a64 CON = Cont.a64 CON) ∧ (false = false ∧ Cont.a64 WHO = Cont.a64 WHO) ∧ (false = false ∧ Cont.a64 ROM = Cont.a64 ROM) ∧ (false = false ∧ Cont.a64 l = Cont.a64 l) ∧ (true = true ∧ Cont.a64 (w4 a) = Cont.a64 (w4 a)) ∧ (true = true ∧ Cont.a64 (List.replicate (4 : Nat) (0 : BitVec (64 : Nat))) = Cont.a64 (List.replicate (4 : Nat) (0 : BitVec (64 : Nat)))) ∧ (true = true ∧ Cont.a64 (w4 r) = Cont.a64 (w4 z)) ∧ True) := by kernel_rfl
/-- A power: squared for each bit, and multiplied where it is 1. -/
def pwN (M : W6 → W6 → W6) (C : B6 → W6 → W6 → W6) (Z : BitVec 32 → W6) (l a r : W6) : Nat → W6
  | 0 => r
  | j + 1 => M (w4 (M (w4 (pwN M C Z l a r j)) (w4 (pwN M C Z l a r j)))) (w4 (C (-(l.getD j 0)) (w4 (Z 1)) (w4 a)))
theorem loopP (M : W6 → W6 → W6) (O : W6 → W6) (C : B6 → W6 → W6 → W6) (Z : BitVec 32 → W6) (hE : EnvOk Tryd.prog (EP M O C Z)) (l a r : W6) (len cap : Nat) (hl : len ≤ l.length) (hn : len ≤ 1000) : ∀ fr Mm K, vLoop (B5 l) 27 (iP len cap 0) (MP l a r) oP (MP l a (pwN M C Z l a r len)) fr Mm K → Wp Tryd.prog GE (B5 l) (loopOf Tryd.prog 69 0) fr Mm K := by
  refine loop_next hE mixed (noL_ok _ _ _ _) (by show 5 ≤ 6; omega) (by kernel_rfl) (iP len cap) (fun j => MP l a (pwN M C Z l a r j)) (fun j => j ≤ len) (fun j => len - j) (fun j => j + 1) 0 (Nat.zero_le _) (fun j hj => of_eq (vrP M O C Z l a (pwN M C Z l a r j) (pwN M C Z l a r (j + 1)) (pwN M C Z l a r len) len cap j _) ?_)
  have hnext : pwN M C Z l a r (j + 1) = M (w4 (M (w4 (pwN M C Z l a r j)) (w4 (pwN M C Z l a r j)))) (w4 (C (-(l.getD j 0)) (w4 (Z 1)) (w4 a))) := rfl
  have hfin : j = len → pwN M C Z l a r j = pwN M C Z l a r len := fun e => by rw [e]
  rw [hnext]
  generalize pwN M C Z l a r len = z at hfin
  generalize pwN M C Z l a r j = x at hfin
  cases hq : ilt (j : Int) (len : Int)
  · have hj2 : j = len := by rw [ilt_eq] at hq; have := of_decide_eq_false hq; omega
    exact ⟨rfl, rfl, rfl, rfl, ⟨rfl, rfl⟩, ⟨rfl, rfl⟩, ⟨rfl, rfl⟩, ⟨rfl, rfl⟩, ⟨rfl, rfl⟩, ⟨rfl, rfl⟩, ⟨rfl, rfl⟩, ⟨rfl, rfl⟩, ⟨rfl, congrArg (fun x => Cont.a64 (w4 x)) (hfin hj2)⟩, trivial⟩
  · have hj2 : j < len := by rw [ilt_eq] at hq; have := of_decide_eq_true hq; omega
    have i1 : inR (j : Int) len = true := inR_iff.2 ⟨by omega, by omega⟩
    have i2 : Nat.blt j l.length = true := by simpa [Nat.blt_eq] using (show j < l.length by omega)
    exact bif_of i1 (bif_of i2 (bif_of (inI_iff.2 (by omega)) ⟨⟨by omega, by omega⟩, rfl, rfl, rfl, rfl, rfl, rfl, ⟨rfl, rfl⟩, ⟨rfl, rfl⟩, ⟨rfl, rfl⟩, ⟨rfl, rfl⟩, ⟨rfl, rfl⟩, ⟨rfl, rfl⟩, ⟨rfl, rfl⟩, ⟨rfl, rfl⟩, ⟨rfl, rfl⟩, trivial⟩))
def cPw (P : W6 → W6 → W6) : List SV → List Cont → Option (Bool × SV)
  | [.a64 [a, b, c, d], .sl k off len cap], [_, .a64 l] => some (Nat.beq off 0 && (Nat.beq len l.length && Nat.ble len 1000), .a64 (w4 (P [a, b, c, d] l)))
  | _, _ => none
def pwW (M : W6 → W6 → W6) (O : W6 → W6) (C : B6 → W6 → W6 → W6) (Z : BitVec 32 → W6) (a l : W6) : W6 := pwN M C Z l a (O a) l.length
theorem power_gen (M : W6 → W6 → W6) (O : W6 → W6) (C : B6 → W6 → W6 → W6) (Z : BitVec 32 → W6) (hE : EnvOk Tryd.prog (EP M O C Z)) : POk Tryd.prog GE 69 (cPw (pwW M O C Z)) := by
  intro args acs r hh β M' w hR hw ha
  unfold cPw at hh
  split at hh
  · rename_i a b c d k off len cap x l
    simp only [Option.some.injEq, Prod.mk.injEq, Bool.and_eq_true] at hh
    obtain ⟨⟨h1, h2, h3⟩, rfl⟩ := hh
    obtain rfl := Nat.eq_of_beq_eq_true h1
    obtain rfl := Nat.eq_of_beq_eq_true h2
    have h3 := Nat.le_of_ble_eq_true h3
    simp only [List.map_cons, List.map_nil, List.cons.injEq, and_true] at ha
    refine pure1 (args0 := [.a64 [a, b, c, d], .sl 5 0 l.length cap]) (c := .a64 l) (k := k) (vf_ok (M := B5 l) hE mixed (LT.add_ok (noL_ok _ _ _ _) (loopP M O C Z hE l [a, b, c, d] (O [a, b, c, d]) l.length cap (Nat.le_refl _) h3)) (of_eq (vaP M O C Z l [a, b, c, d] (O [a, b, c, d]) (pwW M O C Z [a, b, c, d] l) l.length cap _) ?_)) rfl rfl rfl rfl rfl (fun _ => rfl) hR (tgt_some ha.2.symm rfl)
    exact ⟨rfl, rfl, rfl, rfl, rfl, rfl, rfl, ⟨rfl, rfl⟩, ⟨rfl, rfl⟩, ⟨rfl, rfl⟩, ⟨rfl, rfl⟩, ⟨rfl, rfl⟩, ⟨rfl, rfl⟩, ⟨rfl, rfl⟩, ⟨rfl, rfl⟩, ⟨rfl, rfl⟩, rfl⟩
  · cases hh
abbrev pwX : W6 → W6 → W6 := pwW tmX (onW joX) pkW zX
theorem power_ok : POk Tryd.prog GE 69 (cPw pwX) := power_gen tmX (onW joX) pkW zX ep_ok
def EI (P : W6 → W6 → W6) (M S : W6 → W6 → W6) (L : W6 → W6 → B6) (O : W6 → B6) (Q : Bool → B6) (C : B6 → W6 → W6 → W6) (R : W6 → W6 → B6) : Env := ⟨GE, (((((((noT.add 69 (cPw P)).add 36 (ct2 M)).add 57 (ct2 S)).add 62 (cAl L)).add 71 (cLo O)).add 81 (cMk Q)).add 79 (cPk C)).add 80 (cAl R), noC⟩
section
variable (P M S : W6 → W6 → W6) (L : W6 → W6 → B6) (O : W6 → B6) (Q : Bool → B6) (C : B6 → W6 → W6 → W6) (R : W6 → W6 → B6)
def i6 (n : Int) : B6 := BitVec.ofInt 64 n
theorem inv_e (a : W6) : vf Tryd.prog (EI P M S L O Q C R) noL 46 [.a64 (w4 a)] GE (fun r _ => r = .a64 (w4 (P (w4 a) [i6 0, i6 1, i6 0, i6 1, i6 1]))) = (SV.a64 (w4 (P (w4 a) [i6 0, i6 1, i6 0, i6 1, i6 1])) = SV.a64 (w4 (P (w4 a) [i6 0, i6 1, i6 0, i6 1, i6 1]))) := by kernel_rfl
theorem square_e (r a : W6) : vf Tryd.prog (EI P M S L O Q C R) noL 80 [.a64 (w4 r), .a64 (w4 a)] GE (fun x _ => x = .w64 (L (w4 (M (w4 r) (w4 r))) (w4 a))) = (SV.w64 (L (w4 (M (w4 r) (w4 r))) (w4 a)) = SV.w64 (L (w4 (M (w4 r) (w4 r))) (w4 a))) := by kernel_rfl
/-- The root that is odd, or the one that is not, and whether there is one. -/
def roR (P M S : W6 → W6 → W6) (O : W6 → B6) (Q : Bool → B6) (C : B6 → W6 → W6 → W6) (R : W6 → W6 → B6) (a : W6) (odd : Bool) : W6 :=
  let r := w4 (P a [i6 1, i6 0])
  let r := w4 (C (R r a) (w4 (M r ROM)) r)
  w4 (C (O r ^^^ Q odd) r (w4 (S [0, 0, 0, 0] r)))
def roI (P M S : W6 → W6 → W6) (O : W6 → B6) (Q : Bool → B6) (C : B6 → W6 → W6 → W6) (R : W6 → W6 → B6) (a : W6) (odd : Bool) : B6 := R (roR P M S O Q C R a odd) a &&& ~~~(O (roR P M S O Q C R a odd) ^^^ Q odd)
def roT (P M S : W6 → W6 → W6) (O : W6 → B6) (Q : Bool → B6) (C : B6 → W6 → W6 → W6) (R : W6 → W6 → B6) (a : W6) (odd : Bool) : SV := .tup [.a64 (w4 (C (roI P M S O Q C R a odd) [0, 0, 0, 0] (roR P M S O Q C R a odd))), .b (roI P M S O Q C R a odd != BitVec.ofInt 64 0)]
theorem root_e (a : W6) (odd : Bool) : vf Tryd.prog (EI P M S L O Q C R) noL 59 [.a64 (w4 a), .b odd] GE (fun x _ => x = roT P M S O Q C R (w4 a) odd) = (roT P M S O Q C R (w4 a) odd = roT P M S O Q C R (w4 a) odd) := by kernel_rfl
end
end Go.Proofs.YtdfghknonbmadaaDoor
