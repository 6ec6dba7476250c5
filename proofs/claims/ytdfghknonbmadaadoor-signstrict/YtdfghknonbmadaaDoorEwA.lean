/-
  edw: points as rows of words. No statement is proved here.
-/
import Derived.Test.YtdfghknonbmadaaDoorVcU
import Derived.Laws.Externs
namespace Go.Proofs.YtdfghknonbmadaaDoor
open Go.RowKit
set_option linter.unusedVariables false
set_option linter.unusedSimpArgs false
set_option maxRecDepth 100000

abbrev W6 := List (BitVec 64)
def PRI : W6 := [18446744073709551597, 18446744073709551615, 18446744073709551615, 9223372036854775807]
def ROM : W6 := [0xc4ee1b274a0ea0b0, 0x2f431806ad2fe478, 0x2b4d00993dfbd7a7, 0x2b8324804fc1df0b]
/-- The laid variables in their order: sha.begin, num.prime, sha.constants, order.whole, num.rootOfMinusOne. -/
def BEG : W6 := [0x6a09e667f3bcc908, 0xbb67ae8584caa73b, 0x3c6ef372fe94f82b, 0xa54ff53a5f1d36f1, 0x510e527fade682d1, 0x9b05688c2b3e6c1f, 0x1f83d9abfb41bd6b, 0x5be0cd19137e2179]
def CON : W6 := [0x428a2f98d728ae22, 0x7137449123ef65cd, 0xb5c0fbcfec4d3b2f, 0xe9b5dba58189dbbc, 0x3956c25bf348b538, 0x59f111f1b605d019, 0x923f82a4af194f9b, 0xab1c5ed5da6d8118, 0xd807aa98a3030242, 0x12835b0145706fbe, 0x243185be4ee4b28c, 0x550c7dc3d5ffb4e2, 0x72be5d74f27b896f, 0x80deb1fe3b1696b1, 0x9bdc06a725c71235, 0xc19bf174cf692694, 0xe49b69c19ef14ad2, 0xefbe4786384f25e3, 0x0fc19dc68b8cd5b5, 0x240ca1cc77ac9c65, 0x2de92c6f592b0275, 0x4a7484aa6ea6e483, 0x5cb0a9dcbd41fbd4, 0x76f988da831153b5, 0x983e5152ee66dfab, 0xa831c66d2db43210, 0xb00327c898fb213f, 0xbf597fc7beef0ee4, 0xc6e00bf33da88fc2, 0xd5a79147930aa725, 0x06ca6351e003826f, 0x142929670a0e6e70, 0x27b70a8546d22ffc, 0x2e1b21385c26c926, 0x4d2c6dfc5ac42aed, 0x53380d139d95b3df, 0x650a73548baf63de, 0x766a0abb3c77b2a8, 0x81c2c92e47edaee6, 0x92722c851482353b, 0xa2bfe8a14cf10364, 0xa81a664bbc423001, 0xc24b8b70d0f89791, 0xc76c51a30654be30, 0xd192e819d6ef5218, 0xd69906245565a910, 0xf40e35855771202a, 0x106aa07032bbd1b8, 0x19a4c116b8d2d0c8, 0x1e376c085141ab53, 0x2748774cdf8eeb99, 0x34b0bcb5e19b48a8, 0x391c0cb3c5c95a63, 0x4ed8aa4ae3418acb, 0x5b9cca4f7763e373, 0x682e6ff3d6b2b8a3, 0x748f82ee5defb2fc, 0x78a5636f43172f60, 0x84c87814a1f0ab72, 0x8cc702081a6439ec, 0x90befffa23631e28, 0xa4506cebde82bde9, 0xbef9a3f7b2c67915, 0xc67178f2e372532b, 0xca273eceea26619c, 0xd186b8c721c0c207, 0xeada7dd6cde0eb1e, 0xf57d4f7fee6ed178, 0x06f067aa72176fba, 0x0a637dc5a2c898a6, 0x113f9804bef90dae, 0x1b710b35131c471b, 0x28db77f523047d84, 0x32caab7b40c72493, 0x3c9ebe0a15c9bebc, 0x431d67c49c100d4c, 0x4cc5d4becb3e42b6, 0x597f299cfc657e2a, 0x5fcb6fab3ad6faec, 0x6c44198c4a475817]
def WHO : W6 := [0x5812631a5cf5d3ed, 0x14def9dea2f79cd6, 0, 0x1000000000000000]
def GE : Mm := [⟨false, .a64 BEG⟩, ⟨false, .a64 PRI⟩, ⟨false, .a64 CON⟩, ⟨false, .a64 WHO⟩, ⟨false, .a64 ROM⟩]
/-- Four words. -/
def w4 (l : W6) : W6 := [l.getD 0 0, l.getD 1 0, l.getD 2 0, l.getD 3 0]
/-- Four elements. -/
def p4 (x y z t : W6) : W6 := w4 x ++ (w4 y ++ (w4 z ++ w4 t))
def ct2 (M : W6 → W6 → W6) : List SV → List Cont → Option (Bool × SV)
  | [.a64 [a, b, c, d], .a64 [e, f, g, h]], _ => some (true, .a64 (w4 (M [a, b, c, d] [e, f, g, h])))
  | _, _ => none
def ct2b (M : W6 → W6 → Bool) : List SV → List Cont → Option (Bool × SV)
  | [.a64 [a, b, c, d], .a64 [e, f, g, h]], _ => some (true, .b (M [a, b, c, d] [e, f, g, h]))
  | _, _ => none
def ct1 (M : W6 → W6) : List SV → List Cont → Option (Bool × SV)
  | [.a64 [a, b, c, d]], _ => some (true, .a64 (w4 (M [a, b, c, d])))
  | _, _ => none
def ctS (S : BitVec 32 → W6) : List SV → List Cont → Option (Bool × SV)
  | [.w32 n], _ => some (true, .a64 (w4 (S n)))
  | _, _ => none
def ctK (K : List (BitVec 8) → W6) : List SV → List Cont → Option (Bool × SV)
  | [.s l], _ => some (Nat.beq l.length 32, .a64 (w4 (K l)))
  | _, _ => none
structure Nm where
  A : W6 → W6 → W6
  S : W6 → W6 → W6
  M : W6 → W6 → W6
  E : W6 → W6 → Bool
  I : W6 → W6
  N : BitVec 32 → W6
  K : List (BitVec 8) → W6
def Ee (A S M : W6 → W6 → W6) (E : W6 → W6 → Bool) (I : W6 → W6) (SM : BitVec 32 → W6) (K : List (BitVec 8) → W6) : Env := ⟨GE, ((((((noT.add 58 (ct2 A)).add 57 (ct2 S)).add 36 (ct2 M)).add 37 (ct2b E)).add 46 (ct1 I)).add 56 (ctS SM)).add 29 (ctK K), noC⟩
def jnW (M : W6 → W6 → W6) (e f g h : W6) : W6 := p4 (M (w4 e) (w4 f)) (M (w4 g) (w4 h)) (M (w4 f) (w4 g)) (M (w4 e) (w4 h))
theorem join_eq (A S M : W6 → W6 → W6) (E : W6 → W6 → Bool) (I : W6 → W6) (SM : BitVec 32 → W6) (K : List (BitVec 8) → W6) (e f g h : W6) : vf Tryd.prog (Ee A S M E I SM K) noL 63 [.a64 (w4 e), .a64 (w4 f), .a64 (w4 g), .a64 (w4 h)] GE (fun r _ => r = .a64 (jnW M e f g h)) = (SV.a64 (jnW M e f g h) = SV.a64 (jnW M e f g h)) := by kernel_rfl
def ctJ (J : W6 → W6 → W6 → W6 → W6) : List SV → List Cont → Option (Bool × SV)
  | [.a64 [a, b, c, d], .a64 [e, f, g, h], .a64 [i, j, k, l], .a64 [m, n, o, p]], _ => some (true, .a64 (J [a, b, c, d] [e, f, g, h] [i, j, k, l] [m, n, o, p]))
  | _, _ => none
def Ej (A S M : W6 → W6 → W6) (E : W6 → W6 → Bool) (I : W6 → W6) (SM : BitVec 32 → W6) (K : List (BitVec 8) → W6) : Env := ⟨GE, (Ee A S M E I SM K).T.add 63 (ctJ (jnW M)), noC⟩
def plW (A S M : W6 → W6 → W6) (x y z t m n o q : W6) : W6 :=
  let a := M (w4 (S (w4 y) (w4 x))) (w4 n)
  let b := M (w4 (A (w4 y) (w4 x))) (w4 m)
  let c := M (w4 t) (w4 q)
  let d := M (w4 z) (w4 o)
  jnW M (S (w4 b) (w4 a)) (S (w4 d) (w4 c)) (A (w4 d) (w4 c)) (A (w4 b) (w4 a))
theorem plus_eq (A S M : W6 → W6 → W6) (E : W6 → W6 → Bool) (I : W6 → W6) (SM : BitVec 32 → W6) (K : List (BitVec 8) → W6) (x y z t m n o q : W6) : vf Tryd.prog (Ej A S M E I SM K) noL 38 [.a64 (p4 x y z t), .a64 (p4 m n o q)] GE (fun r _ => r = .a64 (plW A S M x y z t m n o q)) = (SV.a64 (plW A S M x y z t m n o q) = SV.a64 (plW A S M x y z t m n o q)) := by kernel_rfl
end Go.Proofs.YtdfghknonbmadaaDoor
namespace Go.Proofs.YtdfghknonbmadaaDoor
open Go.RowKit
set_option linter.unusedVariables false
set_option linter.unusedSimpArgs false
set_option maxRecDepth 100000

abbrev B6 := BitVec 64
/-- A carry: nought or one. -/
def lc (c : B6) : Bool := Nat.ble c.toNat 1
def adS (x y c : B6) : B6 := BitVec.ofNat 64 (x.toNat + y.toNat + c.toNat)
def adC (x y c : B6) : B6 := BitVec.ofNat 64 ((x.toNat + y.toNat + c.toNat) / 18446744073709551616)
def sbS (x y b : B6) : B6 := BitVec.ofNat 64 (x.toNat + 18446744073709551616 - y.toNat - b.toNat)
def sbC (x y b : B6) : B6 := if x.toNat < y.toNat + b.toNat then 1 else 0
def cAd (S C : B6 → B6 → B6 → B6) : List SV → List Cont → Option (Bool × SV)
  | [.w64 x, .w64 y, .w64 c], _ => some (lc c, .tup [.w64 (S x y c), .w64 (C x y c)])
  | _, _ => none
theorem lc_ad (x y c : B6) (h : lc c = true) : lc (adC x y c) = true := by
  have h := Nat.le_of_ble_eq_true h
  refine Nat.ble_eq_true_of_le ?_
  unfold adC
  rw [BitVec.toNat_ofNat]
  have := x.isLt
  have := y.isLt
  omega
theorem lc_sb (x y c : B6) : lc (sbC x y c) = true := by unfold sbC lc; split <;> rfl
theorem add64_ok : POk Tryd.prog GE 85 (cAd adS adC) := by
  intro args acs r h β M w hR hw ha
  unfold cAd at h
  split at h
  · rename_i x y c
    simp only [Option.some.injEq, Prod.mk.injEq] at h
    obtain ⟨h1, rfl⟩ := h
    have h1 := Nat.le_of_ble_eq_true h1
    refine .inl ⟨_, w, ?_, rfl, Fp.refl _ w⟩
    rw [run_callFunc_extern Tryd.func85 (by kernel_rfl) (by kernel_rfl) (by kernel_rfl) (e := add64Entry) (by kernel_rfl)]
    have hx := x.isLt
    have hy := y.isLt
    show ((add64Entry #[.int .u64 (x.toNat : Nat), .int .u64 (y.toNat : Nat), .int .u64 (c.toNat : Nat)]).run Tryd.prog w).andThen _ = _
    rw [run_add64 x.toNat y.toNat c.toNat (by omega) (by omega) (by omega) (by omega)]
    have e1 : (((x.toNat : Nat) : Int) + (y.toNat : Nat) + (c.toNat : Nat)) % 18446744073709551616 = (((adS x y c).toNat : Nat) : Int) := by unfold adS; rw [BitVec.toNat_ofNat]; omega
    have e2 : (((x.toNat : Nat) : Int) + (y.toNat : Nat) + (c.toNat : Nat)) / 18446744073709551616 = (((adC x y c).toNat : Nat) : Int) := by unfold adC; rw [BitVec.toNat_ofNat]; omega
    rw [e1, e2]
    rfl
  · cases h
def subE : Array Value → Sem Value := fun args => do
  let (x, y, b) ← Extern.MathBitsCarry.three "Sub64" args
  pure (Extern.MathBitsCarry.pair ((x + Extern.MathBitsCarry.m64 - y - b) % Extern.MathBitsCarry.m64) (if x < y + b then 1 else 0))
theorem sub64_run (x y b : Nat) (hb : b ≤ 1) (w : World) : (subE #[.int .u64 (x : Nat), .int .u64 (y : Nat), .int .u64 (b : Nat)]).run Tryd.prog w = .ok (.tuple #[.int .u64 (((x + 18446744073709551616 - y - b) % 18446744073709551616 : Nat) : Int), .int .u64 ((if x < y + b then 1 else 0 : Nat) : Int)]) w := by
  have : b = 0 ∨ b = 1 := by omega
  rcases this with rfl | rfl <;> rfl
theorem sub64_ok : POk Tryd.prog GE 74 (cAd sbS sbC) := by
  intro args acs r h β M w hR hw ha
  unfold cAd at h
  split at h
  · rename_i x y c
    simp only [Option.some.injEq, Prod.mk.injEq] at h
    obtain ⟨h1, rfl⟩ := h
    have h1 := Nat.le_of_ble_eq_true h1
    refine .inl ⟨_, w, ?_, rfl, Fp.refl _ w⟩
    rw [run_callFunc_extern Tryd.func74 (by kernel_rfl) (by kernel_rfl) (by kernel_rfl) (e := subE) (by kernel_rfl)]
    show ((subE #[.int .u64 (x.toNat : Nat), .int .u64 (y.toNat : Nat), .int .u64 (c.toNat : Nat)]).run Tryd.prog w).andThen _ = _
    rw [sub64_run x.toNat y.toNat c.toNat h1 w]
    have e1 : (x.toNat + 18446744073709551616 - y.toNat - c.toNat) % 18446744073709551616 = (sbS x y c).toNat := by unfold sbS; rw [BitVec.toNat_ofNat]
    have e2 : (if x.toNat < y.toNat + c.toNat then 1 else 0 : Nat) = (sbC x y c).toNat := by unfold sbC; split <;> rfl
    rw [e1, e2]
    rfl
  · cases h
end Go.Proofs.YtdfghknonbmadaaDoor
namespace Go.Proofs.YtdfghknonbmadaaDoor
open Go.RowKit
set_option linter.unusedVariables false
set_option linter.unusedSimpArgs false
set_option maxRecDepth 100000

abbrev T3 := B6 → B6 → B6 → B6
def z6 : B6 := BitVec.ofInt 64 0
def EN (S C D F : T3) : Env := ⟨GE, (noT.add 85 (cAd S C)).add 74 (cAd D F), noC⟩
theorem en_ok : EnvOk Tryd.prog (EN adS adC sbS sbC) := ⟨PT.add_ok (PT.add_ok (noT_ok _ _) add64_ok) sub64_ok, noC_ok _ _⟩
/-- The carries. -/
def plC (C : T3) (a b : W6) : Nat → B6
  | 0 => z6
  | i + 1 => C (a.getD i 0) (b.getD i 0) (plC C a b i)
def plS (S C : T3) (a b : W6) : W6 := [S (a.getD 0 0) (b.getD 0 0) (plC C a b 0), S (a.getD 1 0) (b.getD 1 0) (plC C a b 1), S (a.getD 2 0) (b.getD 2 0) (plC C a b 2), S (a.getD 3 0) (b.getD 3 0) (plC C a b 3)]
theorem plus_e (S C D F : T3) (a b : W6) : vf Tryd.prog (EN S C D F) noL 76 [.a64 (w4 a), .a64 (w4 b)] GE (fun r _ => r = .a64 (plS S C (w4 a) (w4 b))) = (bif lc (plC C (w4 a) (w4 b) 1) then bif lc (plC C (w4 a) (w4 b) 2) then bif lc (plC C (w4 a) (w4 b) 3) then SV.a64 (plS S C (w4 a) (w4 b)) = SV.a64 (plS S C (w4 a) (w4 b)) else False else False else False) := by kernel_rfl
theorem minus_e (S C D F : T3) (a b : W6) : vf Tryd.prog (EN S C D F) noL 53 [.a64 (w4 a), .a64 (w4 b)] GE (fun r _ => r = .tup [.a64 (plS D F (w4 a) (w4 b)), .w64 (plC F (w4 a) (w4 b) 4)]) = (bif lc (plC F (w4 a) (w4 b) 1) then bif lc (plC F (w4 a) (w4 b) 2) then bif lc (plC F (w4 a) (w4 b) 3) then SV.tup [.a64 (plS D F (w4 a) (w4 b)), .w64 (plC F (w4 a) (w4 b) 4)] = SV.tup [.a64 (plS D F (w4 a) (w4 b)), .w64 (plC F (w4 a) (w4 b) 4)] else False else False else False) := by kernel_rfl
def pkW (m : B6) (a b : W6) : W6 := [a.getD 0 0 ^^^ m &&& (a.getD 0 0 ^^^ b.getD 0 0), a.getD 1 0 ^^^ m &&& (a.getD 1 0 ^^^ b.getD 1 0), a.getD 2 0 ^^^ m &&& (a.getD 2 0 ^^^ b.getD 2 0), a.getD 3 0 ^^^ m &&& (a.getD 3 0 ^^^ b.getD 3 0)]
theorem pick_e (S C D F : T3) (m : B6) (a b : W6) : vf Tryd.prog (EN S C D F) noL 77 [.w64 m, .a64 (w4 a), .a64 (w4 b)] GE (fun r _ => r = .a64 (pkW m (w4 a) (w4 b))) = (SV.a64 (pkW m (w4 a) (w4 b)) = SV.a64 (pkW m (w4 a) (w4 b))) := by kernel_rfl
def hiK (x y : B6) : B6 := x >>> 32 * y >>> 32 + (x >>> 32 * (y &&& BitVec.ofInt 64 4294967295) + ((x &&& BitVec.ofInt 64 4294967295) * (y &&& BitVec.ofInt 64 4294967295)) >>> 32) >>> 32 + ((x >>> 32 * (y &&& BitVec.ofInt 64 4294967295) + ((x &&& BitVec.ofInt 64 4294967295) * (y &&& BitVec.ofInt 64 4294967295)) >>> 32 &&& BitVec.ofInt 64 4294967295) + (x &&& BitVec.ofInt 64 4294967295) * y >>> 32) >>> 32
theorem mul64_e (S C D F : T3) (x y : B6) : vf Tryd.prog (EN S C D F) noL 84 [.w64 x, .w64 y] GE (fun r _ => r = .tup [.w64 (hiK x y), .w64 (x * y)]) = (SV.tup [.w64 (hiK x y), .w64 (x * y)] = SV.tup [.w64 (hiK x y), .w64 (x * y)]) := by kernel_rfl
def alW (a b : W6) : B6 :=
  let d := a.getD 0 0 ^^^ b.getD 0 0 ||| a.getD 1 0 ^^^ b.getD 1 0 ||| a.getD 2 0 ^^^ b.getD 2 0 ||| a.getD 3 0 ^^^ b.getD 3 0
  (d ||| -d) >>> 63 - BitVec.ofInt 64 1
theorem alike_e (S C D F : T3) (a b : W6) : vf Tryd.prog (EN S C D F) noL 62 [.a64 (w4 a), .a64 (w4 b)] GE (fun r _ => r = .w64 (alW (w4 a) (w4 b))) = (SV.w64 (alW (w4 a) (w4 b)) = SV.w64 (alW (w4 a) (w4 b))) := by kernel_rfl
def cMl (H L : B6 → B6 → B6) : List SV → List Cont → Option (Bool × SV)
  | [.w64 x, .w64 y], _ => some (true, .tup [.w64 (H x y), .w64 (L x y)])
  | _, _ => none
def cMn (D F : T3) : List SV → List Cont → Option (Bool × SV)
  | [.a64 [a, b, c, d], .a64 [e, f, g, h]], _ => some (true, .tup [.a64 (plS D F [a, b, c, d] [e, f, g, h]), .w64 (plC F [a, b, c, d] [e, f, g, h] 4)])
  | _, _ => none
def cPk (P : B6 → W6 → W6 → W6) : List SV → List Cont → Option (Bool × SV)
  | [.w64 m, .a64 [a, b, c, d], .a64 [e, f, g, h]], _ => some (true, .a64 (w4 (P m [a, b, c, d] [e, f, g, h])))
  | _, _ => none
def EN1 (S C D F : T3) (H L : B6 → B6 → B6) (P : B6 → W6 → W6 → W6) : Env := ⟨GE, (((EN S C D F).T.add 84 (cMl H L)).add 53 (cMn D F)).add 77 (cPk P), noC⟩
def blW (D F : T3) (P : B6 → W6 → W6 → W6) (w : W6) : W6 := w4 (P (-(plC F (w4 w) PRI 4)) (plS D F (w4 w) PRI) (w4 w))
theorem below_e (S C D F : T3) (H L : B6 → B6 → B6) (P : B6 → W6 → W6 → W6) (w : W6) : vf Tryd.prog (EN1 S C D F H L P) noL 78 [.a64 (w4 w)] GE (fun r _ => r = .a64 (blW D F P w)) = (SV.a64 (blW D F P w) = SV.a64 (blW D F P w)) := by kernel_rfl
def stL (S : T3) (L : B6 → B6 → B6) (x y s c : B6) : B6 := S (S (L x y) s z6) c z6
def stH (S C : T3) (H L : B6 → B6 → B6) (x y s c : B6) : B6 := H x y + C (L x y) s z6 + C (S (L x y) s z6) c z6
theorem step_e (S C D F : T3) (H L : B6 → B6 → B6) (P : B6 → W6 → W6 → W6) (x y s c : B6) : vf Tryd.prog (EN1 S C D F H L P) noL 87 [.w64 x, .w64 y, .w64 s, .w64 c] GE (fun r _ => r = .tup [.w64 (stL S L x y s c), .w64 (stH S C H L x y s c)]) = (SV.tup [.w64 (stL S L x y s c), .w64 (stH S C H L x y s c)] = SV.tup [.w64 (stL S L x y s c), .w64 (stH S C H L x y s c)]) := by kernel_rfl
abbrev T4 := B6 → B6 → B6 → B6 → B6
def cSp (L H : T4) : List SV → List Cont → Option (Bool × SV)
  | [.w64 x, .w64 y, .w64 s, .w64 c], _ => some (true, .tup [.w64 (L x y s c), .w64 (H x y s c)])
  | _, _ => none
def cBl (B : W6 → W6) : List SV → List Cont → Option (Bool × SV)
  | [.a64 [a, b, c, d]], _ => some (true, .a64 (w4 (B [a, b, c, d])))
  | _, _ => none
def EN2 (S C : T3) (L H : T4) (B : W6 → W6) : Env := ⟨GE, (((noT.add 85 (cAd S C)).add 87 (cSp L H)).add 78 (cBl B)), noC⟩
/-- The carry of a row. -/
def rwC (H : T4) (x : B6) (b s : W6) : Nat → B6
  | 0 => z6
  | i + 1 => H x (b.getD i 0) (s.getD i 0) (rwC H x b s i)
def rwL (L H : T4) (x : B6) (b s : W6) : W6 := [L x (b.getD 0 0) (s.getD 0 0) (rwC H x b s 0), L x (b.getD 1 0) (s.getD 1 0) (rwC H x b s 1), L x (b.getD 2 0) (s.getD 2 0) (rwC H x b s 2), L x (b.getD 3 0) (s.getD 3 0) (rwC H x b s 3), rwC H x b s 4]
theorem row_e (S C : T3) (L H : T4) (B : W6 → W6) (x b0 b1 b2 b3 s0 s1 s2 s3 : B6) : vf Tryd.prog (EN2 S C L H B) noL 82 [.w64 x, .w64 b0, .w64 b1, .w64 b2, .w64 b3, .w64 s0, .w64 s1, .w64 s2, .w64 s3] GE (fun r _ => r = .tup ((rwL L H x [b0, b1, b2, b3] [s0, s1, s2, s3]).map .w64)) = (SV.tup ((rwL L H x [b0, b1, b2, b3] [s0, s1, s2, s3]).map .w64) = SV.tup ((rwL L H x [b0, b1, b2, b3] [s0, s1, s2, s3]).map .w64)) := by kernel_rfl
end Go.Proofs.YtdfghknonbmadaaDoor
namespace Go.Proofs.YtdfghknonbmadaaDoor
open Go.RowKit
set_option linter.unusedVariables false
set_option linter.unusedSimpArgs false
set_option maxRecDepth 100000

/-- What stands above the lowest 255 bits. -/
def ovr (w : W6) (t : B6) : B6 := BitVec.ofInt 64 19 * (t <<< 1 ||| w.getD 3 0 >>> 63)
def fdC (C : T3) (w : W6) (t : B6) : Nat → B6
  | 0 => z6
  | 1 => C (w.getD 0 0) (ovr w t) z6
  | i + 2 => C (w.getD (i + 1) 0) z6 (fdC C w t (i + 1))
def fdW (S C : T3) (B : W6 → W6) (w : W6) (t : B6) : W6 := w4 (B [S (w.getD 0 0) (ovr w t) z6, S (w.getD 1 0) z6 (fdC C w t 1), S (w.getD 2 0) z6 (fdC C w t 2), (w.getD 3 0 &&& BitVec.ofInt 64 9223372036854775807) + fdC C w t 3])
theorem fold_e (S C : T3) (L H : T4) (B : W6 → W6) (w : W6) (t : B6) : vf Tryd.prog (EN2 S C L H B) noL 75 [.a64 (w4 w), .w64 t] GE (fun r _ => r = .a64 (fdW S C B (w4 w) t)) = (bif lc (fdC C (w4 w) t 1) then bif lc (fdC C (w4 w) t 2) then SV.a64 (fdW S C B (w4 w) t) = SV.a64 (fdW S C B (w4 w) t) else False else False) := by kernel_rfl
def cRw (R : B6 → W6 → W6 → W6) : List SV → List Cont → Option (Bool × SV)
  | [.w64 x, .w64 b0, .w64 b1, .w64 b2, .w64 b3, .w64 s0, .w64 s1, .w64 s2, .w64 s3], _ => some (true, .tup [.w64 ((R x [b0, b1, b2, b3] [s0, s1, s2, s3]).getD 0 0), .w64 ((R x [b0, b1, b2, b3] [s0, s1, s2, s3]).getD 1 0), .w64 ((R x [b0, b1, b2, b3] [s0, s1, s2, s3]).getD 2 0), .w64 ((R x [b0, b1, b2, b3] [s0, s1, s2, s3]).getD 3 0), .w64 ((R x [b0, b1, b2, b3] [s0, s1, s2, s3]).getD 4 0)])
  | _, _ => none
def cFd (F : W6 → B6 → W6) : List SV → List Cont → Option (Bool × SV)
  | [.a64 [a, b, c, d], .w64 t], _ => some (true, .a64 (w4 (F [a, b, c, d] t)))
  | _, _ => none
def EN3 (R : B6 → W6 → W6 → W6) (F : W6 → B6 → W6) : Env := ⟨GE, (noT.add 82 (cRw R)).add 75 (cFd F), noC⟩
/-- The rows of a product: what the last left, its lowest word taken off. -/
def tmR (R : B6 → W6 → W6 → W6) (a b : W6) : Nat → W6
  | 0 => R (a.getD 0 0) b [z6, z6, z6, z6]
  | i + 1 => R (a.getD (i + 1) 0) b [(tmR R a b i).getD 1 0, (tmR R a b i).getD 2 0, (tmR R a b i).getD 3 0, (tmR R a b i).getD 4 0]
def tmL (R : B6 → W6 → W6 → W6) (a b : W6) : W6 := R (BitVec.ofInt 64 38) [(tmR R a b 3).getD 1 0, (tmR R a b 3).getD 2 0, (tmR R a b 3).getD 3 0, (tmR R a b 3).getD 4 0] [(tmR R a b 0).getD 0 0, (tmR R a b 1).getD 0 0, (tmR R a b 2).getD 0 0, (tmR R a b 3).getD 0 0]
def tmW (R : B6 → W6 → W6 → W6) (F : W6 → B6 → W6) (a b : W6) : W6 := w4 (F [(tmL R a b).getD 0 0, (tmL R a b).getD 1 0, (tmL R a b).getD 2 0, (tmL R a b).getD 3 0] ((tmL R a b).getD 4 0))
theorem times_e (R : B6 → W6 → W6 → W6) (F : W6 → B6 → W6) (a b : W6) : vf Tryd.prog (EN3 R F) noL 61 [.a64 (w4 a), .a64 (w4 b)] GE (fun r _ => r = .a64 (tmW R F (w4 a) (w4 b))) = (SV.a64 (tmW R F (w4 a) (w4 b)) = SV.a64 (tmW R F (w4 a) (w4 b))) := by kernel_rfl
def cMk (K : Bool → B6) : List SV → List Cont → Option (Bool × SV)
  | [.b b], _ => some (true, .w64 (K b))
  | _, _ => none
def cAl (L : W6 → W6 → B6) : List SV → List Cont → Option (Bool × SV)
  | [.a64 [a, b, c, d], .a64 [e, f, g, h]], _ => some (true, .w64 (L [a, b, c, d] [e, f, g, h]))
  | _, _ => none
def cLo (L : W6 → B6) : List SV → List Cont → Option (Bool × SV)
  | [.a64 [a, b, c, d]], _ => some (true, .w64 (L [a, b, c, d]))
  | _, _ => none
def EN4 (T P : W6 → W6 → W6) (D F : T3) (B : W6 → W6) (K : B6 → W6 → W6 → W6) (L : W6 → W6 → B6) (O : W6 → B6) (Q : Bool → B6) : Env := ⟨GE, (((((((noT.add 61 (ct2 T)).add 76 (ct2 P)).add 53 (cMn D F)).add 78 (cBl B)).add 77 (cPk K)).add 62 (cAl L)).add 71 (cLo O)).add 81 (cMk Q), noC⟩
section
variable (T P : W6 → W6 → W6) (D F : T3) (B : W6 → W6) (K : B6 → W6 → W6 → W6) (L : W6 → W6 → B6) (O : W6 → B6) (Q : Bool → B6) (a b : W6)
theorem mul_e : vf Tryd.prog (EN4 T P D F B K L O Q) noL 36 [.a64 (w4 a), .a64 (w4 b)] GE (fun r _ => r = .a64 (w4 (T (w4 a) (w4 b)))) = (SV.a64 (w4 (T (w4 a) (w4 b))) = SV.a64 (w4 (T (w4 a) (w4 b)))) := by kernel_rfl
theorem add_e : vf Tryd.prog (EN4 T P D F B K L O Q) noL 58 [.a64 (w4 a), .a64 (w4 b)] GE (fun r _ => r = .a64 (w4 (B (w4 (P (w4 a) (w4 b)))))) = (SV.a64 (w4 (B (w4 (P (w4 a) (w4 b))))) = SV.a64 (w4 (B (w4 (P (w4 a) (w4 b)))))) := by kernel_rfl
def sbW (P : W6 → W6 → W6) (D F : T3) (K : B6 → W6 → W6 → W6) (a b : W6) : W6 := w4 (P (plS D F (w4 a) (w4 b)) (w4 (K (-(plC F (w4 a) (w4 b) 4)) [0, 0, 0, 0] PRI)))
theorem sub_e : vf Tryd.prog (EN4 T P D F B K L O Q) noL 57 [.a64 (w4 a), .a64 (w4 b)] GE (fun r _ => r = .a64 (sbW P D F K a b)) = (SV.a64 (sbW P D F K a b) = SV.a64 (sbW P D F K a b)) := by kernel_rfl
theorem same_e : vf Tryd.prog (EN4 T P D F B K L O Q) noL 37 [.a64 (w4 a), .a64 (w4 b)] GE (fun r _ => r = .b (L (w4 a) (w4 b) != BitVec.ofInt 64 0)) = (SV.b (L (w4 a) (w4 b) != BitVec.ofInt 64 0) = SV.b (L (w4 a) (w4 b) != BitVec.ofInt 64 0)) := by kernel_rfl
theorem odd_e : vf Tryd.prog (EN4 T P D F B K L O Q) noL 48 [.a64 (w4 a)] GE (fun r _ => r = .b (O (w4 a) != BitVec.ofInt 64 0)) = (SV.b (O (w4 a) != BitVec.ofInt 64 0) = SV.b (O (w4 a) != BitVec.ofInt 64 0)) := by kernel_rfl
theorem low_e : vf Tryd.prog (EN4 T P D F B K L O Q) noL 71 [.a64 (w4 a)] GE (fun r _ => r = .w64 (-((w4 a).getD 0 0 &&& BitVec.ofInt 64 1))) = (SV.w64 (-((w4 a).getD 0 0 &&& BitVec.ofInt 64 1)) = SV.w64 (-((w4 a).getD 0 0 &&& BitVec.ofInt 64 1))) := by kernel_rfl
theorem choose_e (m : B6) : vf Tryd.prog (EN4 T P D F B K L O Q) noL 79 [.w64 m, .a64 (w4 a), .a64 (w4 b)] GE (fun r _ => r = .a64 (w4 (K m (w4 a) (w4 b)))) = (SV.a64 (w4 (K m (w4 a) (w4 b))) = SV.a64 (w4 (K m (w4 a) (w4 b)))) := by kernel_rfl
theorem small_e (n : BitVec 32) : vf Tryd.prog (EN4 T P D F B K L O Q) noL 56 [.w32 n] GE (fun r _ => r = .a64 [n.setWidth 64, 0, 0, 0]) = (SV.a64 [n.setWidth 64, 0, 0, 0] = SV.a64 [n.setWidth 64, 0, 0, 0]) := by kernel_rfl
end
end Go.Proofs.YtdfghknonbmadaaDoor
