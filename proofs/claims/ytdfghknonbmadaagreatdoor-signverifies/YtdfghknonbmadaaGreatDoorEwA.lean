/-
  edw: points as rows of words. No statement is proved here.
-/
import Derived.Test.YtdfghknonbmadaaGreatDoorVcS
import Derived.Laws.Externs
namespace Go.Proofs.YtdfghknonbmadaaGreatDoor
open Go.RowKit
set_option linter.unusedVariables false
set_option linter.unusedSimpArgs false
set_option maxRecDepth 100000
abbrev W6 := List (BitVec 64)
def PRI : W6 := [18446744073709551597, 18446744073709551615, 18446744073709551615, 9223372036854775807]
def ROM : W6 := [0xc4ee1b274a0ea0b0, 0x2f431806ad2fe478, 0x2b4d00993dfbd7a7, 0x2b8324804fc1df0b]
def BEG : W6 := [0x6a09e667f3bcc908, 0xbb67ae8584caa73b, 0x3c6ef372fe94f82b, 0xa54ff53a5f1d36f1, 0x510e527fade682d1, 0x9b05688c2b3e6c1f, 0x1f83d9abfb41bd6b, 0x5be0cd19137e2179]
def CON : W6 := [0x428a2f98d728ae22, 0x7137449123ef65cd, 0xb5c0fbcfec4d3b2f, 0xe9b5dba58189dbbc, 0x3956c25bf348b538, 0x59f111f1b605d019, 0x923f82a4af194f9b, 0xab1c5ed5da6d8118, 0xd807aa98a3030242, 0x12835b0145706fbe, 0x243185be4ee4b28c, 0x550c7dc3d5ffb4e2, 0x72be5d74f27b896f, 0x80deb1fe3b1696b1, 0x9bdc06a725c71235, 0xc19bf174cf692694, 0xe49b69c19ef14ad2, 0xefbe4786384f25e3, 0x0fc19dc68b8cd5b5, 0x240ca1cc77ac9c65, 0x2de92c6f592b0275, 0x4a7484aa6ea6e483, 0x5cb0a9dcbd41fbd4, 0x76f988da831153b5, 0x983e5152ee66dfab, 0xa831c66d2db43210, 0xb00327c898fb213f, 0xbf597fc7beef0ee4, 0xc6e00bf33da88fc2, 0xd5a79147930aa725, 0x06ca6351e003826f, 0x142929670a0e6e70, 0x27b70a8546d22ffc, 0x2e1b21385c26c926, 0x4d2c6dfc5ac42aed, 0x53380d139d95b3df, 0x650a73548baf63de, 0x766a0abb3c77b2a8, 0x81c2c92e47edaee6, 0x92722c851482353b, 0xa2bfe8a14cf10364, 0xa81a664bbc423001, 0xc24b8b70d0f89791, 0xc76c51a30654be30, 0xd192e819d6ef5218, 0xd69906245565a910, 0xf40e35855771202a, 0x106aa07032bbd1b8, 0x19a4c116b8d2d0c8, 0x1e376c085141ab53, 0x2748774cdf8eeb99, 0x34b0bcb5e19b48a8, 0x391c0cb3c5c95a63, 0x4ed8aa4ae3418acb, 0x5b9cca4f7763e373, 0x682e6ff3d6b2b8a3, 0x748f82ee5defb2fc, 0x78a5636f43172f60, 0x84c87814a1f0ab72, 0x8cc702081a6439ec, 0x90befffa23631e28, 0xa4506cebde82bde9, 0xbef9a3f7b2c67915, 0xc67178f2e372532b, 0xca273eceea26619c, 0xd186b8c721c0c207, 0xeada7dd6cde0eb1e, 0xf57d4f7fee6ed178, 0x06f067aa72176fba, 0x0a637dc5a2c898a6, 0x113f9804bef90dae, 0x1b710b35131c471b, 0x28db77f523047d84, 0x32caab7b40c72493, 0x3c9ebe0a15c9bebc, 0x431d67c49c100d4c, 0x4cc5d4becb3e42b6, 0x597f299cfc657e2a, 0x5fcb6fab3ad6faec, 0x6c44198c4a475817]
def WHO : W6 := [0x5812631a5cf5d3ed, 0x14def9dea2f79cd6, 0, 0x1000000000000000]
def GE : Mm := [⟨false, .a64 BEG⟩, ⟨false, .a64 PRI⟩, ⟨false, .a64 CON⟩, ⟨false, .a64 WHO⟩, ⟨false, .a64 ROM⟩]
abbrev g5E (r : Prop) : Prop := (false = false ∧ Cont.a64 BEG = Cont.a64 BEG) ∧ (false = false ∧ Cont.a64 PRI = Cont.a64 PRI) ∧ (false = false ∧ Cont.a64 CON = Cont.a64 CON) ∧ (false = false ∧ Cont.a64 WHO = Cont.a64 WHO) ∧ (false = false ∧ Cont.a64 ROM = Cont.a64 ROM) ∧ r
def w4 (l : W6) : W6 := [l.getD 0 0, l.getD 1 0, l.getD 2 0, l.getD 3 0]
def p4 (x y z t : W6) : W6 := w4 x ++ (w4 y ++ (w4 z ++ w4 t))
def ct2 (M : W6 → W6 → W6) : List SV → List Cont → Option (Bool × SV)
 | [.a64 [a, b, c, d], .a64 [e, f, g, h]], _ => some (true, .a64 (w4 (M [a, b, c, d] [e, f, g, h])))
 | _, _ => none
def ct2b (M : W6 → W6 → Bool) : List SV → List Cont → Option (Bool × SV)
 | [.a64 [a, b, c, d], .a64 [e, f, g, h]], _ => some (true, .b (M [a, b, c, d] [e, f, g, h]))
 | _, _ => none
def ct1 (M : W6 → W6) : List SV → List Cont → Option (Bool × SV)
 | [.a64 [a, b, c, d]], _ => some (true, .a64 (w4 (M [a, b, c, d])))
 | _, _ => none
def ctS (S : BitVec 32 → W6) : List SV → List Cont → Option (Bool × SV)
 | [.w32 n], _ => some (true, .a64 (w4 (S n)))
 | _, _ => none
def ctK (K : List (BitVec 8) → W6) : List SV → List Cont → Option (Bool × SV)
 | [.s l], _ => some (Nat.beq l.length 32, .a64 (w4 (K l)))
 | _, _ => none
structure Nm where
 A : W6 → W6 → W6
 S : W6 → W6 → W6
 M : W6 → W6 → W6
 E : W6 → W6 → Bool
 I : W6 → W6
 N : BitVec 32 → W6
 K : List (BitVec 8) → W6
def Ee (A S M : W6 → W6 → W6) (E : W6 → W6 → Bool) (I : W6 → W6) (SM : BitVec 32 → W6) (K : List (BitVec 8) → W6) : Env := ⟨GE, ((((((noT.add 96 (ct2 A)).add 95 (ct2 S)).add 62 (ct2 M)).add 63 (ct2b E)).add 79 (ct1 I)).add 94 (ctS SM)).add 55 (ctK K), noC⟩
def jnW (M : W6 → W6 → W6) (e f g h : W6) : W6 := p4 (M (w4 e) (w4 f)) (M (w4 g) (w4 h)) (M (w4 f) (w4 g)) (M (w4 e) (w4 h))
end Go.Proofs.YtdfghknonbmadaaGreatDoor
namespace Go.Proofs.YtdfghknonbmadaaGreatDoor
open Go.RowKit
set_option linter.unusedVariables false
set_option linter.unusedSimpArgs false
set_option maxRecDepth 100000
abbrev B6 := BitVec 64
def lc (c : B6) : Bool := Nat.ble c.toNat 1
def adS (x y c : B6) : B6 := BitVec.ofNat 64 (x.toNat + y.toNat + c.toNat)
def adC (x y c : B6) : B6 := BitVec.ofNat 64 ((x.toNat + y.toNat + c.toNat) / 18446744073709551616)
def sbS (x y b : B6) : B6 := BitVec.ofNat 64 (x.toNat + 18446744073709551616 - y.toNat - b.toNat)
def sbC (x y b : B6) : B6 := if x.toNat < y.toNat + b.toNat then 1 else 0
def cAd (S C : B6 → B6 → B6 → B6) : List SV → List Cont → Option (Bool × SV)
 | [.w64 x, .w64 y, .w64 c], _ => some (lc c, .tup [.w64 (S x y c), .w64 (C x y c)])
 | _, _ => none
theorem lc_ad (x y c : B6) (h : lc c = true) : lc (adC x y c) = true := by
 have h := Nat.le_of_ble_eq_true h
 refine Nat.ble_eq_true_of_le ?_
 unfold adC
 rw [BitVec.toNat_ofNat]
 have := x.isLt
 have := y.isLt
 omega
theorem lc_sb (x y c : B6) : lc (sbC x y c) = true := by unfold sbC lc; split <;> rfl
theorem add64_ok : POk Tryz.prog GE 127 (cAd adS adC) := by
 intro args acs r h β M w hR hw ha
 unfold cAd at h
 split at h
 ·rename_i x y c
  simp only [Option.some.injEq, Prod.mk.injEq] at h
  obtain ⟨h1, rfl⟩ := h
  have h1 := Nat.le_of_ble_eq_true h1
  refine .inl ⟨_, w, ?_, rfl, Fp.refl _ w⟩
  rw [run_callFunc_extern Tryz.func127 (by kernel_rfl) (by kernel_rfl) (by kernel_rfl) (e := add64Entry) (by kernel_rfl)]
  have hx := x.isLt
  have hy := y.isLt
  show ((add64Entry #[.int .u64 (x.toNat : Nat), .int .u64 (y.toNat : Nat), .int .u64 (c.toNat : Nat)]).run Tryz.prog w).andThen _ = _
  rw [run_add64 x.toNat y.toNat c.toNat (by omega) (by omega) (by omega) (by omega)]
  have e1 : (((x.toNat : Nat) : Int) + (y.toNat : Nat) + (c.toNat : Nat)) % 18446744073709551616 = (((adS x y c).toNat : Nat) : Int) := by unfold adS; rw [BitVec.toNat_ofNat]; omega
  have e2 : (((x.toNat : Nat) : Int) + (y.toNat : Nat) + (c.toNat : Nat)) / 18446744073709551616 = (((adC x y c).toNat : Nat) : Int) := by unfold adC; rw [BitVec.toNat_ofNat]; omega
  rw [e1, e2]
  rfl
 ·cases h
def subE : Array Value → Sem Value := fun args => do
 let (x, y, b) ← Extern.MathBitsCarry.three "Sub64" args
 pure (Extern.MathBitsCarry.pair ((x + Extern.MathBitsCarry.m64 - y - b) % Extern.MathBitsCarry.m64) (if x < y + b then 1 else 0))
theorem sub64_run (x y b : Nat) (hb : b ≤ 1) (w : World) : (subE #[.int .u64 (x : Nat), .int .u64 (y : Nat), .int .u64 (b : Nat)]).run Tryz.prog w = .ok (.tuple #[.int .u64 (((x + 18446744073709551616 - y - b) % 18446744073709551616 : Nat) : Int), .int .u64 ((if x < y + b then 1 else 0 : Nat) : Int)]) w := by
 have : b = 0 ∨ b = 1 := by omega
 rcases this with rfl | rfl <;> rfl
theorem sub64_ok : POk Tryz.prog GE 116 (cAd sbS sbC) := by
 intro args acs r h β M w hR hw ha
 unfold cAd at h
 split at h
 ·rename_i x y c
  simp only [Option.some.injEq, Prod.mk.injEq] at h
  obtain ⟨h1, rfl⟩ := h
  have h1 := Nat.le_of_ble_eq_true h1
  refine .inl ⟨_, w, ?_, rfl, Fp.refl _ w⟩
  rw [run_callFunc_extern Tryz.func116 (by kernel_rfl) (by kernel_rfl) (by kernel_rfl) (e := subE) (by kernel_rfl)]
  show ((subE #[.int .u64 (x.toNat : Nat), .int .u64 (y.toNat : Nat), .int .u64 (c.toNat : Nat)]).run Tryz.prog w).andThen _ = _
  rw [sub64_run x.toNat y.toNat c.toNat h1 w]
  have e1 : (x.toNat + 18446744073709551616 - y.toNat - c.toNat) % 18446744073709551616 = (sbS x y c).toNat := by unfold sbS; rw [BitVec.toNat_ofNat]
  have e2 : (if x.toNat < y.toNat + c.toNat then 1 else 0 : Nat) = (sbC x y c).toNat := by unfold sbC; split <;> rfl
  rw [e1, e2]
  rfl
 ·cases h
end Go.Proofs.YtdfghknonbmadaaGreatDoor
namespace Go.Proofs.YtdfghknonbmadaaGreatDoor
open Go.RowKit
set_option linter.unusedVariables false
set_option linter.unusedSimpArgs false
set_option maxRecDepth 100000
abbrev T3 := B6 → B6 → B6 → B6
def z6 : B6 := BitVec.ofInt 64 0
def EN (S C D F : T3) : Env := ⟨GE, (noT.add 127 (cAd S C)).add 116 (cAd D F), noC⟩
theorem en_ok : EnvOk Tryz.prog (EN adS adC sbS sbC) := ⟨PT.add_ok (PT.add_ok (noT_ok _ _) add64_ok) sub64_ok, noC_ok _ _⟩
def plC (C : T3) (a b : W6) : Nat → B6
 | 0 => z6
 | i + 1 => C (a.getD i 0) (b.getD i 0) (plC C a b i)
def plS (S C : T3) (a b : W6) : W6 := [S (a.getD 0 0) (b.getD 0 0) (plC C a b 0), S (a.getD 1 0) (b.getD 1 0) (plC C a b 1), S (a.getD 2 0) (b.getD 2 0) (plC C a b 2), S (a.getD 3 0) (b.getD 3 0) (plC C a b 3)]
theorem plus_e (S C D F : T3) (a b : W6) : vf Tryz.prog (EN S C D F) noL 118 [.a64 (w4 a), .a64 (w4 b)] GE (fun r _ => r = .a64 (plS S C (w4 a) (w4 b))) = (bif lc (plC C (w4 a) (w4 b) 1) then bif lc (plC C (w4 a) (w4 b) 2) then bif lc (plC C (w4 a) (w4 b) 3) then SV.a64 (plS S C (w4 a) (w4 b)) = SV.a64 (plS S C (w4 a) (w4 b)) else False else False else False) := by kernel_rfl
theorem minus_e (S C D F : T3) (a b : W6) : vf Tryz.prog (EN S C D F) noL 91 [.a64 (w4 a), .a64 (w4 b)] GE (fun r _ => r = .tup [.a64 (plS D F (w4 a) (w4 b)), .w64 (plC F (w4 a) (w4 b) 4)]) = (bif lc (plC F (w4 a) (w4 b) 1) then bif lc (plC F (w4 a) (w4 b) 2) then bif lc (plC F (w4 a) (w4 b) 3) then SV.tup [.a64 (plS D F (w4 a) (w4 b)), .w64 (plC F (w4 a) (w4 b) 4)] = SV.tup [.a64 (plS D F (w4 a) (w4 b)), .w64 (plC F (w4 a) (w4 b) 4)] else False else False else False) := by kernel_rfl
def pkW (m : B6) (a b : W6) : W6 := [a.getD 0 0 ^^^ m &&& (a.getD 0 0 ^^^ b.getD 0 0), a.getD 1 0 ^^^ m &&& (a.getD 1 0 ^^^ b.getD 1 0), a.getD 2 0 ^^^ m &&& (a.getD 2 0 ^^^ b.getD 2 0), a.getD 3 0 ^^^ m &&& (a.getD 3 0 ^^^ b.getD 3 0)]
theorem pick_e (S C D F : T3) (m : B6) (a b : W6) : vf Tryz.prog (EN S C D F) noL 119 [.w64 m, .a64 (w4 a), .a64 (w4 b)] GE (fun r _ => r = .a64 (pkW m (w4 a) (w4 b))) = (SV.a64 (pkW m (w4 a) (w4 b)) = SV.a64 (pkW m (w4 a) (w4 b))) := by kernel_rfl
def hiK (x y : B6) : B6 := x >>> 32 * y >>> 32 + (x >>> 32 * (y &&& BitVec.ofInt 64 4294967295) + ((x &&& BitVec.ofInt 64 4294967295) * (y &&& BitVec.ofInt 64 4294967295)) >>> 32) >>> 32 + ((x >>> 32 * (y &&& BitVec.ofInt 64 4294967295) + ((x &&& BitVec.ofInt 64 4294967295) * (y &&& BitVec.ofInt 64 4294967295)) >>> 32 &&& BitVec.ofInt 64 4294967295) + (x &&& BitVec.ofInt 64 4294967295) * y >>> 32) >>> 32
theorem mul64_e (S C D F : T3) (x y : B6) : vf Tryz.prog (EN S C D F) noL 126 [.w64 x, .w64 y] GE (fun r _ => r = .tup [.w64 (hiK x y), .w64 (x * y)]) = (SV.tup [.w64 (hiK x y), .w64 (x * y)] = SV.tup [.w64 (hiK x y), .w64 (x * y)]) := by kernel_rfl
def alW (a b : W6) : B6 :=
 let d := a.getD 0 0 ^^^ b.getD 0 0 ||| a.getD 1 0 ^^^ b.getD 1 0 ||| a.getD 2 0 ^^^ b.getD 2 0 ||| a.getD 3 0 ^^^ b.getD 3 0
 (d ||| -d) >>> 63 - BitVec.ofInt 64 1
theorem alike_e (S C D F : T3) (a b : W6) : vf Tryz.prog (EN S C D F) noL 100 [.a64 (w4 a), .a64 (w4 b)] GE (fun r _ => r = .w64 (alW (w4 a) (w4 b))) = (SV.w64 (alW (w4 a) (w4 b)) = SV.w64 (alW (w4 a) (w4 b))) := by kernel_rfl
def cMl (H L : B6 → B6 → B6) : List SV → List Cont → Option (Bool × SV)
 | [.w64 x, .w64 y], _ => some (true, .tup [.w64 (H x y), .w64 (L x y)])
 | _, _ => none
def cMn (D F : T3) : List SV → List Cont → Option (Bool × SV)
 | [.a64 [a, b, c, d], .a64 [e, f, g, h]], _ => some (true, .tup [.a64 (plS D F [a, b, c, d] [e, f, g, h]), .w64 (plC F [a, b, c, d] [e, f, g, h] 4)])
 | _, _ => none
def cPk (P : B6 → W6 → W6 → W6) : List SV → List Cont → Option (Bool × SV)
 | [.w64 m, .a64 [a, b, c, d], .a64 [e, f, g, h]], _ => some (true, .a64 (w4 (P m [a, b, c, d] [e, f, g, h])))
 | _, _ => none
def EN1 (S C D F : T3) (H L : B6 → B6 → B6) (P : B6 → W6 → W6 → W6) : Env := ⟨GE, (((EN S C D F).T.add 126 (cMl H L)).add 91 (cMn D F)).add 119 (cPk P), noC⟩
def blW (D F : T3) (P : B6 → W6 → W6 → W6) (w : W6) : W6 := w4 (P (-(plC F (w4 w) PRI 4)) (plS D F (w4 w) PRI) (w4 w))
theorem below_e (S C D F : T3) (H L : B6 → B6 → B6) (P : B6 → W6 → W6 → W6) (w : W6) : vf Tryz.prog (EN1 S C D F H L P) noL 120 [.a64 (w4 w)] GE (fun r _ => r = .a64 (blW D F P w)) = (SV.a64 (blW D F P w) = SV.a64 (blW D F P w)) := by kernel_rfl
def stL (S : T3) (L : B6 → B6 → B6) (x y s c : B6) : B6 := S (S (L x y) s z6) c z6
def stH (S C : T3) (H L : B6 → B6 → B6) (x y s c : B6) : B6 := H x y + C (L x y) s z6 + C (S (L x y) s z6) c z6
theorem step_e (S C D F : T3) (H L : B6 → B6 → B6) (P : B6 → W6 → W6 → W6) (x y s c : B6) : vf Tryz.prog (EN1 S C D F H L P) noL 129 [.w64 x, .w64 y, .w64 s, .w64 c] GE (fun r _ => r = .tup [.w64 (stL S L x y s c), .w64 (stH S C H L x y s c)]) = (SV.tup [.w64 (stL S L x y s c), .w64 (stH S C H L x y s c)] = SV.tup [.w64 (stL S L x y s c), .w64 (stH S C H L x y s c)]) := by kernel_rfl
abbrev T4 := B6 → B6 → B6 → B6 → B6
def cSp (L H : T4) : List SV → List Cont → Option (Bool × SV)
 | [.w64 x, .w64 y, .w64 s, .w64 c], _ => some (true, .tup [.w64 (L x y s c), .w64 (H x y s c)])
 | _, _ => none
def cBl (B : W6 → W6) : List SV → List Cont → Option (Bool × SV)
 | [.a64 [a, b, c, d]], _ => some (true, .a64 (w4 (B [a, b, c, d])))
 | _, _ => none
def EN2 (S C : T3) (L H : T4) (B : W6 → W6) : Env := ⟨GE, (((noT.add 127 (cAd S C)).add 129 (cSp L H)).add 120 (cBl B)), noC⟩
def rwC (H : T4) (x : B6) (b s : W6) : Nat → B6
 | 0 => z6
 | i + 1 => H x (b.getD i 0) (s.getD i 0) (rwC H x b s i)
def rwL (L H : T4) (x : B6) (b s : W6) : W6 := [L x (b.getD 0 0) (s.getD 0 0) (rwC H x b s 0), L x (b.getD 1 0) (s.getD 1 0) (rwC H x b s 1), L x (b.getD 2 0) (s.getD 2 0) (rwC H x b s 2), L x (b.getD 3 0) (s.getD 3 0) (rwC H x b s 3), rwC H x b s 4]
theorem row_e (S C : T3) (L H : T4) (B : W6 → W6) (x b0 b1 b2 b3 s0 s1 s2 s3 : B6) : vf Tryz.prog (EN2 S C L H B) noL 124 [.w64 x, .w64 b0, .w64 b1, .w64 b2, .w64 b3, .w64 s0, .w64 s1, .w64 s2, .w64 s3] GE (fun r _ => r = .tup ((rwL L H x [b0, b1, b2, b3] [s0, s1, s2, s3]).map .w64)) = (SV.tup ((rwL L H x [b0, b1, b2, b3] [s0, s1, s2, s3]).map .w64) = SV.tup ((rwL L H x [b0, b1, b2, b3] [s0, s1, s2, s3]).map .w64)) := by kernel_rfl
end Go.Proofs.YtdfghknonbmadaaGreatDoor
namespace Go.Proofs.YtdfghknonbmadaaGreatDoor
open Go.RowKit
set_option linter.unusedVariables false
set_option linter.unusedSimpArgs false
set_option maxRecDepth 100000
def ovr (w : W6) (t : B6) : B6 := BitVec.ofInt 64 19 * (t <<< 1 ||| w.getD 3 0 >>> 63)
def fdC (C : T3) (w : W6) (t : B6) : Nat → B6
 | 0 => z6
 | 1 => C (w.getD 0 0) (ovr w t) z6
 | i + 2 => C (w.getD (i + 1) 0) z6 (fdC C w t (i + 1))
def fdW (S C : T3) (B : W6 → W6) (w : W6) (t : B6) : W6 := w4 (B [S (w.getD 0 0) (ovr w t) z6, S (w.getD 1 0) z6 (fdC C w t 1), S (w.getD 2 0) z6 (fdC C w t 2), (w.getD 3 0 &&& BitVec.ofInt 64 9223372036854775807) + fdC C w t 3])
theorem fold_e (S C : T3) (L H : T4) (B : W6 → W6) (w : W6) (t : B6) : vf Tryz.prog (EN2 S C L H B) noL 117 [.a64 (w4 w), .w64 t] GE (fun r _ => r = .a64 (fdW S C B (w4 w) t)) = (bif lc (fdC C (w4 w) t 1) then bif lc (fdC C (w4 w) t 2) then SV.a64 (fdW S C B (w4 w) t) = SV.a64 (fdW S C B (w4 w) t) else False else False) := by kernel_rfl
def cRw (R : B6 → W6 → W6 → W6) : List SV → List Cont → Option (Bool × SV)
 | [.w64 x, .w64 b0, .w64 b1, .w64 b2, .w64 b3, .w64 s0, .w64 s1, .w64 s2, .w64 s3], _ => some (true, .tup [.w64 ((R x [b0, b1, b2, b3] [s0, s1, s2, s3]).getD 0 0), .w64 ((R x [b0, b1, b2, b3] [s0, s1, s2, s3]).getD 1 0), .w64 ((R x [b0, b1, b2, b3] [s0, s1, s2, s3]).getD 2 0), .w64 ((R x [b0, b1, b2, b3] [s0, s1, s2, s3]).getD 3 0), .w64 ((R x [b0, b1, b2, b3] [s0, s1, s2, s3]).getD 4 0)])
 | _, _ => none
def cFd (F : W6 → B6 → W6) : List SV → List Cont → Option (Bool × SV)
 | [.a64 [a, b, c, d], .w64 t], _ => some (true, .a64 (w4 (F [a, b, c, d] t)))
 | _, _ => none
def EN3 (R : B6 → W6 → W6 → W6) (F : W6 → B6 → W6) : Env := ⟨GE, (noT.add 124 (cRw R)).add 117 (cFd F), noC⟩
def tmR (R : B6 → W6 → W6 → W6) (a b : W6) : Nat → W6
 | 0 => R (a.getD 0 0) b [z6, z6, z6, z6]
 | i + 1 => R (a.getD (i + 1) 0) b [(tmR R a b i).getD 1 0, (tmR R a b i).getD 2 0, (tmR R a b i).getD 3 0, (tmR R a b i).getD 4 0]
def tmL (R : B6 → W6 → W6 → W6) (a b : W6) : W6 := R (BitVec.ofInt 64 38) [(tmR R a b 3).getD 1 0, (tmR R a b 3).getD 2 0, (tmR R a b 3).getD 3 0, (tmR R a b 3).getD 4 0] [(tmR R a b 0).getD 0 0, (tmR R a b 1).getD 0 0, (tmR R a b 2).getD 0 0, (tmR R a b 3).getD 0 0]
def tmW (R : B6 → W6 → W6 → W6) (F : W6 → B6 → W6) (a b : W6) : W6 := w4 (F [(tmL R a b).getD 0 0, (tmL R a b).getD 1 0, (tmL R a b).getD 2 0, (tmL R a b).getD 3 0] ((tmL R a b).getD 4 0))
theorem times_e (R : B6 → W6 → W6 → W6) (F : W6 → B6 → W6) (a b : W6) : vf Tryz.prog (EN3 R F) noL 99 [.a64 (w4 a), .a64 (w4 b)] GE (fun r _ => r = .a64 (tmW R F (w4 a) (w4 b))) = (SV.a64 (tmW R F (w4 a) (w4 b)) = SV.a64 (tmW R F (w4 a) (w4 b))) := by kernel_rfl
def cMk (K : Bool → B6) : List SV → List Cont → Option (Bool × SV)
 | [.b b], _ => some (true, .w64 (K b))
 | _, _ => none
def cAl (L : W6 → W6 → B6) : List SV → List Cont → Option (Bool × SV)
 | [.a64 [a, b, c, d], .a64 [e, f, g, h]], _ => some (true, .w64 (L [a, b, c, d] [e, f, g, h]))
 | _, _ => none
def cLo (L : W6 → B6) : List SV → List Cont → Option (Bool × SV)
 | [.a64 [a, b, c, d]], _ => some (true, .w64 (L [a, b, c, d]))
 | _, _ => none
def EN4 (T P : W6 → W6 → W6) (D F : T3) (B : W6 → W6) (K : B6 → W6 → W6 → W6) (L : W6 → W6 → B6) (O : W6 → B6) (Q : Bool → B6) : Env := ⟨GE, (((((((noT.add 99 (ct2 T)).add 118 (ct2 P)).add 91 (cMn D F)).add 120 (cBl B)).add 119 (cPk K)).add 100 (cAl L)).add 113 (cLo O)).add 123 (cMk Q), noC⟩
section
variable (T P : W6 → W6 → W6) (D F : T3) (B : W6 → W6) (K : B6 → W6 → W6 → W6) (L : W6 → W6 → B6) (O : W6 → B6) (Q : Bool → B6) (a b : W6)
theorem mul_e : vf Tryz.prog (EN4 T P D F B K L O Q) noL 62 [.a64 (w4 a), .a64 (w4 b)] GE (fun r _ => r = .a64 (w4 (T (w4 a) (w4 b)))) = (SV.a64 (w4 (T (w4 a) (w4 b))) = SV.a64 (w4 (T (w4 a) (w4 b)))) := by kernel_rfl
theorem add_e : vf Tryz.prog (EN4 T P D F B K L O Q) noL 96 [.a64 (w4 a), .a64 (w4 b)] GE (fun r _ => r = .a64 (w4 (B (w4 (P (w4 a) (w4 b)))))) = (SV.a64 (w4 (B (w4 (P (w4 a) (w4 b))))) = SV.a64 (w4 (B (w4 (P (w4 a) (w4 b)))))) := by kernel_rfl
def sbW (P : W6 → W6 → W6) (D F : T3) (K : B6 → W6 → W6 → W6) (a b : W6) : W6 := w4 (P (plS D F (w4 a) (w4 b)) (w4 (K (-(plC F (w4 a) (w4 b) 4)) [0, 0, 0, 0] PRI)))
theorem sub_e : vf Tryz.prog (EN4 T P D F B K L O Q) noL 95 [.a64 (w4 a), .a64 (w4 b)] GE (fun r _ => r = .a64 (sbW P D F K a b)) = (SV.a64 (sbW P D F K a b) = SV.a64 (sbW P D F K a b)) := by kernel_rfl
theorem same_e : vf Tryz.prog (EN4 T P D F B K L O Q) noL 63 [.a64 (w4 a), .a64 (w4 b)] GE (fun r _ => r = .b (L (w4 a) (w4 b) != BitVec.ofInt 64 0)) = (SV.b (L (w4 a) (w4 b) != BitVec.ofInt 64 0) = SV.b (L (w4 a) (w4 b) != BitVec.ofInt 64 0)) := by kernel_rfl
theorem odd_e : vf Tryz.prog (EN4 T P D F B K L O Q) noL 81 [.a64 (w4 a)] GE (fun r _ => r = .b (O (w4 a) != BitVec.ofInt 64 0)) = (SV.b (O (w4 a) != BitVec.ofInt 64 0) = SV.b (O (w4 a) != BitVec.ofInt 64 0)) := by kernel_rfl
theorem choose_e (m : B6) : vf Tryz.prog (EN4 T P D F B K L O Q) noL 121 [.w64 m, .a64 (w4 a), .a64 (w4 b)] GE (fun r _ => r = .a64 (w4 (K m (w4 a) (w4 b)))) = (SV.a64 (w4 (K m (w4 a) (w4 b))) = SV.a64 (w4 (K m (w4 a) (w4 b)))) := by kernel_rfl
theorem small_e (n : BitVec 32) : vf Tryz.prog (EN4 T P D F B K L O Q) noL 94 [.w32 n] GE (fun r _ => r = .a64 [n.setWidth 64, 0, 0, 0]) = (SV.a64 [n.setWidth 64, 0, 0, 0] = SV.a64 [n.setWidth 64, 0, 0, 0]) := by kernel_rfl
end
end Go.Proofs.YtdfghknonbmadaaGreatDoor
namespace Go.Proofs.YtdfghknonbmadaaGreatDoor
open Go.RowKit
set_option linter.unusedVariables false
set_option linter.unusedSimpArgs false
set_option maxRecDepth 100000
def Ej1 (M : W6 → W6 → W6) : Env := ⟨GE, noT.add 62 (ct2 M), noC⟩
def sqX (M : W6 → W6 → W6) (f : W6) : Nat → W6
 | 0 => f
 | j + 1 => M (w4 (sqX M f j)) (w4 (sqX M f j))
def MJ (f s : W6) : Mm := [⟨false, .a64 BEG⟩, ⟨false, .a64 PRI⟩, ⟨false, .a64 CON⟩, ⟨false, .a64 WHO⟩, ⟨false, .a64 ROM⟩, ⟨true, .a64 (w4 f)⟩, ⟨true, .a64 (w4 s)⟩, ⟨true, .a64 (List.replicate 4 0)⟩]
def iJ (n j : Nat) : List (Nat × SV) := [(3, .ptr 5 0), (4, .ptr 6 0), (6, .ptr 7 0), (7, .i (n : Nat)), (8, .i (j : Nat))]
def oJ : List (Nat × SV) := [(3, .ptr 5 0), (4, .ptr 6 0), (6, .ptr 7 0)]
def LJ (n : Nat) (f x s : W6) : LT := noL.add 0 (vLoop GE 17 (iJ n 0) (MJ f s) oJ (MJ x s))
theorem vaJ (M : W6 → W6 → W6) (f x s : W6) (n : Nat) (K : SV → Mm → Prop) : (vf Tryz.prog (Ej1 M) (LJ n f x s) 130 [.a64 (w4 f), .a64 (w4 s), .i (n : Nat)] GE K) = (loopOf Tryz.prog 130 0 = loopOf Tryz.prog 130 0 ∧ SV.ptr 5 0 = SV.ptr 5 0 ∧ SV.ptr ((0 : Nat) + (1 : Nat) + (1 : Nat) + (1 : Nat) + (1 : Nat) + (1 : Nat) + (1 : Nat)) (0 : Nat) = SV.ptr 6 0 ∧ SV.ptr ((0 : Nat) + (1 : Nat) + (1 : Nat) + (1 : Nat) + (1 : Nat) + (1 : Nat) + (1 : Nat) + (1 : Nat)) (0 : Nat) = SV.ptr 7 0 ∧ SV.i (↑n : Int) = SV.i (↑n : Int) ∧ SV.i (0 : Int) = SV.i (↑(0 : Nat) : Int) ∧ g5E ((true = true ∧ Cont.a64 (w4 f) = Cont.a64 (w4 f)) ∧ (true = true ∧ Cont.a64 (w4 s) = Cont.a64 (w4 s)) ∧ (true = true ∧ Cont.a64 (List.replicate 4 (0 : BitVec 64)) = Cont.a64 (List.replicate 4 (0 : BitVec 64))) ∧ K (SV.a64 (List.take 4 (List.drop 0 (w4 (M [List.getD x (0 : Nat) (0 : BitVec 64), List.getD x (1 : Nat) (0 : BitVec 64), List.getD x (2 : Nat) (0 : BitVec 64), List.getD x (3 : Nat) (0 : BitVec 64)] [List.getD s (0 : Nat) (0 : BitVec 64), List.getD s (1 : Nat) (0 : BitVec 64), List.getD s (2 : Nat) (0 : BitVec 64), List.getD s (3 : Nat) (0 : BitVec 64)]))))) [{ rw := false, c := Cont.a64 BEG }, { rw := false, c := Cont.a64 PRI }, { rw := false, c := Cont.a64 CON }, { rw := false, c := Cont.a64 WHO }, { rw := false, c := Cont.a64 ROM }, { rw := true, c := Cont.a64 (w4 x) }, { rw := true, c := Cont.a64 (w4 s) }, { rw := true, c := Cont.a64 (w4 (M [List.getD x (0 : Nat) (0 : BitVec 64), List.getD x (1 : Nat) (0 : BitVec 64), List.getD x (2 : Nat) (0 : BitVec 64), List.getD x (3 : Nat) (0 : BitVec 64)] [List.getD s (0 : Nat) (0 : BitVec 64), List.getD s (1 : Nat) (0 : BitVec 64), List.getD s (2 : Nat) (0 : BitVec 64), List.getD s (3 : Nat) (0 : BitVec 64)])) }])) := by kernel_rfl
theorem vrJ (M : W6 → W6 → W6) (f x z s : W6) (n j : Nat) (p : Prop) : (frK 17 (iJ n j) fun fr => vround Tryz.prog (Ej1 M) noL 130 0 fr (MJ f s) (Kn GE 0 17 p (iJ n (j + 1)) (MJ x s) oJ (MJ z s))) = (bif ilt (↑j : Int) (↑n : Int) then bif inI ((↑j : Int) + (1 : Int)) then p ∧ SV.ptr 5 0 = SV.ptr 5 0 ∧ SV.ptr 6 0 = SV.ptr 6 0 ∧ SV.ptr 7 0 = SV.ptr 7 0 ∧ SV.i (↑n : Int) = SV.i (↑n : Int) ∧ SV.i ((↑j : Int) + (1 : Int)) = SV.i (↑(j + (1 : Nat)) : Int) ∧ g5E ((true = true ∧ Cont.a64 (w4 (M [List.getD f (0 : Nat) (0 : BitVec 64), List.getD f (1 : Nat) (0 : BitVec 64), List.getD f (2 : Nat) (0 : BitVec 64), List.getD f (3 : Nat) (0 : BitVec 64)] [List.getD f (0 : Nat) (0 : BitVec 64), List.getD f (1 : Nat) (0 : BitVec 64), List.getD f (2 : Nat) (0 : BitVec 64), List.getD f (3 : Nat) (0 : BitVec 64)])) = Cont.a64 (w4 x)) ∧ (true = true ∧ Cont.a64 (w4 s) = Cont.a64 (w4 s)) ∧ (true = true ∧ Cont.a64 (List.replicate 4 (0 : BitVec 64)) = Cont.a64 (List.replicate 4 (0 : BitVec 64))) ∧ True) else False else (0 : Nat) = (0 : Nat) ∧ SV.ptr 5 0 = SV.ptr 5 0 ∧ SV.ptr 6 0 = SV.ptr 6 0 ∧ SV.ptr 7 0 = SV.ptr 7 0 ∧ g5E ((true = true ∧ Cont.a64 (w4 f) = Cont.a64 (w4 z)) ∧ (true = true ∧ Cont.a64 (w4 s) = Cont.a64 (w4 s)) ∧ (true = true ∧ Cont.a64 (List.replicate 4 (0 : BitVec 64)) = Cont.a64 (List.replicate 4 (0 : BitVec 64))) ∧ True)) := by kernel_rfl
end Go.Proofs.YtdfghknonbmadaaGreatDoor
namespace Go.Proofs.YtdfghknonbmadaaGreatDoor
open Go.RowKit
set_option linter.unusedVariables false
set_option linter.unusedSimpArgs false
set_option maxRecDepth 100000
theorem mixed : Tryz.prog.follows .mixedOrders = true := by kernel_rfl
theorem pok_e {T : PT} {C : CT} (hE : EnvOk Tryz.prog ⟨GE, T, C⟩) {f : Nat} {args : List SV} {r : SV} (h : vf Tryz.prog ⟨GE, T, C⟩ noL f args GE (fun r' _ => r' = r)) (ha : SV.wf.wfs 0 args = true) (hr : r.wf 0 = true) {β : Nat → Nat} {M : Mm} {w : World} (hR : Rel GE β M w) : CallR Tryz.prog f (vals β args).toArray w (fun v w' => v = val β r ∧ Fp0 w w') := pure0 (vf_ok hE mixed (noL_ok _ _ _ _) h) ha hr hR
theorem pok2 {T : PT} {C : CT} (hE : EnvOk Tryz.prog ⟨GE, T, C⟩) {f : Nat} {F : W6 → W6 → W6} (h : ∀ a b : W6, vf Tryz.prog ⟨GE, T, C⟩ noL f [.a64 (w4 a), .a64 (w4 b)] GE (fun r _ => r = .a64 (w4 (F (w4 a) (w4 b))))) : POk Tryz.prog GE f (ct2 F) := by
 intro args acs r hh β M w hR hw ha
 unfold ct2 at hh
 split at hh
 ·rename_i a b c d e f g i
  simp only [Option.some.injEq, Prod.mk.injEq, true_and] at hh
  subst hh
  exact pok_e hE (h [a, b, c, d] [e, f, g, i]) rfl rfl hR
 ·cases hh
theorem lc0 : lc z6 = true := rfl
theorem lc_pl (a b : W6) : ∀ i, lc (plC adC a b i) = true
 | 0 => rfl
 | i + 1 => lc_ad _ _ _ (lc_pl a b i)
theorem lc_mi (a b : W6) : ∀ i, lc (plC sbC a b i) = true
 | 0 => rfl
 | i + 1 => lc_sb _ _ _
theorem lc_fd (w : W6) (t : B6) : ∀ i, lc (fdC adC w t i) = true
 | 0 => rfl
 | 1 => lc_ad _ _ _ lc0
 | i + 2 => lc_ad _ _ _ (lc_fd w t (i + 1))
theorem plus_ok : POk Tryz.prog GE 118 (ct2 (plS adS adC)) := pok2 en_ok fun a b => of_eq (plus_e adS adC sbS sbC a b) (bif_of (lc_pl _ _ 1) (bif_of (lc_pl _ _ 2) (bif_of (lc_pl _ _ 3) rfl)))
theorem minus_ok : POk Tryz.prog GE 91 (cMn sbS sbC) := by
 intro args acs r hh β M w hR hw ha
 unfold cMn at hh
 split at hh
 ·rename_i a b c d e f g i
  simp only [Option.some.injEq, Prod.mk.injEq, true_and] at hh
  subst hh
  exact pok_e en_ok (of_eq (minus_e adS adC sbS sbC [a, b, c, d] [e, f, g, i]) (bif_of (lc_mi _ _ 1) (bif_of (lc_mi _ _ 2) (bif_of (lc_mi _ _ 3) rfl)))) rfl rfl hR
 ·cases hh
theorem pick_ok : POk Tryz.prog GE 119 (cPk pkW) := by
 intro args acs r hh β M w hR hw ha
 unfold cPk at hh
 split at hh
 ·rename_i m a b c d e f g i
  simp only [Option.some.injEq, Prod.mk.injEq, true_and] at hh
  subst hh
  exact pok_e en_ok (of_eq (pick_e adS adC sbS sbC m [a, b, c, d] [e, f, g, i]) rfl) rfl rfl hR
 ·cases hh
theorem mul64_ok : POk Tryz.prog GE 126 (cMl hiK (· * ·)) := by
 intro args acs r hh β M w hR hw ha
 unfold cMl at hh
 split at hh
 ·rename_i x y
  simp only [Option.some.injEq, Prod.mk.injEq, true_and] at hh
  subst hh
  exact pok_e en_ok (of_eq (mul64_e adS adC sbS sbC x y) rfl) rfl rfl hR
 ·cases hh
theorem alike_ok : POk Tryz.prog GE 100 (cAl alW) := by
 intro args acs r hh β M w hR hw ha
 unfold cAl at hh
 split at hh
 ·rename_i a b c d e f g i
  simp only [Option.some.injEq, Prod.mk.injEq, true_and] at hh
  subst hh
  exact pok_e en_ok (of_eq (alike_e adS adC sbS sbC [a, b, c, d] [e, f, g, i]) rfl) rfl rfl hR
 ·cases hh
theorem en1_ok : EnvOk Tryz.prog (EN1 adS adC sbS sbC hiK (· * ·) pkW) := ⟨PT.add_ok (PT.add_ok (PT.add_ok en_ok.T mul64_ok) minus_ok) pick_ok, noC_ok _ _⟩
abbrev blX : W6 → W6 := blW sbS sbC pkW
theorem below_ok : POk Tryz.prog GE 120 (cBl blX) := by
 intro args acs r hh β M w hR hw ha
 unfold cBl at hh
 split at hh
 ·rename_i a b c d
  simp only [Option.some.injEq, Prod.mk.injEq, true_and] at hh
  subst hh
  exact pok_e en1_ok (of_eq (below_e adS adC sbS sbC hiK (· * ·) pkW [a, b, c, d]) rfl) rfl rfl hR
 ·cases hh
abbrev stLX : T4 := stL adS (· * ·)
abbrev stHX : T4 := stH adS adC hiK (· * ·)
theorem step_ok : POk Tryz.prog GE 129 (cSp stLX stHX) := by
 intro args acs r hh β M w hR hw ha
 unfold cSp at hh
 split at hh
 ·rename_i x y s c
  simp only [Option.some.injEq, Prod.mk.injEq, true_and] at hh
  subst hh
  exact pok_e en1_ok (of_eq (step_e adS adC sbS sbC hiK (· * ·) pkW x y s c) rfl) rfl rfl hR
 ·cases hh
theorem en2_ok : EnvOk Tryz.prog (EN2 adS adC stLX stHX blX) := ⟨PT.add_ok (PT.add_ok (PT.add_ok (noT_ok _ _) add64_ok) step_ok) below_ok, noC_ok _ _⟩
abbrev rwX : B6 → W6 → W6 → W6 := rwL stLX stHX
theorem row_ok : POk Tryz.prog GE 124 (cRw rwX) := by
 intro args acs r hh β M w hR hw ha
 unfold cRw at hh
 split at hh
 ·rename_i x b0 b1 b2 b3 s0 s1 s2 s3
  simp only [Option.some.injEq, Prod.mk.injEq, true_and] at hh
  subst hh
  exact pok_e en2_ok (of_eq (row_e adS adC stLX stHX blX x b0 b1 b2 b3 s0 s1 s2 s3) rfl) rfl rfl hR
 ·cases hh
abbrev fdX : W6 → B6 → W6 := fdW adS adC blX
theorem fold_ok : POk Tryz.prog GE 117 (cFd fdX) := by
 intro args acs r hh β M w hR hw ha
 unfold cFd at hh
 split at hh
 ·rename_i a b c d t
  simp only [Option.some.injEq, Prod.mk.injEq, true_and] at hh
  subst hh
  exact pok_e en2_ok (of_eq (fold_e adS adC stLX stHX blX [a, b, c, d] t) (bif_of (lc_fd _ _ 1) (bif_of (lc_fd _ _ 2) rfl))) rfl rfl hR
 ·cases hh
theorem en3_ok : EnvOk Tryz.prog (EN3 rwX fdX) := ⟨PT.add_ok (PT.add_ok (noT_ok _ _) row_ok) fold_ok, noC_ok _ _⟩
abbrev tmX : W6 → W6 → W6 := tmW rwX fdX
theorem times_ok : POk Tryz.prog GE 99 (ct2 tmX) := pok2 en3_ok fun a b => of_eq (times_e rwX fdX a b) rfl
end Go.Proofs.YtdfghknonbmadaaGreatDoor
namespace Go.Proofs.YtdfghknonbmadaaGreatDoor
open Go.RowKit
set_option linter.unusedVariables false
set_option linter.unusedSimpArgs false
set_option maxRecDepth 100000
def lwX (a : W6) : B6 := -(a.getD 0 0 &&& BitVec.ofInt 64 1)
def mkX (b : Bool) : B6 := bif b then -BitVec.ofInt 64 1 else -BitVec.ofInt 64 0
theorem low_ok : POk Tryz.prog GE 113 (cLo lwX) := by
 intro args acs r hh β M w hR hw ha
 unfold cLo at hh
 split at hh
 ·rename_i a b c d
  simp only [Option.some.injEq, Prod.mk.injEq, true_and] at hh
  subst hh
  exact pok_e en_ok (show vf Tryz.prog (EN adS adC sbS sbC) noL 113 [.a64 [a, b, c, d]] GE (fun r _ => r = .w64 (lwX [a, b, c, d])) from of_eq (show _ = (SV.w64 (lwX [a, b, c, d]) = SV.w64 (lwX [a, b, c, d])) by kernel_rfl) rfl) rfl rfl hR
 ·cases hh
theorem mask_ok : POk Tryz.prog GE 123 (cMk mkX) := by
 intro args acs r hh β M w hR hw ha
 unfold cMk at hh
 split at hh
 ·rename_i b
  simp only [Option.some.injEq, Prod.mk.injEq, true_and] at hh
  subst hh
  cases b
  ·exact pok_e en_ok (show vf Tryz.prog (EN adS adC sbS sbC) noL 123 [.b false] GE (fun r _ => r = .w64 (mkX false)) from of_eq (show _ = (SV.w64 (mkX false) = SV.w64 (mkX false)) by kernel_rfl) rfl) rfl rfl hR
  ·exact pok_e en_ok (show vf Tryz.prog (EN adS adC sbS sbC) noL 123 [.b true] GE (fun r _ => r = .w64 (mkX true)) from of_eq (show _ = (SV.w64 (mkX true) = SV.w64 (mkX true)) by kernel_rfl) rfl) rfl rfl hR
 ·cases hh
theorem en4_ok : EnvOk Tryz.prog (EN4 tmX (plS adS adC) sbS sbC blX pkW alW lwX mkX) := ⟨PT.add_ok (PT.add_ok (PT.add_ok (PT.add_ok (PT.add_ok (PT.add_ok (PT.add_ok (PT.add_ok (noT_ok _ _) times_ok) plus_ok) minus_ok) below_ok) pick_ok) alike_ok) low_ok) mask_ok, noC_ok _ _⟩
theorem mul_ok : POk Tryz.prog GE 62 (ct2 tmX) := pok2 en4_ok fun a b => of_eq (mul_e tmX (plS adS adC) sbS sbC blX pkW alW lwX mkX a b) rfl
def adX (a b : W6) : W6 := blX (w4 (plS adS adC a b))
theorem add_ok : POk Tryz.prog GE 96 (ct2 adX) := pok2 en4_ok fun a b => of_eq (add_e tmX (plS adS adC) sbS sbC blX pkW alW lwX mkX a b) rfl
def sbX (a b : W6) : W6 := sbW (plS adS adC) sbS sbC pkW a b
theorem sub_ok : POk Tryz.prog GE 95 (ct2 sbX) := pok2 en4_ok fun a b => of_eq (sub_e tmX (plS adS adC) sbS sbC blX pkW alW lwX mkX a b) rfl
def smX (a b : W6) : Bool := alW a b != BitVec.ofInt 64 0
theorem same_ok : POk Tryz.prog GE 63 (ct2b smX) := by
 intro args acs r hh β M w hR hw ha
 unfold ct2b at hh
 split at hh
 ·rename_i a b c d e f g i
  simp only [Option.some.injEq, Prod.mk.injEq, true_and] at hh
  subst hh
  exact pok_e en4_ok (of_eq (same_e tmX (plS adS adC) sbS sbC blX pkW alW lwX mkX [a, b, c, d] [e, f, g, i]) rfl) rfl rfl hR
 ·cases hh
theorem choose_ok : POk Tryz.prog GE 121 (cPk pkW) := by
 intro args acs r hh β M w hR hw ha
 unfold cPk at hh
 split at hh
 ·rename_i m a b c d e f g i
  simp only [Option.some.injEq, Prod.mk.injEq, true_and] at hh
  subst hh
  exact pok_e en4_ok (of_eq (choose_e tmX (plS adS adC) sbS sbC blX pkW alW lwX mkX [a, b, c, d] [e, f, g, i] m) rfl) rfl rfl hR
 ·cases hh
def zX (n : BitVec 32) : W6 := [n.setWidth 64, 0, 0, 0]
theorem smallE_ok : POk Tryz.prog GE 94 (ctS zX) := by
 intro args acs r hh β M w hR hw ha
 unfold ctS at hh
 split at hh
 ·rename_i n
  simp only [Option.some.injEq, Prod.mk.injEq, true_and] at hh
  subst hh
  exact pok_e en4_ok (of_eq (small_e tmX (plS adS adC) sbS sbC blX pkW alW lwX mkX n) rfl) rfl rfl hR
 ·cases hh
theorem ej1_ok : EnvOk Tryz.prog (Ej1 tmX) := ⟨PT.add_ok (noT_ok _ _) mul_ok, noC_ok _ _⟩
theorem loopJ (f s : W6) (n : Nat) (hn : n ≤ 1000) : ∀ fr M K, vLoop GE 17 (iJ n 0) (MJ f s) oJ (MJ (sqX tmX f n) s) fr M K → Wp Tryz.prog GE GE (loopOf Tryz.prog 130 0) fr M K := by
 refine loop_next ej1_ok mixed (noL_ok _ _ _ _) (Nat.le_refl _) (by kernel_rfl) (iJ n) (fun j => MJ (sqX tmX f j) s) (fun j => j ≤ n) (fun j => n - j) (fun j => j + 1) 0 (Nat.zero_le _) (fun j hj => of_eq (vrJ tmX (sqX tmX f j) (sqX tmX f (j + 1)) (sqX tmX f n) s n j _) ?_)
 have hnext : sqX tmX f (j + 1) = tmX (w4 (sqX tmX f j)) (w4 (sqX tmX f j)) := rfl
 have hfin : j = n → sqX tmX f j = sqX tmX f n := fun e => by rw [e]
 rw [hnext]
 generalize sqX tmX f n = z at hfin
 generalize sqX tmX f j = x at hfin
 cases hq : ilt (j : Int) (n : Int)
 ·have hj2 : j = n := by rw [ilt_eq] at hq; have := of_decide_eq_false hq; omega
  exact ⟨rfl, rfl, rfl, rfl, ⟨rfl, rfl⟩, ⟨rfl, rfl⟩, ⟨rfl, rfl⟩, ⟨rfl, rfl⟩, ⟨rfl, rfl⟩, ⟨rfl, congrArg (fun x => Cont.a64 (w4 x)) (hfin hj2)⟩, ⟨rfl, rfl⟩, ⟨rfl, rfl⟩, trivial⟩
 ·have hj2 : j < n := by rw [ilt_eq] at hq; have := of_decide_eq_true hq; omega
  exact bif_of (inI_iff.2 (by omega)) ⟨⟨by omega, by omega⟩, rfl, rfl, rfl, rfl, rfl, ⟨rfl, rfl⟩, ⟨rfl, rfl⟩, ⟨rfl, rfl⟩, ⟨rfl, rfl⟩, ⟨rfl, rfl⟩, ⟨rfl, rfl⟩, ⟨rfl, rfl⟩, ⟨rfl, rfl⟩, trivial⟩
def cJo (J : W6 → W6 → Nat → W6) : List SV → List Cont → Option (Bool × SV)
 | [.a64 [a, b, c, d], .a64 [e, f, g, h], .i n], _ => some (ile 0 n && ile n 1000, .a64 (w4 (J [a, b, c, d] [e, f, g, h] n.toNat)))
 | _, _ => none
def joX (a b : W6) (n : Nat) : W6 := tmX (w4 (sqX tmX a n)) b
theorem join_ok : POk Tryz.prog GE 130 (cJo joX) := by
 intro args acs r hh β M w hR hw ha
 unfold cJo at hh
 split at hh
 ·rename_i a b c d e f g h n
  simp only [Option.some.injEq, Prod.mk.injEq] at hh
  obtain ⟨h1, rfl⟩ := hh
  have h1 := Bool.and_eq_true_iff.1 h1
  rw [ile_eq, ile_eq] at h1
  have z1 := of_decide_eq_true h1.1
  have z2 := of_decide_eq_true h1.2
  obtain ⟨m, rfl⟩ : ∃ m : Nat, n = (m : Int) := ⟨n.toNat, by omega⟩
  rw [Int.toNat_natCast]
  refine pure0 (vf_ok ej1_ok mixed (LT.add_ok (noL_ok _ _ _ _) (loopJ [a, b, c, d] [e, f, g, h] m (by omega))) (of_eq (vaJ tmX [a, b, c, d] (sqX tmX [a, b, c, d] m) [e, f, g, h] m _) ?_)) rfl rfl hR
  exact ⟨rfl, rfl, rfl, rfl, rfl, rfl, ⟨rfl, rfl⟩, ⟨rfl, rfl⟩, ⟨rfl, rfl⟩, ⟨rfl, rfl⟩, ⟨rfl, rfl⟩, ⟨rfl, rfl⟩, ⟨rfl, rfl⟩, ⟨rfl, rfl⟩, rfl⟩
 ·cases hh
def EJ (J : W6 → W6 → Nat → W6) : Env := ⟨GE, noT.add 130 (cJo J), noC⟩
theorem ej_ok : EnvOk Tryz.prog (EJ joX) := ⟨PT.add_ok (noT_ok _ _) join_ok, noC_ok _ _⟩
def onW (J : W6 → W6 → Nat → W6) (a : W6) : W6 :=
 let two := w4 (J a a 1)
 let four := w4 (J two two 2)
 let five := w4 (J four a 1)
 let ten := w4 (J five five 5)
 let twenty := w4 (J ten ten 10)
 let forty := w4 (J twenty twenty 20)
 let fifty := w4 (J forty ten 10)
 let hundred := w4 (J fifty fifty 50)
 let twoh := w4 (J hundred hundred 100)
 J twoh fifty 50
theorem ones_e (J : W6 → W6 → Nat → W6) (a : W6) : vf Tryz.prog (EJ J) noL 125 [.a64 (w4 a)] GE (fun r _ => r = .a64 (w4 (onW J (w4 a)))) = (SV.a64 (w4 (onW J (w4 a))) = SV.a64 (w4 (onW J (w4 a)))) := by kernel_rfl
end Go.Proofs.YtdfghknonbmadaaGreatDoor
