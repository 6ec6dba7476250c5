/-
  link: numbers as bytes, bytes as numbers, texts that are copied. No statement is proved here.
-/
import Derived.Test.YtedcileokcbohaaDoorLiA
namespace Go.Proofs.YtedcileokcbohaaDoor
open Go.RowKit
set_option linter.unusedVariables false
set_option linter.unusedSimpArgs false
set_option maxRecDepth 100000

-- number, Value
def nmN (l : Tx) : Nat → BitVec 32
  | 0 => 0
  | j + 1 => nmN l j <<< 8 ||| (l.getD j 0).setWidth 32
def vlN (l : Tx) : Nat → BitVec 64
  | 0 => 0
  | j + 1 => vlN l j <<< 8 ||| (l.getD j 0).setWidth 64
def iNm (l : Tx) (x : BitVec 32) (j : Nat) : List (Nat × SV) := [(0, .s l), (3, .w32 x), (6, .i (l.length : Nat)), (7, .i (j : Nat))]
def oNm (x : BitVec 32) : List (Nat × SV) := [(3, .w32 x)]
def iVl (l : Tx) (x : BitVec 64) (j : Nat) : List (Nat × SV) := [(0, .s l), (3, .w64 x), (4, .i (j : Nat))]
def oVl (x : BitVec 64) : List (Nat × SV) := [(3, .w64 x)]
def LNm (l : Tx) (x : BitVec 32) : LT := noL.add 0 (vLoop G 19 (iNm l 0 0) G (oNm x) G)
def LVl (l : Tx) (x : BitVec 64) : LT := noL.add 0 (vLoop G 19 (iVl l 0 0) G (oVl x) G)
theorem vNm (l : Tx) (x : BitVec 32) (K : SV → Prop) : (vf Tryd.prog E0 (LNm l x) 39 [.s l] G (fun r _ => K r)) = (loopOf Tryd.prog 39 0 = loopOf Tryd.prog 39 0 ∧ SV.s l = SV.s l ∧ SV.w32 (BitVec.ofInt 32 0) = SV.w32 0 ∧ SV.i (↑(List.length l) : Int) = SV.i (↑(List.length l) : Int) ∧ SV.i 0 = SV.i (↑0 : Int) ∧ (false = false ∧ Cont.a8 HD = Cont.a8 HD) ∧ K (SV.w32 x)) := by kernel_rfl
theorem rNm (l : Tx) (x y z : BitVec 32) (j : Nat) (p : Prop) : (frK 19 (iNm l x j) fun fr => vround Tryd.prog E0 noL 39 0 fr G (Kn G 0 19 p (iNm l y (j + 1)) G (oNm z) G)) = (bif ilt (↑j : Int) (↑(List.length l) : Int) then bif inR (↑j : Int) (List.length l) then bif inI ((↑j : Int) + 1) then p ∧ SV.s l = SV.s l ∧ SV.w32 (x <<< 8 ||| BitVec.setWidth 32 (List.getD l j 0)) = SV.w32 y ∧ SV.i (↑(List.length l) : Int) = SV.i (↑(List.length l) : Int) ∧ SV.i ((↑j : Int) + 1) = SV.i (↑(j + 1) : Int) ∧ (false = false ∧ Cont.a8 HD = Cont.a8 HD) ∧ True else False else False else 0 = 0 ∧ SV.w32 x = SV.w32 z ∧ (false = false ∧ Cont.a8 HD = Cont.a8 HD) ∧ True) := by kernel_rfl
theorem vVl (l : Tx) (x : BitVec 64) (K : SV → Prop) : (vf Tryd.prog E0 (LVl l x) 41 [.s l] G (fun r _ => K r)) = (loopOf Tryd.prog 41 0 = loopOf Tryd.prog 41 0 ∧ SV.s l = SV.s l ∧ SV.w64 (BitVec.ofInt 64 0) = SV.w64 0 ∧ SV.i 0 = SV.i (↑0 : Int) ∧ (false = false ∧ Cont.a8 HD = Cont.a8 HD) ∧ K (SV.w64 x)) := by kernel_rfl
theorem rVl (l : Tx) (x y z : BitVec 64) (j : Nat) (p : Prop) : (frK 19 (iVl l x j) fun fr => vround Tryd.prog E0 noL 41 0 fr G (Kn G 0 19 p (iVl l y (j + 1)) G (oVl z) G)) = (bif ilt (↑j : Int) (↑(List.length l) : Int) then bif inR (↑j : Int) (List.length l) then bif inI ((↑j : Int) + 1) then p ∧ SV.s l = SV.s l ∧ SV.w64 (x <<< 8 ||| BitVec.setWidth 64 (List.getD l j 0)) = SV.w64 y ∧ SV.i ((↑j : Int) + 1) = SV.i (↑(j + 1) : Int) ∧ (false = false ∧ Cont.a8 HD = Cont.a8 HD) ∧ True else False else False else 0 = 0 ∧ SV.w64 x = SV.w64 z ∧ (false = false ∧ Cont.a8 HD = Cont.a8 HD) ∧ True) := by kernel_rfl
def flagT : Nat := 1000000
def ET : Env := ⟨G, T0.add flagT cFlag, noC⟩
theorem et_ok : EnvOk Tryd.prog ET := ⟨PT.add_ok t0_ok (flag_ok _), noC_ok _ _⟩
theorem v57 (l : Tx) (K : SV → Prop) : (vf Tryd.prog ET noL 57 [.s l] G (fun r _ => K r)) = (bif (↑(List.length l) : Int) == (0 : Int) then K (SV.s (bts { data := #[] })) else bif ile (↑(List.length l) : Int) (↑(List.length l) : Int) && ile (↑(List.length l) : Int) (140737488355328 : Int) then bif ((0 : Nat) + List.length l).ble (List.replicate (List.length l) (0 : BitVec (8 : Nat))).length then bif inR (0 : Int) (List.length l) then bif (↑(List.length l) : Int) == (0 : Int) then K (SV.s []) else bif ile (↑(List.length l) : Int) (↑(List.take (0 : Nat) (List.replicate (List.length l) (0 : BitVec (8 : Nat))) ++ List.take (List.length l) l ++ List.drop ((0 : Nat) + min (List.length l) (List.length l)) (List.replicate (List.length l) (0 : BitVec (8 : Nat)))).length : Int) && ile (↑(List.length l) : Int) (1099511627776 : Int) then K (SV.s (List.take (List.length l) (List.take (0 : Nat) (List.replicate (List.length l) (0 : BitVec (8 : Nat))) ++ List.take (List.length l) l ++ List.drop ((0 : Nat) + min (List.length l) (List.length l)) (List.replicate (List.length l) (0 : BitVec (8 : Nat)))))) else False else False else False else False) := by kernel_rfl
def Br (x : BitVec 32) : Mm := [⟨false, .a8 HD⟩, ⟨false, .a32 [x]⟩]
def L34 (P : Program) : LT := (noL.add 2 (vUn P E0 noL 34 2 5))
def L34b (P : Program) : LT := (L34 P).add 0 (vUn P E0 (L34 P) 34 0 2)
theorem v34a (x : BitVec 32) (c : Nat) (K : SV → Prop) : (vf Tryd.prog E0 (L34b Tryd.prog) 34 [.i 2, .sl 1 0 1 c] (Br x) (fun r _ => K r)) = (loopOf Tryd.prog (34 : Nat) (0 : Nat) = loopOf Tryd.prog (34 : Nat) (0 : Nat) ∧ loopOf Tryd.prog (34 : Nat) (2 : Nat) = loopOf Tryd.prog (34 : Nat) (2 : Nat) ∧ ∀ (cap' : Nat) (rest : List (BitVec (8 : Nat))), (0 : Nat) + (List.take (1 : Nat) (List.drop (0 : Nat) [BitVec.setWidth (8 : Nat) ([x].getD (0 : Nat) (0 : BitVec (32 : Nat)) >>> (8 : Nat))])).length + rest.length = cap' → bif decide ((0 : Nat) + (List.take (1 : Nat) (List.drop (0 : Nat) [BitVec.setWidth (8 : Nat) ([x].getD (0 : Nat) (0 : BitVec (32 : Nat)) >>> (8 : Nat))])).length ≤ cap') && decide ((List.take (0 : Nat) (List.replicate (2 : Nat) (0 : BitVec (8 : Nat))) ++ List.take (1 : Nat) (List.drop (0 : Nat) [BitVec.setWidth (8 : Nat) ([x].getD (0 : Nat) (0 : BitVec (32 : Nat)) >>> (8 : Nat))]) ++ rest).length = cap') && true && true then ∀ (cap' : Nat) (rest_1 : List (BitVec (8 : Nat))), (0 : Nat) + (List.take (1 : Nat) (List.drop (0 : Nat) [BitVec.setWidth (8 : Nat) ([x].getD (0 : Nat) (0 : BitVec (32 : Nat)) >>> (8 : Nat))])).length + (List.take (1 : Nat) (List.drop (0 : Nat) [BitVec.setWidth (8 : Nat) ([x].getD (0 : Nat) (0 : BitVec (32 : Nat)) >>> (0 : Nat))])).length + rest_1.length = cap' → K (SV.s (List.take ((0 : Nat) + (List.take (1 : Nat) (List.drop (0 : Nat) [BitVec.setWidth (8 : Nat) ([x].getD (0 : Nat) (0 : BitVec (32 : Nat)) >>> (8 : Nat))])).length + (List.take (1 : Nat) (List.drop (0 : Nat) [BitVec.setWidth (8 : Nat) ([x].getD (0 : Nat) (0 : BitVec (32 : Nat)) >>> (0 : Nat))])).length) (List.drop (0 : Nat) (List.take ((0 : Nat) + (List.take (1 : Nat) (List.drop (0 : Nat) [BitVec.setWidth (8 : Nat) ([x].getD (0 : Nat) (0 : BitVec (32 : Nat)) >>> (8 : Nat))])).length) (List.take (0 : Nat) (List.replicate (2 : Nat) (0 : BitVec (8 : Nat))) ++ List.take (1 : Nat) (List.drop (0 : Nat) [BitVec.setWidth (8 : Nat) ([x].getD (0 : Nat) (0 : BitVec (32 : Nat)) >>> (8 : Nat))]) ++ rest) ++ List.take (1 : Nat) (List.drop (0 : Nat) [BitVec.setWidth (8 : Nat) ([x].getD (0 : Nat) (0 : BitVec (32 : Nat)) >>> (0 : Nat))]) ++ rest_1)))) else False) := by kernel_rfl
theorem v34b (x : BitVec 32) (c : Nat) (K : SV → Prop) : (vf Tryd.prog E0 (L34b Tryd.prog) 34 [.i 4, .sl 1 0 1 c] (Br x) (fun r _ => K r)) = (loopOf Tryd.prog (34 : Nat) (0 : Nat) = loopOf Tryd.prog (34 : Nat) (0 : Nat) ∧ loopOf Tryd.prog (34 : Nat) (2 : Nat) = loopOf Tryd.prog (34 : Nat) (2 : Nat) ∧ ∀ (cap' : Nat) (rest : List (BitVec (8 : Nat))), (0 : Nat) + (List.take (1 : Nat) (List.drop (0 : Nat) [BitVec.setWidth (8 : Nat) ([x].getD (0 : Nat) (0 : BitVec (32 : Nat)) >>> (24 : Nat))])).length + rest.length = cap' → bif decide ((0 : Nat) + (List.take (1 : Nat) (List.drop (0 : Nat) [BitVec.setWidth (8 : Nat) ([x].getD (0 : Nat) (0 : BitVec (32 : Nat)) >>> (24 : Nat))])).length ≤ cap') && decide ((List.take (0 : Nat) (List.replicate (4 : Nat) (0 : BitVec (8 : Nat))) ++ List.take (1 : Nat) (List.drop (0 : Nat) [BitVec.setWidth (8 : Nat) ([x].getD (0 : Nat) (0 : BitVec (32 : Nat)) >>> (24 : Nat))]) ++ rest).length = cap') && true && true then ∀ (cap' : Nat) (rest_1 : List (BitVec (8 : Nat))), (0 : Nat) + (List.take (1 : Nat) (List.drop (0 : Nat) [BitVec.setWidth (8 : Nat) ([x].getD (0 : Nat) (0 : BitVec (32 : Nat)) >>> (24 : Nat))])).length + (List.take (1 : Nat) (List.drop (0 : Nat) [BitVec.setWidth (8 : Nat) ([x].getD (0 : Nat) (0 : BitVec (32 : Nat)) >>> (16 : Nat))])).length + rest_1.length = cap' → bif decide ((0 : Nat) + (List.take (1 : Nat) (List.drop (0 : Nat) [BitVec.setWidth (8 : Nat) ([x].getD (0 : Nat) (0 : BitVec (32 : Nat)) >>> (24 : Nat))])).length + (List.take (1 : Nat) (List.drop (0 : Nat) [BitVec.setWidth (8 : Nat) ([x].getD (0 : Nat) (0 : BitVec (32 : Nat)) >>> (16 : Nat))])).length ≤ cap') && decide ((List.take ((0 : Nat) + (List.take (1 : Nat) (List.drop (0 : Nat) [BitVec.setWidth (8 : Nat) ([x].getD (0 : Nat) (0 : BitVec (32 : Nat)) >>> (24 : Nat))])).length) (List.take (0 : Nat) (List.replicate (4 : Nat) (0 : BitVec (8 : Nat))) ++ List.take (1 : Nat) (List.drop (0 : Nat) [BitVec.setWidth (8 : Nat) ([x].getD (0 : Nat) (0 : BitVec (32 : Nat)) >>> (24 : Nat))]) ++ rest) ++ List.take (1 : Nat) (List.drop (0 : Nat) [BitVec.setWidth (8 : Nat) ([x].getD (0 : Nat) (0 : BitVec (32 : Nat)) >>> (16 : Nat))]) ++ rest_1).length = cap') && true && true then ∀ (cap' : Nat) (rest_2 : List (BitVec (8 : Nat))), (0 : Nat) + (List.take (1 : Nat) (List.drop (0 : Nat) [BitVec.setWidth (8 : Nat) ([x].getD (0 : Nat) (0 : BitVec (32 : Nat)) >>> (24 : Nat))])).length + (List.take (1 : Nat) (List.drop (0 : Nat) [BitVec.setWidth (8 : Nat) ([x].getD (0 : Nat) (0 : BitVec (32 : Nat)) >>> (16 : Nat))])).length + (List.take (1 : Nat) (List.drop (0 : Nat) [BitVec.setWidth (8 : Nat) ([x].getD (0 : Nat) (0 : BitVec (32 : Nat)) >>> (8 : Nat))])).length + rest_2.length = cap' → bif decide ((0 : Nat) + (List.take (1 : Nat) (List.drop (0 : Nat) [BitVec.setWidth (8 : Nat) ([x].getD (0 : Nat) (0 : BitVec (32 : Nat)) >>> (24 : Nat))])).length + (List.take (1 : Nat) (List.drop (0 : Nat) [BitVec.setWidth (8 : Nat) ([x].getD (0 : Nat) (0 : BitVec (32 : Nat)) >>> (16 : Nat))])).length + (List.take (1 : Nat) (List.drop (0 : Nat) [BitVec.setWidth (8 : Nat) ([x].getD (0 : Nat) (0 : BitVec (32 : Nat)) >>> (8 : Nat))])).length ≤ cap') && decide ((List.take ((0 : Nat) + (List.take (1 : Nat) (List.drop (0 : Nat) [BitVec.setWidth (8 : Nat) ([x].getD (0 : Nat) (0 : BitVec (32 : Nat)) >>> (24 : Nat))])).length + (List.take (1 : Nat) (List.drop (0 : Nat) [BitVec.setWidth (8 : Nat) ([x].getD (0 : Nat) (0 : BitVec (32 : Nat)) >>> (16 : Nat))])).length) (List.take ((0 : Nat) + (List.take (1 : Nat) (List.drop (0 : Nat) [BitVec.setWidth (8 : Nat) ([x].getD (0 : Nat) (0 : BitVec (32 : Nat)) >>> (24 : Nat))])).length) (List.take (0 : Nat) (List.replicate (4 : Nat) (0 : BitVec (8 : Nat))) ++ List.take (1 : Nat) (List.drop (0 : Nat) [BitVec.setWidth (8 : Nat) ([x].getD (0 : Nat) (0 : BitVec (32 : Nat)) >>> (24 : Nat))]) ++ rest) ++ List.take (1 : Nat) (List.drop (0 : Nat) [BitVec.setWidth (8 : Nat) ([x].getD (0 : Nat) (0 : BitVec (32 : Nat)) >>> (16 : Nat))]) ++ rest_1) ++ List.take (1 : Nat) (List.drop (0 : Nat) [BitVec.setWidth (8 : Nat) ([x].getD (0 : Nat) (0 : BitVec (32 : Nat)) >>> (8 : Nat))]) ++ rest_2).length = cap') && true && true then ∀ (cap' : Nat) (rest_3 : List (BitVec (8 : Nat))), (0 : Nat) + (List.take (1 : Nat) (List.drop (0 : Nat) [BitVec.setWidth (8 : Nat) ([x].getD (0 : Nat) (0 : BitVec (32 : Nat)) >>> (24 : Nat))])).length + (List.take (1 : Nat) (List.drop (0 : Nat) [BitVec.setWidth (8 : Nat) ([x].getD (0 : Nat) (0 : BitVec (32 : Nat)) >>> (16 : Nat))])).length + (List.take (1 : Nat) (List.drop (0 : Nat) [BitVec.setWidth (8 : Nat) ([x].getD (0 : Nat) (0 : BitVec (32 : Nat)) >>> (8 : Nat))])).length + (List.take (1 : Nat) (List.drop (0 : Nat) [BitVec.setWidth (8 : Nat) ([x].getD (0 : Nat) (0 : BitVec (32 : Nat)) >>> (0 : Nat))])).length + rest_3.length = cap' → K (SV.s (List.take ((0 : Nat) + (List.take (1 : Nat) (List.drop (0 : Nat) [BitVec.setWidth (8 : Nat) ([x].getD (0 : Nat) (0 : BitVec (32 : Nat)) >>> (24 : Nat))])).length + (List.take (1 : Nat) (List.drop (0 : Nat) [BitVec.setWidth (8 : Nat) ([x].getD (0 : Nat) (0 : BitVec (32 : Nat)) >>> (16 : Nat))])).length + (List.take (1 : Nat) (List.drop (0 : Nat) [BitVec.setWidth (8 : Nat) ([x].getD (0 : Nat) (0 : BitVec (32 : Nat)) >>> (8 : Nat))])).length + (List.take (1 : Nat) (List.drop (0 : Nat) [BitVec.setWidth (8 : Nat) ([x].getD (0 : Nat) (0 : BitVec (32 : Nat)) >>> (0 : Nat))])).length) (List.drop (0 : Nat) (List.take ((0 : Nat) + (List.take (1 : Nat) (List.drop (0 : Nat) [BitVec.setWidth (8 : Nat) ([x].getD (0 : Nat) (0 : BitVec (32 : Nat)) >>> (24 : Nat))])).length + (List.take (1 : Nat) (List.drop (0 : Nat) [BitVec.setWidth (8 : Nat) ([x].getD (0 : Nat) (0 : BitVec (32 : Nat)) >>> (16 : Nat))])).length + (List.take (1 : Nat) (List.drop (0 : Nat) [BitVec.setWidth (8 : Nat) ([x].getD (0 : Nat) (0 : BitVec (32 : Nat)) >>> (8 : Nat))])).length) (List.take ((0 : Nat) + (List.take (1 : Nat) (List.drop (0 : Nat) [BitVec.setWidth (8 : Nat) ([x].getD (0 : Nat) (0 : BitVec (32 : Nat)) >>> (24 : Nat))])).length + (List.take (1 : Nat) (List.drop (0 : Nat) [BitVec.setWidth (8 : Nat) ([x].getD (0 : Nat) (0 : BitVec (32 : Nat)) >>> (16 : Nat))])).length) (List.take ((0 : Nat) + (List.take (1 : Nat) (List.drop (0 : Nat) [BitVec.setWidth (8 : Nat) ([x].getD (0 : Nat) (0 : BitVec (32 : Nat)) >>> (24 : Nat))])).length) (List.take (0 : Nat) (List.replicate (4 : Nat) (0 : BitVec (8 : Nat))) ++ List.take (1 : Nat) (List.drop (0 : Nat) [BitVec.setWidth (8 : Nat) ([x].getD (0 : Nat) (0 : BitVec (32 : Nat)) >>> (24 : Nat))]) ++ rest) ++ List.take (1 : Nat) (List.drop (0 : Nat) [BitVec.setWidth (8 : Nat) ([x].getD (0 : Nat) (0 : BitVec (32 : Nat)) >>> (16 : Nat))]) ++ rest_1) ++ List.take (1 : Nat) (List.drop (0 : Nat) [BitVec.setWidth (8 : Nat) ([x].getD (0 : Nat) (0 : BitVec (32 : Nat)) >>> (8 : Nat))]) ++ rest_2) ++ List.take (1 : Nat) (List.drop (0 : Nat) [BitVec.setWidth (8 : Nat) ([x].getD (0 : Nat) (0 : BitVec (32 : Nat)) >>> (0 : Nat))]) ++ rest_3)))) else False else False else False) := by kernel_rfl
def L36 (P : Program) : LT := noL.add 0 (vUn P E0 noL 36 0 5)
theorem v36a (x : BitVec 64) (K : SV → Prop) : (vf Tryd.prog E0 (L36 Tryd.prog) 36 [.w64 x, .i 2] G (fun r _ => K r)) = (loopOf Tryd.prog (36 : Nat) (0 : Nat) = loopOf Tryd.prog (36 : Nat) (0 : Nat) ∧ K (SV.s (List.take (2 : Nat) (List.drop (0 : Nat) (((List.replicate (2 : Nat) (0 : BitVec (8 : Nat))).set (1 : Nat) (BitVec.setWidth (8 : Nat) x)).set (0 : Nat) (BitVec.setWidth (8 : Nat) (x >>> (8 : Nat)))))))) := by kernel_rfl
theorem v36b (x : BitVec 64) (K : SV → Prop) : (vf Tryd.prog E0 (L36 Tryd.prog) 36 [.w64 x, .i 4] G (fun r _ => K r)) = (loopOf Tryd.prog (36 : Nat) (0 : Nat) = loopOf Tryd.prog (36 : Nat) (0 : Nat) ∧ K (SV.s (List.take (4 : Nat) (List.drop (0 : Nat) (((((List.replicate (4 : Nat) (0 : BitVec (8 : Nat))).set (3 : Nat) (BitVec.setWidth (8 : Nat) x)).set (2 : Nat) (BitVec.setWidth (8 : Nat) (x >>> (8 : Nat)))).set (1 : Nat) (BitVec.setWidth (8 : Nat) (x >>> (8 : Nat) >>> (8 : Nat)))).set (0 : Nat) (BitVec.setWidth (8 : Nat) (x >>> (8 : Nat) >>> (8 : Nat) >>> (8 : Nat)))))))) := by kernel_rfl
theorem loopNm (l : Tx) (hl : l.length ≤ 4294967296) : ∀ fr M K, vLoop G 19 (iNm l 0 0) G (oNm (nmN l l.length)) G fr M K → Wp Tryd.prog G G (loopOf Tryd.prog 39 0) fr M K := by
  refine loop_next e0_ok mixed (noL_ok _ _ _ _) (Nat.le_refl _) (by kernel_rfl) (fun j => iNm l (nmN l j) j) (fun _ => G) (fun j => j ≤ l.length) (fun j => l.length - j) (fun j => j + 1) 0 (Nat.zero_le _) (fun j hj => of_eq (rNm l (nmN l j) (nmN l (j + 1)) (nmN l l.length) j _) ?_)
  cases hq : ilt (j : Int) (l.length : Int)
  · have hj2 : j = l.length := by rw [ilt_eq] at hq; have := of_decide_eq_false hq; omega
    exact ⟨rfl, congrArg SV.w32 (by rw [hj2]), ⟨rfl, rfl⟩, trivial⟩
  · have hj2 : j < l.length := by rw [ilt_eq] at hq; have := of_decide_eq_true hq; omega
    exact bif_of (inR_iff.2 ⟨by omega, by omega⟩) (bif_of (inI_iff.2 (by omega)) ⟨⟨by omega, by omega⟩, rfl, rfl, rfl, rfl, ⟨rfl, rfl⟩, trivial⟩)
theorem loopVl (l : Tx) (hl : l.length ≤ 4294967296) : ∀ fr M K, vLoop G 19 (iVl l 0 0) G (oVl (vlN l l.length)) G fr M K → Wp Tryd.prog G G (loopOf Tryd.prog 41 0) fr M K := by
  refine loop_next e0_ok mixed (noL_ok _ _ _ _) (Nat.le_refl _) (by kernel_rfl) (fun j => iVl l (vlN l j) j) (fun _ => G) (fun j => j ≤ l.length) (fun j => l.length - j) (fun j => j + 1) 0 (Nat.zero_le _) (fun j hj => of_eq (rVl l (vlN l j) (vlN l (j + 1)) (vlN l l.length) j _) ?_)
  cases hq : ilt (j : Int) (l.length : Int)
  · have hj2 : j = l.length := by rw [ilt_eq] at hq; have := of_decide_eq_false hq; omega
    exact ⟨rfl, congrArg SV.w64 (by rw [hj2]), ⟨rfl, rfl⟩, trivial⟩
  · have hj2 : j < l.length := by rw [ilt_eq] at hq; have := of_decide_eq_true hq; omega
    exact bif_of (inR_iff.2 ⟨by omega, by omega⟩) (bif_of (inI_iff.2 (by omega)) ⟨⟨by omega, by omega⟩, rfl, rfl, rfl, ⟨rfl, rfl⟩, trivial⟩)
def cNm (F : Tx → BitVec 32) : List SV → List Cont → Option (Bool × SV)
  | [.s l], _ => some (Nat.ble l.length 4294967296, .w32 (F l))
  | _, _ => none
def cVl (F : Tx → BitVec 64) : List SV → List Cont → Option (Bool × SV)
  | [.s l], _ => some (Nat.ble l.length 4294967296, .w64 (F l))
  | _, _ => none
def cCl : List SV → List Cont → Option (Bool × SV)
  | [.s l], _ => some (Nat.ble l.length 4294967296, .s l)
  | _, _ => none
def nmX (l : Tx) : BitVec 32 := nmN l l.length
def vlX (l : Tx) : BitVec 64 := vlN l l.length
theorem number_ok : POk Tryd.prog G 39 (cNm nmX) := by
  intro args acs r hh β M w hR hw ha
  unfold cNm at hh
  split at hh
  · rename_i l
    simp only [Option.some.injEq, Prod.mk.injEq] at hh
    obtain ⟨hl, rfl⟩ := hh
    exact pokE (E := E0) rfl e0_ok (L := LNm l (nmN l l.length)) (LT.add_ok (noL_ok _ _ _ _) (loopNm l (Nat.le_of_ble_eq_true hl))) (vNm l _ _) ⟨rfl, rfl, rfl, rfl, rfl, ⟨rfl, rfl⟩, rfl⟩ rfl rfl hR
  · cases hh
theorem value_ok : POk Tryd.prog G 41 (cVl vlX) := by
  intro args acs r hh β M w hR hw ha
  unfold cVl at hh
  split at hh
  · rename_i l
    simp only [Option.some.injEq, Prod.mk.injEq] at hh
    obtain ⟨hl, rfl⟩ := hh
    exact pokE (E := E0) rfl e0_ok (L := LVl l (vlN l l.length)) (LT.add_ok (noL_ok _ _ _ _) (loopVl l (Nat.le_of_ble_eq_true hl))) (vVl l _ _) ⟨rfl, rfl, rfl, rfl, ⟨rfl, rfl⟩, rfl⟩ rfl rfl hR
  · cases hh
theorem sw_or (x y : BitVec 64) : (x ||| y).setWidth 32 = x.setWidth 32 ||| y.setWidth 32 := BitVec.setWidth_or
theorem vl_nm (l : Tx) : ∀ j, (vlN l j).setWidth 32 = nmN l j
  | 0 => rfl
  | j + 1 => by
    show (vlN l j <<< 8 ||| (l.getD j 0).setWidth 64).setWidth 32 = nmN l j <<< 8 ||| (l.getD j 0).setWidth 32
    rw [BitVec.setWidth_or, ← vl_nm l j]
    congr 1
    · apply BitVec.eq_of_toNat_eq
      simp only [BitVec.toNat_setWidth, BitVec.toNat_shiftLeft, Nat.shiftLeft_eq]
      omega
    · apply BitVec.eq_of_toNat_eq
      have := (l.getD j 0).isLt
      simp only [BitVec.toNat_setWidth]
      omega
theorem vl_nm16 (l : Tx) (j : Nat) : (vlN l j).setWidth 16 = (nmN l j).setWidth 16 := by
  rw [← vl_nm]
  apply BitVec.eq_of_toNat_eq
  simp only [BitVec.toNat_setWidth]
  omega
theorem clone57_ok : POk Tryd.prog G 57 cCl := by
  intro args acs r hh β M w hR hw ha
  unfold cCl at hh
  split at hh
  · rename_i l
    simp only [Option.some.injEq, Prod.mk.injEq] at hh
    obtain ⟨hl, rfl⟩ := hh
    have hl := Nat.le_of_ble_eq_true hl
    refine pokE (E := ET) rfl et_ok (noL_ok _ _ _ _) (v57 l _) ?_ rfl rfl hR
    cases l with
    | nil => rfl
    | cons b l =>
      have h0 : (((b :: l).length : Int) == 0) = false := by
        rw [beq_eq_false_iff_ne]; simp only [List.length_cons]; omega
      generalize hm : b :: l = m at h0 hl ⊢
      have hm0 : 0 < m.length := by rw [← hm]; simp
      rw [h0]
      have e : m.take m.length ++ (List.replicate m.length (0 : BitVec 8)).drop (0 + min m.length m.length) = m := by simp
      have e2 : (List.replicate m.length (0 : BitVec 8)).take 0 ++ m.take m.length ++ (List.replicate m.length (0 : BitVec 8)).drop (0 + min m.length m.length) = m := by simp
      rw [e2]
      refine bif_of (and_t (ile_of (Int.le_refl _)) (ile_of (by omega))) (bif_of (ble_of (by simp)) (bif_of (inR_iff.2 ⟨by omega, by omega⟩) ?_))
      show bif ile (m.length : Int) (m.length : Int) && ile (m.length : Int) 1099511627776 then SV.s (m.take m.length) = SV.s m else False
      exact bif_of (and_t (ile_of (Int.le_refl _)) (ile_of (by omega))) (by rw [List.take_length])
  · cases hh
def EC : Env := ⟨G, T0.add 57 cCl, noC⟩
theorem ec_ok : EnvOk Tryd.prog EC := ⟨PT.add_ok t0_ok clone57_ok, noC_ok _ _⟩
theorem v40 (l : Tx) (K : SV → Prop) : (vf Tryd.prog EC noL 40 [.s l] G (fun r _ => K r)) = (bif (List.length l).ble 4294967296 then K (SV.s l) else False) := by kernel_rfl
theorem clone_ok : POk Tryd.prog G 40 cCl := by
  intro args acs r hh β M w hR hw ha
  unfold cCl at hh
  split at hh
  · rename_i l
    simp only [Option.some.injEq, Prod.mk.injEq] at hh
    obtain ⟨hl, rfl⟩ := hh
    exact pokE (E := EC) rfl ec_ok (noL_ok _ _ _ _) (v40 l _) (bif_of hl rfl) rfl rfl hR
  · cases hh
-- numbers, Num
def n2 (x : BitVec 32) : Tx := [(x >>> 8).setWidth 8, (x >>> 0).setWidth 8]
def n4 (x : BitVec 32) : Tx := [(x >>> 24).setWidth 8, (x >>> 16).setWidth 8, (x >>> 8).setWidth 8, (x >>> 0).setWidth 8]
def m2 (x : BitVec 64) : Tx := [(x >>> 8).setWidth 8, x.setWidth 8]
def m4 (x : BitVec 64) : Tx := [(x >>> 8 >>> 8 >>> 8).setWidth 8, (x >>> 8 >>> 8).setWidth 8, (x >>> 8).setWidth 8, x.setWidth 8]
def cNbs (F2 F4 : BitVec 32 → Tx) : List SV → List Cont → Option (Bool × SV)
  | [.i z, .sl _ off len _], [_, .a32 [x]] => bif z == 2 then some (Nat.beq off 0 && Nat.beq len 1, .s (F2 x)) else bif z == 4 then some (Nat.beq off 0 && Nat.beq len 1, .s (F4 x)) else none
  | _, _ => none
theorem a1 {cap n : Nat} {L : Tx} {rest : Tx} (h : L.length = n) (hc : n + rest.length = cap) : decide (n ≤ cap) = true ∧ decide ((L ++ rest).length = cap) = true := ⟨decide_eq_true (by omega), decide_eq_true (by rw [List.length_append]; omega)⟩
theorem s34a (x : BitVec 32) (c : Nat) : Spec Tryd.prog G 34 [.i 2, .sl 1 0 1 c] (Br x) (fun r _ => r = .s (n2 x)) := by
  refine vf_ok (E := E0) e0_ok mixed (L := L34b Tryd.prog) (LT.un_ok e0_ok mixed (LT.un_ok e0_ok mixed (noL_ok _ _ _ _) (noL_ok _ _ _ _) (by kernel_rfl) 5) (LT.un_ok e0_ok mixed (noL_ok _ _ _ _) (noL_ok _ _ _ _) (by kernel_rfl) 5) (by kernel_rfl) 2) (of_eq (v34a x c _) ⟨rfl, rfl, fun cap rest hc => ?_⟩)
  have hc : 1 + rest.length = cap := hc
  exact bif_of (and_t (and_t (and_t (decide_eq_true (show 1 ≤ cap by omega)) (decide_eq_true (show rest.length + 1 = cap by omega))) rfl) rfl) fun cap rest hc => rfl
theorem s34b (x : BitVec 32) (c : Nat) : Spec Tryd.prog G 34 [.i 4, .sl 1 0 1 c] (Br x) (fun r _ => r = .s (n4 x)) := by
  refine vf_ok (E := E0) e0_ok mixed (L := L34b Tryd.prog) (LT.un_ok e0_ok mixed (LT.un_ok e0_ok mixed (noL_ok _ _ _ _) (noL_ok _ _ _ _) (by kernel_rfl) 5) (LT.un_ok e0_ok mixed (noL_ok _ _ _ _) (noL_ok _ _ _ _) (by kernel_rfl) 5) (by kernel_rfl) 2) (of_eq (v34b x c _) ⟨rfl, rfl, fun cap rest hc => ?_⟩)
  have hc : 1 + rest.length = cap := hc
  refine bif_of (and_t (and_t (and_t (decide_eq_true (show 1 ≤ cap by omega)) (decide_eq_true (show rest.length + 1 = cap by omega))) rfl) rfl) fun cap rest hc => ?_
  have hc : 2 + rest.length = cap := hc
  refine bif_of (and_t (and_t (and_t (decide_eq_true (show 2 ≤ cap by omega)) (decide_eq_true (show rest.length + 1 + 1 = cap by omega))) rfl) rfl) fun cap rest hc => ?_
  have hc : 3 + rest.length = cap := hc
  exact bif_of (and_t (and_t (and_t (decide_eq_true (show 3 ≤ cap by omega)) (decide_eq_true (show rest.length + 1 + 1 + 1 = cap by omega))) rfl) rfl) fun cap rest hc => rfl
theorem numbers_ok : POk Tryd.prog G 34 (cNbs n2 n4) := by
  intro args acs r hh β M w hR hw ha
  unfold cNbs at hh
  split at hh
  · rename_i z k off len cap c0 x
    simp only [List.map_cons, List.map_nil, List.cons.injEq, and_true] at ha
    have hk := tgt_some (M := M) (k := k) (off := off) (len := len) (cap := cap) ha.2.symm rfl
    cases h2 : (z == 2)
    · rw [h2] at hh
      cases h4 : (z == 4)
      · rw [h4] at hh; cases hh
      · rw [h4] at hh
        simp only [cond_true, cond_false, Option.some.injEq, Prod.mk.injEq, Bool.and_eq_true] at hh
        obtain ⟨⟨h0, h1⟩, rfl⟩ := hh
        obtain rfl := Nat.eq_of_beq_eq_true h0
        obtain rfl := Nat.eq_of_beq_eq_true h1
        obtain rfl := eq_of_beq h4
        exact pure1 (c := .a32 [x]) (args0 := [.i 4, .sl 1 0 1 cap]) (s34b x cap) rfl rfl rfl rfl rfl (fun _ => rfl) hR hk
    · rw [h2] at hh
      simp only [cond_true, Option.some.injEq, Prod.mk.injEq, Bool.and_eq_true] at hh
      obtain ⟨⟨h0, h1⟩, rfl⟩ := hh
      obtain rfl := Nat.eq_of_beq_eq_true h0
      obtain rfl := Nat.eq_of_beq_eq_true h1
      obtain rfl := eq_of_beq h2
      exact pure1 (c := .a32 [x]) (args0 := [.i 2, .sl 1 0 1 cap]) (s34a x cap) rfl rfl rfl rfl rfl (fun _ => rfl) hR hk
  · cases hh
def cNum (F2 F4 : BitVec 64 → Tx) : List SV → List Cont → Option (Bool × SV)
  | [.w64 x, .i z], _ => bif z == 2 then some (true, .s (F2 x)) else bif z == 4 then some (true, .s (F4 x)) else none
  | _, _ => none
theorem num_ok : POk Tryd.prog G 36 (cNum m2 m4) := by
  intro args acs r hh β M w hR hw ha
  unfold cNum at hh
  have hL : LOk Tryd.prog E0.G G 36 (L36 Tryd.prog) := LT.un_ok e0_ok mixed (noL_ok _ _ _ _) (noL_ok _ _ _ _) (by kernel_rfl) 5
  split at hh
  · rename_i x z
    cases h2 : (z == 2)
    · rw [h2] at hh
      cases h4 : (z == 4)
      · rw [h4] at hh; cases hh
      · rw [h4] at hh
        simp only [cond_true, cond_false, Option.some.injEq, Prod.mk.injEq, true_and] at hh
        subst hh
        obtain rfl := eq_of_beq h4
        exact pokE (E := E0) rfl e0_ok hL (v36b x _) ⟨rfl, rfl⟩ rfl rfl hR
    · rw [h2] at hh
      simp only [cond_true, Option.some.injEq, Prod.mk.injEq, true_and] at hh
      subst hh
      obtain rfl := eq_of_beq h2
      exact pokE (E := E0) rfl e0_ok hL (v36a x _) ⟨rfl, rfl⟩ rfl rfl hR
  · cases hh
theorem lc {a b : BitVec 8} {l m : Tx} (h : a = b) (k : l = m) : a :: l = b :: m := by rw [h, k]
theorem m2_n2 (t : BitVec 16) : m2 (t.setWidth 64) = n2 (t.setWidth 32) := by
  have := t.isLt
  unfold m2 n2
  refine lc ?_ (lc ?_ rfl)
  all_goals
    apply BitVec.eq_of_toNat_eq
    simp only [BitVec.toNat_setWidth, BitVec.toNat_ushiftRight, Nat.shiftRight_eq_div_pow]
    omega
theorem m4_n4 (t : BitVec 32) : m4 (t.setWidth 64) = n4 t := by
  have := t.isLt
  unfold m4 n4
  refine lc ?_ (lc ?_ (lc ?_ (lc ?_ rfl)))
  all_goals
    apply BitVec.eq_of_toNat_eq
    simp only [BitVec.toNat_setWidth, BitVec.toNat_ushiftRight, Nat.shiftRight_eq_div_pow]
    omega
end Go.Proofs.YtedcileokcbohaaDoor
