/-
  aead: the document's tag. No statement is proved here.
-/
import Derived.Test.YtgjhkfafmmkimaaDoorAeE
namespace Go.Proofs.YtgjhkfafmmkimaaDoor
open Go.RowKit
set_option linter.unusedVariables false
set_option linter.unusedSimpArgs false
set_option maxRecDepth 100000

def EG (Y : Ds → Ds) (X : Ds → Ds → Ds) (R : Tx → Ds) (B : Ds → Ds) (O : Ds → Tx → Tx) : Env := ⟨G, ((((noT.add 28 (cCar Y)).add 27 (cTim X)).add 26 (cRd R)).add 29 (cCar B)).add 30 (cLow O), noC⟩
theorem eg_ok : EnvOk Tryd.prog (EG carryD timesD rdD belD lowD) := ⟨PT.add_ok (PT.add_ok (PT.add_ok (PT.add_ok (PT.add_ok (noT_ok _ _) carry_ok) times_ok) read_ok) below_ok) lowest_ok, noC_ok _ _⟩
def Mk (k : Tx) : Mm := [⟨false, .ints MX⟩, ⟨true, .a8 k⟩]
def ikt (key s : Tx) (c j : Nat) : List (Nat × SV) := [(0, .s key), (1, .s s), (4, .s []), (5, .i 0), (6, .sl 1 0 16 c), (7, .i (j : Int))]
def okt (key s : Tx) (c : Nat) : List (Nat × SV) := [(0, .s key), (1, .s s), (4, .s []), (5, .i 0), (6, .sl 1 0 16 c)]
def Ma (k : Tx) (r a : Ds) : Mm := [⟨false, .ints MX⟩, ⟨true, .a8 k⟩, ⟨true, .a64 r⟩, ⟨true, .a64 a⟩]
def Mp (k : Tx) (r a p : Ds) : Mm := [⟨false, .ints MX⟩, ⟨true, .a8 k⟩, ⟨true, .a64 r⟩, ⟨true, .a64 a⟩, ⟨true, .a64 p⟩]
def iat (key s : Tx) (m : Nat) : List (Nat × SV) := [(0, .s key), (1, .s s), (4, .s []), (5, .i 0), (8, .ptr 2 0), (9, .ptr 3 0), (10, .i ((16 * m : Nat) : Int))]
def oat (key s : Tx) : List (Nat × SV) := [(0, .s key), (1, .s s), (4, .s []), (5, .i 0), (8, .ptr 2 0), (9, .ptr 3 0)]
def ipt (key s : Tx) (m i : Nat) : List (Nat × SV) := [(0, .s key), (1, .s s), (4, .s []), (5, .i 0), (8, .ptr 2 0), (9, .ptr 3 0), (10, .i ((16 * m : Nat) : Int)), (11, .ptr 4 0), (12, .i (i : Int))]
def opt (key s : Tx) (m : Nat) : List (Nat × SV) := [(0, .s key), (1, .s s), (4, .s []), (5, .i 0), (8, .ptr 2 0), (9, .ptr 3 0), (10, .i ((16 * m : Nat) : Int)), (11, .ptr 4 0)]
def Lpt (key s k : Tx) (m : Nat) (r a p a2 : Ds) : LT := noL.add 4 (vLoop G 92 (ipt key s m 0) (Mp k r a p) (opt key s m) (Mp k r a2 p))
def capK : SV → (Nat → Prop) → Prop
  | .sl _ _ _ c, K => K c
  | _, _ => False
def slotK : List SV → Nat → (SV → Prop) → Prop
  | [], _, _ => False
  | v :: _, 0, K => K v
  | _ :: l, n + 1, K => slotK l n K
def txK : Mm → (Tx → Prop) → Prop
  | _ :: ⟨_, .a8 k⟩ :: _, K => K k
  | _, _ => False
theorem capK_ok {v : SV} {K : Nat → Prop} (h : capK v K) : ∃ c, K c := by
  unfold capK at h
  split at h
  · exact ⟨_, h⟩
  · exact h.elim
theorem slotK_ok {K : SV → Prop} : ∀ (l : List SV) (n : Nat), slotK l n K → ∃ v, K v
  | [], _, h => h.elim
  | _ :: _, 0, h => ⟨_, h⟩
  | _ :: l, n + 1, h => slotK_ok l n h
theorem txK_ok {M : Mm} {K : Tx → Prop} (h : txK M K) : ∃ c, K c := by
  unfold txK at h
  split at h
  · exact ⟨_, h⟩
  · exact h.elim
def Ltg (key s : Tx) (k k2 : Nat → Tx) (r a2 : Ds) : LT := (noL.add 0 (fun fr M K => slotK fr 6 fun v => capK v fun c => vLoop G 92 (ikt key s c 0) (Mk (k c)) (okt key s c) (Mk (k2 c)) fr M K)).add 2 (fun fr M K => txK M fun kk => vLoop G 92 (iat key s 0) (Ma kk r Z11) (oat key s) (Ma kk r a2) fr M K)
theorem vaG (Y : Ds → Ds) (X : Ds → Ds → Ds) (R : Tx → Ds) (B : Ds → Ds) (O : Ds → Tx → Tx) (key s : Tx) (k k2 : Nat → Tx) (r a2 : Ds) (K : SV → Mm → Prop) : (vf Tryd.prog (EG Y X R B O) (Ltg key s k k2 r a2) 14 [.s key, .s s] G K) = (bif (↑(List.length key) : Int) != (32 : Int) then K (SV.tup [SV.s (bts { data := #[] }), SV.i (2 : Int)]) G else bif ile (16 : Int) (↑(List.length key) : Int) then ∀ (cap : Nat) (x : List (BitVec (8 : Nat))), (List.drop (0 : Nat) (List.take (16 : Nat) key)).length ≤ cap → x = List.drop (0 : Nat) (List.take (16 : Nat) key) ++ List.replicate (cap - (List.drop (0 : Nat) (List.take (16 : Nat) key)).length) (0 : BitVec (8 : Nat)) → loopOf Tryd.prog (14 : Nat) (0 : Nat) = loopOf Tryd.prog (14 : Nat) (0 : Nat) ∧ SV.s key = SV.s key ∧ SV.s s = SV.s s ∧ SV.s (bts { data := #[] }) = SV.s [] ∧ SV.i (0 : Int) = SV.i (0 : Int) ∧ SV.sl (1 : Nat) (0 : Nat) (List.drop (0 : Nat) (List.take (16 : Nat) key)).length cap = SV.sl (1 : Nat) (0 : Nat) (16 : Nat) cap ∧ SV.i (0 : Int) = SV.i (↑(0 : Nat) : Int) ∧ (false = false ∧ Cont.ints MX = Cont.ints MX) ∧ (true = true ∧ Cont.a8 x = Cont.a8 (k cap)) ∧ bif decide ((16 : Nat) ≤ List.length (k2 cap)) then bif (List.take (16 : Nat) (List.drop (0 : Nat) (k2 cap))).length.ble (4096 : Nat) then bif (List.length (R (List.take (16 : Nat) (List.drop (0 : Nat) (k2 cap))))).beq (11 : Nat) && (List.length (R (List.take (16 : Nat) (List.drop (0 : Nat) (k2 cap))))).beq (11 : Nat) then loopOf Tryd.prog (14 : Nat) (2 : Nat) = loopOf Tryd.prog (14 : Nat) (2 : Nat) ∧ SV.s key = SV.s key ∧ SV.s s = SV.s s ∧ SV.s [] = SV.s [] ∧ SV.i (0 : Int) = SV.i (0 : Int) ∧ SV.ptr (List.length (Mk (k2 cap))) (0 : Nat) = SV.ptr (2 : Nat) (0 : Nat) ∧ SV.ptr ((0 : Nat) + (1 : Nat) + (1 : Nat) + (1 : Nat)) (0 : Nat) = SV.ptr (3 : Nat) (0 : Nat) ∧ SV.i (0 : Int) = SV.i (↑(0 : Nat) : Int) ∧ (false = false ∧ Cont.ints MX = Cont.ints MX) ∧ (true = true ∧ Cont.a8 (k2 cap) = Cont.a8 (k2 cap)) ∧ (true = true ∧ Cont.a64 (R (List.take (16 : Nat) (List.drop (0 : Nat) (k2 cap)))) = Cont.a64 r) ∧ (true = true ∧ Cont.a64 (List.replicate (11 : Nat) (0 : BitVec (64 : Nat))) = Cont.a64 Z11) ∧ bif (List.length a2).beq (11 : Nat) then bif (List.length a2).beq (11 : Nat) then bif (List.length (Y a2)).beq (11 : Nat) then bif (List.length (B (Y a2))).beq (List.length a2) && (List.length (B (Y a2))).beq (11 : Nat) then bif (List.length (B (Y a2))).beq (11 : Nat) then bif ile (16 : Int) (↑(List.length key) : Int) && ile (↑(List.length key) : Int) (↑(List.length key) : Int) then bif (List.length (B (Y a2))).beq (11 : Nat) && (List.drop (16 : Nat) (List.take (List.length key) key)).length.beq (16 : Nat) then K (SV.tup [SV.s (O (B (Y a2)) (List.drop (16 : Nat) (List.take (List.length key) key))), SV.i (0 : Int)]) [{ rw := false, c := Cont.ints MX }, { rw := true, c := Cont.a8 (k2 cap) }, { rw := true, c := Cont.a64 r }, { rw := true, c := Cont.a64 (B (Y a2)) }] else False else False else False else False else False else False else False else False else False else False else False) := by kernel_rfl
theorem vaG0 (Y : Ds → Ds) (X : Ds → Ds → Ds) (R : Tx → Ds) (B : Ds → Ds) (O : Ds → Tx → Tx) (key s : Tx) (K : SV → Mm → Prop) : (vf Tryd.prog (EG Y X R B O) noL 14 [.s key, .s s] G K) = (bif (↑(List.length key) : Int) != (32 : Int) then K (SV.tup [SV.s (bts { data := #[] }), SV.i (2 : Int)]) G else bif ile (16 : Int) (↑(List.length key) : Int) then ∀ (cap : Nat) (x : List (BitVec (8 : Nat))), (List.drop (0 : Nat) (List.take (16 : Nat) key)).length ≤ cap → x = List.drop (0 : Nat) (List.take (16 : Nat) key) ++ List.replicate (cap - (List.drop (0 : Nat) (List.take (16 : Nat) key)).length) (0 : BitVec (8 : Nat)) → loopOf Tryd.prog (14 : Nat) (0 : Nat) = loopOf Tryd.prog (14 : Nat) (0 : Nat) ∧ False else False) := by kernel_rfl
theorem vrGk (Y : Ds → Ds) (X : Ds → Ds → Ds) (R : Tx → Ds) (B : Ds → Ds) (O : Ds → Tx → Tx) (key s k k1 k2 : Tx) (c j : Nat) (p : Prop) : (frK 92 (ikt key s c j) fun fr => vround Tryd.prog (EG Y X R B O) noL 14 0 fr (Mk k) (Kn G 0 92 p (ikt key s c (j + 1)) (Mk k1) (okt key s c) (Mk k2))) = (bif ilt (↑j : Int) (16 : Int) then bif (↑j : Int).tmod (4 : Int) == (3 : Int) then bif inR (↑j : Int) (16 : Nat) then bif j.blt (List.length k) then bif inR (↑j : Int) (16 : Nat) then bif j.blt (List.length k) then bif ((↑j : Int).tmod (4 : Int) == (0 : Int)) == true then bif ((↑j : Int).tmod (4 : Int) == (0 : Int)) == true then bif bif (↑j : Int).tmod (4 : Int) == (0 : Int) then ilt (0 : Int) (↑j : Int) else false then bif inR (↑j : Int) (16 : Nat) then bif j.blt (List.set k j (List.getD k j (0 : BitVec (8 : Nat)) &&& BitVec.ofInt (8 : Nat) (15 : Int))).length then bif inR (↑j : Int) (16 : Nat) then bif j.blt (List.set k j (List.getD k j (0 : BitVec (8 : Nat)) &&& BitVec.ofInt (8 : Nat) (15 : Int))).length then bif inI ((↑j : Int) + (1 : Int)) then p ∧ SV.s key = SV.s key ∧ SV.s s = SV.s s ∧ SV.s [] = SV.s [] ∧ SV.i (0 : Int) = SV.i (0 : Int) ∧ SV.sl (1 : Nat) (0 : Nat) (16 : Nat) c = SV.sl (1 : Nat) (0 : Nat) (16 : Nat) c ∧ SV.i ((↑j : Int) + (1 : Int)) = SV.i (↑(j + (1 : Nat)) : Int) ∧ (false = false ∧ Cont.ints MX = Cont.ints MX) ∧ (true = true ∧ Cont.a8 ((List.set k j (List.getD k j (0 : BitVec (8 : Nat)) &&& BitVec.ofInt (8 : Nat) (15 : Int))).set j ((List.set k j (List.getD k j (0 : BitVec (8 : Nat)) &&& BitVec.ofInt (8 : Nat) (15 : Int))).getD j (0 : BitVec (8 : Nat)) &&& BitVec.ofInt (8 : Nat) (252 : Int))) = Cont.a8 k1) ∧ True else False else False else False else False else False else bif inI ((↑j : Int) + (1 : Int)) then p ∧ SV.s key = SV.s key ∧ SV.s s = SV.s s ∧ SV.s [] = SV.s [] ∧ SV.i (0 : Int) = SV.i (0 : Int) ∧ SV.sl (1 : Nat) (0 : Nat) (16 : Nat) c = SV.sl (1 : Nat) (0 : Nat) (16 : Nat) c ∧ SV.i ((↑j : Int) + (1 : Int)) = SV.i (↑(j + (1 : Nat)) : Int) ∧ (false = false ∧ Cont.ints MX = Cont.ints MX) ∧ (true = true ∧ Cont.a8 (List.set k j (List.getD k j (0 : BitVec (8 : Nat)) &&& BitVec.ofInt (8 : Nat) (15 : Int))) = Cont.a8 k1) ∧ True else False else bif !(↑j : Int).tmod (4 : Int) == (0 : Int) then bif inI ((↑j : Int) + (1 : Int)) then p ∧ SV.s key = SV.s key ∧ SV.s s = SV.s s ∧ SV.s [] = SV.s [] ∧ SV.i (0 : Int) = SV.i (0 : Int) ∧ SV.sl (1 : Nat) (0 : Nat) (16 : Nat) c = SV.sl (1 : Nat) (0 : Nat) (16 : Nat) c ∧ SV.i ((↑j : Int) + (1 : Int)) = SV.i (↑(j + (1 : Nat)) : Int) ∧ (false = false ∧ Cont.ints MX = Cont.ints MX) ∧ (true = true ∧ Cont.a8 (List.set k j (List.getD k j (0 : BitVec (8 : Nat)) &&& BitVec.ofInt (8 : Nat) (15 : Int))) = Cont.a8 k1) ∧ True else False else False else bif ((↑j : Int).tmod (4 : Int) == (0 : Int)) == true then False else bif !(↑j : Int).tmod (4 : Int) == (0 : Int) then bif inI ((↑j : Int) + (1 : Int)) then p ∧ SV.s key = SV.s key ∧ SV.s s = SV.s s ∧ SV.s [] = SV.s [] ∧ SV.i (0 : Int) = SV.i (0 : Int) ∧ SV.sl (1 : Nat) (0 : Nat) (16 : Nat) c = SV.sl (1 : Nat) (0 : Nat) (16 : Nat) c ∧ SV.i ((↑j : Int) + (1 : Int)) = SV.i (↑(j + (1 : Nat)) : Int) ∧ (false = false ∧ Cont.ints MX = Cont.ints MX) ∧ (true = true ∧ Cont.a8 (List.set k j (List.getD k j (0 : BitVec (8 : Nat)) &&& BitVec.ofInt (8 : Nat) (15 : Int))) = Cont.a8 k1) ∧ True else False else False else False else False else False else False else bif ((↑j : Int).tmod (4 : Int) == (0 : Int)) == true then bif ((↑j : Int).tmod (4 : Int) == (0 : Int)) == true then bif bif (↑j : Int).tmod (4 : Int) == (0 : Int) then ilt (0 : Int) (↑j : Int) else false then bif inR (↑j : Int) (16 : Nat) then bif j.blt (List.length k) then bif inR (↑j : Int) (16 : Nat) then bif j.blt (List.length k) then bif inI ((↑j : Int) + (1 : Int)) then p ∧ SV.s key = SV.s key ∧ SV.s s = SV.s s ∧ SV.s [] = SV.s [] ∧ SV.i (0 : Int) = SV.i (0 : Int) ∧ SV.sl (1 : Nat) (0 : Nat) (16 : Nat) c = SV.sl (1 : Nat) (0 : Nat) (16 : Nat) c ∧ SV.i ((↑j : Int) + (1 : Int)) = SV.i (↑(j + (1 : Nat)) : Int) ∧ (false = false ∧ Cont.ints MX = Cont.ints MX) ∧ (true = true ∧ Cont.a8 (List.set k j (List.getD k j (0 : BitVec (8 : Nat)) &&& BitVec.ofInt (8 : Nat) (252 : Int))) = Cont.a8 k1) ∧ True else False else False else False else False else False else bif inI ((↑j : Int) + (1 : Int)) then p ∧ SV.s key = SV.s key ∧ SV.s s = SV.s s ∧ SV.s [] = SV.s [] ∧ SV.i (0 : Int) = SV.i (0 : Int) ∧ SV.sl (1 : Nat) (0 : Nat) (16 : Nat) c = SV.sl (1 : Nat) (0 : Nat) (16 : Nat) c ∧ SV.i ((↑j : Int) + (1 : Int)) = SV.i (↑(j + (1 : Nat)) : Int) ∧ (false = false ∧ Cont.ints MX = Cont.ints MX) ∧ (true = true ∧ Cont.a8 k = Cont.a8 k1) ∧ True else False else bif !(↑j : Int).tmod (4 : Int) == (0 : Int) then bif inI ((↑j : Int) + (1 : Int)) then p ∧ SV.s key = SV.s key ∧ SV.s s = SV.s s ∧ SV.s [] = SV.s [] ∧ SV.i (0 : Int) = SV.i (0 : Int) ∧ SV.sl (1 : Nat) (0 : Nat) (16 : Nat) c = SV.sl (1 : Nat) (0 : Nat) (16 : Nat) c ∧ SV.i ((↑j : Int) + (1 : Int)) = SV.i (↑(j + (1 : Nat)) : Int) ∧ (false = false ∧ Cont.ints MX = Cont.ints MX) ∧ (true = true ∧ Cont.a8 k = Cont.a8 k1) ∧ True else False else False else bif ((↑j : Int).tmod (4 : Int) == (0 : Int)) == true then False else bif !(↑j : Int).tmod (4 : Int) == (0 : Int) then bif inI ((↑j : Int) + (1 : Int)) then p ∧ SV.s key = SV.s key ∧ SV.s s = SV.s s ∧ SV.s [] = SV.s [] ∧ SV.i (0 : Int) = SV.i (0 : Int) ∧ SV.sl (1 : Nat) (0 : Nat) (16 : Nat) c = SV.sl (1 : Nat) (0 : Nat) (16 : Nat) c ∧ SV.i ((↑j : Int) + (1 : Int)) = SV.i (↑(j + (1 : Nat)) : Int) ∧ (false = false ∧ Cont.ints MX = Cont.ints MX) ∧ (true = true ∧ Cont.a8 k = Cont.a8 k1) ∧ True else False else False else (0 : Nat) = (0 : Nat) ∧ SV.s key = SV.s key ∧ SV.s s = SV.s s ∧ SV.s [] = SV.s [] ∧ SV.i (0 : Int) = SV.i (0 : Int) ∧ SV.sl (1 : Nat) (0 : Nat) (16 : Nat) c = SV.sl (1 : Nat) (0 : Nat) (16 : Nat) c ∧ (false = false ∧ Cont.ints MX = Cont.ints MX) ∧ (true = true ∧ Cont.a8 k = Cont.a8 k2) ∧ True) := by kernel_rfl
theorem vrGa (Y : Ds → Ds) (X : Ds → Ds → Ds) (R : Tx → Ds) (B : Ds → Ds) (O : Ds → Tx → Tx) (key s k : Tx) (m mm : Nat) (r a pp a2 a1 a3 : Ds) (p : Prop) : (frK 92 (iat key s m) fun fr => vround Tryd.prog (EG Y X R B O) (Lpt key s k mm r a pp a2) 14 2 fr (Ma k r a) (Kn G 2 92 p (iat key s (m + 1)) (Ma k r a1) (oat key s) (Ma k r a3))) = (bif ilt (↑((16 : Nat) * m) : Int) (↑(List.length s) : Int) then bif inI ((↑((16 : Nat) * m) : Int) + (16 : Int)) then bif ile (↑((16 : Nat) * m) : Int) (bif ilt (↑(List.length s) : Int) ((↑((16 : Nat) * m) : Int) + (16 : Int)) then (↑(List.length s) : Int) else (↑((16 : Nat) * m) : Int) + (16 : Int)) && ile (bif ilt (↑(List.length s) : Int) ((↑((16 : Nat) * m) : Int) + (16 : Int)) then (↑(List.length s) : Int) else (↑((16 : Nat) * m) : Int) + (16 : Int)) (↑(List.length s) : Int) then bif ile (↑((List.drop ((16 : Nat) * m) (List.take (bif ilt (↑(List.length s) : Int) ((↑((16 : Nat) * m) : Int) + (16 : Int)) then (↑(List.length s) : Int) else (↑((16 : Nat) * m) : Int) + (16 : Int)).toNat s)).length + (1 : Nat)) : Int) (9223372036854775807 : Int) then bif (List.drop ((16 : Nat) * m) (List.take (bif ilt (↑(List.length s) : Int) ((↑((16 : Nat) * m) : Int) + (16 : Int)) then (↑(List.length s) : Int) else (↑((16 : Nat) * m) : Int) + (16 : Int)).toNat s) ++ bts { data := #[(1 : UInt8)] }).length.ble (4096 : Nat) then bif (List.length (R (List.drop ((16 : Nat) * m) (List.take (bif ilt (↑(List.length s) : Int) ((↑((16 : Nat) * m) : Int) + (16 : Int)) then (↑(List.length s) : Int) else (↑((16 : Nat) * m) : Int) + (16 : Int)).toNat s) ++ bts { data := #[(1 : UInt8)] }))).beq (11 : Nat) && (List.length (R (List.drop ((16 : Nat) * m) (List.take (bif ilt (↑(List.length s) : Int) ((↑((16 : Nat) * m) : Int) + (16 : Int)) then (↑(List.length s) : Int) else (↑((16 : Nat) * m) : Int) + (16 : Int)).toNat s) ++ bts { data := #[(1 : UInt8)] }))).beq (11 : Nat) then loopOf Tryd.prog (14 : Nat) (4 : Nat) = loopOf Tryd.prog (14 : Nat) (4 : Nat) ∧ SV.s key = SV.s key ∧ SV.s s = SV.s s ∧ SV.s [] = SV.s [] ∧ SV.i (0 : Int) = SV.i (0 : Int) ∧ SV.ptr (2 : Nat) (0 : Nat) = SV.ptr (2 : Nat) (0 : Nat) ∧ SV.ptr (3 : Nat) (0 : Nat) = SV.ptr (3 : Nat) (0 : Nat) ∧ SV.i (↑((16 : Nat) * m) : Int) = SV.i (↑((16 : Nat) * mm) : Int) ∧ SV.ptr (List.length (Ma k r a)) (0 : Nat) = SV.ptr (4 : Nat) (0 : Nat) ∧ SV.i (0 : Int) = SV.i (↑(0 : Nat) : Int) ∧ (false = false ∧ Cont.ints MX = Cont.ints MX) ∧ (true = true ∧ Cont.a8 k = Cont.a8 k) ∧ (true = true ∧ Cont.a64 r = Cont.a64 r) ∧ (true = true ∧ Cont.a64 a = Cont.a64 a) ∧ (true = true ∧ Cont.a64 (R (List.drop ((16 : Nat) * m) (List.take (bif ilt (↑(List.length s) : Int) ((↑((16 : Nat) * m) : Int) + (16 : Int)) then (↑(List.length s) : Int) else (↑((16 : Nat) * m) : Int) + (16 : Int)).toNat s) ++ bts { data := #[(1 : UInt8)] })) = Cont.a64 pp) ∧ bif (List.length a2).beq (11 : Nat) then bif (List.length a2).beq (11 : Nat) then bif (List.length r).beq (11 : Nat) then bif (List.length (Y a2)).beq (11 : Nat) && (List.length r).beq (11 : Nat) then bif (List.length (X (Y a2) r)).beq (List.length a2) && (List.length (X (Y a2) r)).beq (11 : Nat) then bif inI ((↑((16 : Nat) * mm) : Int) + (16 : Int)) then p ∧ SV.s key = SV.s key ∧ SV.s s = SV.s s ∧ SV.s [] = SV.s [] ∧ SV.i (0 : Int) = SV.i (0 : Int) ∧ SV.ptr (2 : Nat) (0 : Nat) = SV.ptr (2 : Nat) (0 : Nat) ∧ SV.ptr (3 : Nat) (0 : Nat) = SV.ptr (3 : Nat) (0 : Nat) ∧ SV.i ((↑((16 : Nat) * mm) : Int) + (16 : Int)) = SV.i (↑((16 : Nat) * (m + (1 : Nat))) : Int) ∧ (false = false ∧ Cont.ints MX = Cont.ints MX) ∧ (true = true ∧ Cont.a8 k = Cont.a8 k) ∧ (true = true ∧ Cont.a64 r = Cont.a64 r) ∧ (true = true ∧ Cont.a64 (X (Y a2) r) = Cont.a64 a1) ∧ True else False else False else False else False else False else False else False else False else False else False else False else (2 : Nat) = (2 : Nat) ∧ SV.s key = SV.s key ∧ SV.s s = SV.s s ∧ SV.s [] = SV.s [] ∧ SV.i (0 : Int) = SV.i (0 : Int) ∧ SV.ptr (2 : Nat) (0 : Nat) = SV.ptr (2 : Nat) (0 : Nat) ∧ SV.ptr (3 : Nat) (0 : Nat) = SV.ptr (3 : Nat) (0 : Nat) ∧ (false = false ∧ Cont.ints MX = Cont.ints MX) ∧ (true = true ∧ Cont.a8 k = Cont.a8 k) ∧ (true = true ∧ Cont.a64 r = Cont.a64 r) ∧ (true = true ∧ Cont.a64 a = Cont.a64 a3) ∧ True) := by kernel_rfl
theorem vrGp (Y : Ds → Ds) (X : Ds → Ds → Ds) (R : Tx → Ds) (B : Ds → Ds) (O : Ds → Tx → Tx) (key s k : Tx) (m i : Nat) (r a pp a1 a2 : Ds) (p : Prop) : (frK 92 (ipt key s m i) fun fr => vround Tryd.prog (EG Y X R B O) noL 14 4 fr (Mp k r a pp) (Kn G 4 92 p (ipt key s m (i + 1)) (Mp k r a1 pp) (opt key s m) (Mp k r a2 pp))) = (bif ilt (↑i : Int) (11 : Int) then bif inR (↑i : Int) (11 : Nat) then bif i.blt (List.length a) then bif inR (↑i : Int) (11 : Nat) then bif i.blt (List.length pp) then bif inR (↑i : Int) (11 : Nat) then bif i.blt (List.length a) then bif inI ((↑i : Int) + (1 : Int)) then p ∧ SV.s key = SV.s key ∧ SV.s s = SV.s s ∧ SV.s [] = SV.s [] ∧ SV.i (0 : Int) = SV.i (0 : Int) ∧ SV.ptr (2 : Nat) (0 : Nat) = SV.ptr (2 : Nat) (0 : Nat) ∧ SV.ptr (3 : Nat) (0 : Nat) = SV.ptr (3 : Nat) (0 : Nat) ∧ SV.i (↑((16 : Nat) * m) : Int) = SV.i (↑((16 : Nat) * m) : Int) ∧ SV.ptr (4 : Nat) (0 : Nat) = SV.ptr (4 : Nat) (0 : Nat) ∧ SV.i ((↑i : Int) + (1 : Int)) = SV.i (↑(i + (1 : Nat)) : Int) ∧ (false = false ∧ Cont.ints MX = Cont.ints MX) ∧ (true = true ∧ Cont.a8 k = Cont.a8 k) ∧ (true = true ∧ Cont.a64 r = Cont.a64 r) ∧ (true = true ∧ Cont.a64 (List.set a i (List.getD a i (0 : BitVec (64 : Nat)) + List.getD pp i (0 : BitVec (64 : Nat)))) = Cont.a64 a1) ∧ (true = true ∧ Cont.a64 pp = Cont.a64 pp) ∧ True else False else False else False else False else False else False else False else (4 : Nat) = (4 : Nat) ∧ SV.s key = SV.s key ∧ SV.s s = SV.s s ∧ SV.s [] = SV.s [] ∧ SV.i (0 : Int) = SV.i (0 : Int) ∧ SV.ptr (2 : Nat) (0 : Nat) = SV.ptr (2 : Nat) (0 : Nat) ∧ SV.ptr (3 : Nat) (0 : Nat) = SV.ptr (3 : Nat) (0 : Nat) ∧ SV.i (↑((16 : Nat) * m) : Int) = SV.i (↑((16 : Nat) * m) : Int) ∧ SV.ptr (4 : Nat) (0 : Nat) = SV.ptr (4 : Nat) (0 : Nat) ∧ (false = false ∧ Cont.ints MX = Cont.ints MX) ∧ (true = true ∧ Cont.a8 k = Cont.a8 k) ∧ (true = true ∧ Cont.a64 r = Cont.a64 r) ∧ (true = true ∧ Cont.a64 a = Cont.a64 a2) ∧ (true = true ∧ Cont.a64 pp = Cont.a64 pp) ∧ True) := by kernel_rfl
/-- A byte of the clamped key. -/
def clB (j : Nat) (b : BitVec 8) : BitVec 8 := if j % 4 = 3 then b &&& BitVec.ofInt 8 15 else if j % 4 = 0 ∧ 0 < j then b &&& BitVec.ofInt 8 252 else b
def clN (x : Tx) : Nat → Tx
  | 0 => x
  | j + 1 => (clN x j).set j (clB j ((clN x j).getD j 0))
theorem clN_len (x : Tx) : ∀ j, (clN x j).length = x.length
  | 0 => rfl
  | j + 1 => by rw [clN, List.length_set, clN_len x j]
theorem set_self {x : Tx} {j : Nat} : x.set j (x.getD j 0) = x := by
  rcases Nat.lt_or_ge j x.length with q | q
  · rw [List.getD_eq_getElem?_getD, List.getElem?_eq_getElem q]
    exact List.set_getElem_self q
  · exact List.set_eq_of_length_le q
theorem loopGk (key s k : Tx) (c : Nat) (hk : 16 ≤ k.length) : ∀ fr M K, vLoop G 92 (ikt key s c 0) (Mk k) (okt key s c) (Mk (clN k 16)) fr M K → Wp Tryd.prog G G (loopOf Tryd.prog 14 0) fr M K := by
  refine loop_next eg_ok mixed (noL_ok _ _ _ _) (Nat.le_refl _) (by kernel_rfl) (fun j => ikt key s c j) (fun j => Mk (clN k j)) (fun j => j ≤ 16) (fun j => 16 - j) (fun j => j + 1) 0 (Nat.zero_le _) (fun j hj => of_eq (vrGk carryD timesD rdD belD lowD key s (clN k j) (clN k (j + 1)) (clN k 16) c j _) ?_)
  have hl := clN_len k j
  have hfin : j = 16 → clN k j = clN k 16 := fun e => by subst e; rfl
  have hnext : clN k (j + 1) = (clN k j).set j (clB j ((clN k j).getD j 0)) := rfl
  rw [hnext]
  generalize clN k j = y at hl hfin
  rw [List.length_set]
  have m4 : (j : Int).tmod 4 = ((j % 4 : Nat) : Int) := tmod_cast j 4
  rw [m4]
  have tt : (true == true) = true := rfl
  have ft : (false == true) = false := rfl
  cases hq : ilt (j : Int) 16
  · have hj2 : j = 16 := nlt hq hj
    simp only [cond_false, hfin hj2]
    and_intros <;> first | trivial | rfl
  · have hj2 : j < 16 := ylt hq
    have j1 : inI ((j : Int) + 1) = true := inI_iff.2 (by omega)
    have j2 : Nat.blt j y.length = true := blt_of (by omega)
    have j3 : inR (j : Int) 16 = true := inR_nat hj2
    have hp : j + 1 ≤ 16 ∧ 16 - (j + 1) < 16 - j := ⟨by omega, by omega⟩
    unfold clB
    rcases (by omega : j % 4 = 3 ∨ (j % 4 = 0 ∧ 0 < j) ∨ (j = 0) ∨ (j % 4 ≠ 3 ∧ j % 4 ≠ 0)) with h | ⟨h, h0⟩ | h | ⟨h, h0⟩
    · have e3 : (((j % 4 : Nat) : Int) == 3) = true := by rw [h]; rfl
      have e0 : (((j % 4 : Nat) : Int) == 0) = false := by rw [h]; rfl
      rw [if_pos h]
      simp only [cond_true, cond_false, e3, e0, ft, tt, j1, j2, j3, Bool.not_false]
      refine ⟨hp, ?_⟩
      and_intros <;> first | trivial | rfl
    · have e3 : (((j % 4 : Nat) : Int) == 3) = false := by rw [h]; rfl
      have e0 : (((j % 4 : Nat) : Int) == 0) = true := by rw [h]; rfl
      have el : ilt 0 (j : Int) = true := by rw [ilt_eq]; exact decide_eq_true (by omega)
      rw [if_neg (by omega), if_pos ⟨h, h0⟩]
      simp only [cond_true, cond_false, e3, e0, ft, tt, j1, j2, j3, Bool.not_false, el]
      refine ⟨hp, ?_⟩
      and_intros <;> first | trivial | rfl
    · subst h
      rw [if_neg (by omega), if_neg (by omega), set_self]
      have e3 : (((0 % 4 : Nat) : Int) == 3) = false := rfl
      have e0 : (((0 % 4 : Nat) : Int) == 0) = true := rfl
      have el : ilt 0 ((0 : Nat) : Int) = false := rfl
      simp only [cond_true, cond_false, e3, e0, ft, tt, j1, j2, j3, Bool.not_false, el]
      refine ⟨hp, ?_⟩
      and_intros <;> first | trivial | rfl
    · have e3 : (((j % 4 : Nat) : Int) == 3) = false := beq_eq_false_iff_ne.2 (by omega)
      have e0 : (((j % 4 : Nat) : Int) == 0) = false := beq_eq_false_iff_ne.2 (by omega)
      rw [if_neg h, if_neg (fun z => h0 z.1), set_self]
      simp only [cond_true, cond_false, e3, e0, ft, tt, j1, j2, j3, Bool.not_false]
      refine ⟨hp, ?_⟩
      and_intros <;> first | trivial | rfl
def adN (a p : Ds) : Nat → Ds
  | 0 => a
  | i + 1 => (adN a p i).set i ((adN a p i).getD i 0 + p.getD i 0)
theorem adN_len (a p : Ds) : ∀ i, (adN a p i).length = a.length
  | 0 => rfl
  | i + 1 => by rw [adN, List.length_set, adN_len a p i]
theorem loopGp (key s k : Tx) (m : Nat) (r a pp : Ds) (ha : a.length = 11) (hp : pp.length = 11) : ∀ fr M K, vLoop G 92 (ipt key s m 0) (Mp k r a pp) (opt key s m) (Mp k r (adN a pp 11) pp) fr M K → Wp Tryd.prog G G (loopOf Tryd.prog 14 4) fr M K := by
  refine loop_next eg_ok mixed (noL_ok _ _ _ _) (Nat.le_refl _) (by kernel_rfl) (fun i => ipt key s m i) (fun i => Mp k r (adN a pp i) pp) (fun i => i ≤ 11) (fun i => 11 - i) (fun i => i + 1) 0 (Nat.zero_le _) (fun i hi => of_eq (vrGp carryD timesD rdD belD lowD key s k m i r (adN a pp i) pp (adN a pp (i + 1)) (adN a pp 11) _) ?_)
  rw [adN_len, ha, hp]
  cases hq : ilt (i : Int) 11
  · have hj2 : i = 11 := nlt hq hi
    subst hj2
    exact ⟨rfl, rfl, rfl, rfl, rfl, rfl, rfl, rfl, rfl, ⟨rfl, rfl⟩, ⟨rfl, rfl⟩, ⟨rfl, rfl⟩, ⟨rfl, rfl⟩, ⟨rfl, rfl⟩, trivial⟩
  · have hj2 : i < 11 := ylt hq
    refine bif_of (inR_nat hj2) (bif_of (blt_of hj2) (bif_of (inR_nat hj2) (bif_of (blt_of hj2) (bif_of (inR_nat hj2) (bif_of (blt_of hj2) (bif_of (inI_iff.2 (by omega)) ?_))))))
    exact ⟨⟨by omega, by omega⟩, rfl, rfl, rfl, rfl, rfl, rfl, rfl, rfl, rfl, ⟨rfl, rfl⟩, ⟨rfl, rfl⟩, ⟨rfl, rfl⟩, ⟨rfl, rfl⟩, ⟨rfl, rfl⟩, trivial⟩
/-- A text's pieces of sixteen bytes. -/
def chk (s : Tx) (m : Nat) : Tx := (s.drop (16 * m)).take 16
def Nc (s : Tx) : Nat := (s.length + 15) / 16
def agN (r : Ds) (s : Tx) : Nat → Ds
  | 0 => Z11
  | m + 1 => timesD (carryD (adN (agN r s m) (rdD (chk s m ++ [1])) 11)) r
theorem agN_len (r : Ds) (s : Tx) : ∀ m, (agN r s m).length = 11
  | 0 => rfl
  | m + 1 => timesD_len ..
theorem chk_eq (s : Tx) (m : Nat) : List.drop (16 * m) (List.take (bif ilt (s.length : Int) (((16 * m : Nat) : Int) + 16) then (s.length : Int) else ((16 * m : Nat) : Int) + 16).toNat s) = chk s m := by
  unfold chk
  rw [List.take_drop]
  congr 1
  cases hq : ilt (s.length : Int) (((16 * m : Nat) : Int) + 16)
  · rw [cond_false]; congr 1
  · rw [cond_true, Int.toNat_natCast, List.take_length, List.take_of_length_le]
    rw [ilt_eq] at hq; have := of_decide_eq_true hq; omega
theorem b1 : bts { data := #[(1 : UInt8)] } = [1] := rfl
theorem chk_len (s : Tx) (m : Nat) : (chk s m).length ≤ 16 := by unfold chk; rw [List.length_take]; omega
theorem loopGa (key s k : Tx) (hs : s.length ≤ 1099511627776) (r : Ds) (hr : r.length = 11) : ∀ fr M K, vLoop G 92 (iat key s 0) (Ma k r Z11) (oat key s) (Ma k r (agN r s (Nc s))) fr M K → Wp Tryd.prog G G (loopOf Tryd.prog 14 2) fr M K := by
  refine loop_nextL eg_ok mixed (Nat.le_refl _) (by kernel_rfl) (L := fun m => Lpt key s k m r (agN r s m) (rdD (chk s m ++ [1])) (adN (agN r s m) (rdD (chk s m ++ [1])) 11)) (fun m => LT.add_ok (noL_ok _ _ _ _) (loopGp key s k m r _ _ (agN_len r s m) (rdD_len _))) (fun m => iat key s m) (fun m => Ma k r (agN r s m)) (fun m => m ≤ Nc s) (fun m => Nc s - m) (fun m => m + 1) 0 (Nat.zero_le _) (fun m hm => of_eq (vrGa carryD timesD rdD belD lowD key s k m m r (agN r s m) (rdD (chk s m ++ [1])) (adN (agN r s m) (rdD (chk s m ++ [1])) 11) (agN r s (m + 1)) (agN r s (Nc s)) _) ?_)
  have hN : Nc s = (s.length + 15) / 16 := rfl
  rw [chk_eq, b1, rdD_len, adN_len, agN_len, hr]
  have hc := chk_len s m
  cases hq : ilt ((16 * m : Nat) : Int) (s.length : Int)
  · have hj2 : m = Nc s := by rw [ilt_eq] at hq; have := of_decide_eq_false hq; omega
    subst hj2
    exact ⟨rfl, rfl, rfl, rfl, rfl, rfl, rfl, ⟨rfl, rfl⟩, ⟨rfl, rfl⟩, ⟨rfl, rfl⟩, ⟨rfl, rfl⟩, trivial⟩
  · have hj2 : 16 * m < s.length := by rw [ilt_eq] at hq; have := of_decide_eq_true hq; omega
    have iw : inI (((16 * m : Nat) : Int) + 16) = true := inI_iff.2 (by omega)
    have hcar : (carryD (adN (agN r s m) (rdD (chk s m ++ [1])) 11)).length = 11 := carryD_len _ ((adN_len _ _ _).trans (agN_len r s m))
    rw [hcar, timesD_len]
    refine bif_of iw (bif_of ?_ (bif_of ?_ (bif_of ?_ (bif_of rfl ⟨rfl, rfl, rfl, rfl, rfl, rfl, rfl, rfl, rfl, rfl, ⟨rfl, rfl⟩, ⟨rfl, rfl⟩, ⟨rfl, rfl⟩, ⟨rfl, rfl⟩, ⟨rfl, rfl⟩, bif_of rfl (bif_of rfl (bif_of rfl (bif_of rfl (bif_of rfl (bif_of iw ?_)))))⟩))))
    · rw [Bool.and_eq_true, ile_eq, ile_eq, ilt_eq]
      cases hd : decide ((s.length : Int) < ((16 * m : Nat) : Int) + 16)
      · have := of_decide_eq_false hd
        exact ⟨decide_eq_true (by rw [cond_false]; omega), decide_eq_true (by rw [cond_false]; omega)⟩
      · exact ⟨decide_eq_true (by rw [cond_true]; omega), decide_eq_true (by rw [cond_true]; omega)⟩
    · rw [ile_eq]; exact decide_eq_true (by omega)
    · exact Nat.ble_eq_true_of_le (by rw [List.length_append]; show _ + 1 ≤ _; omega)
    · exact ⟨⟨by omega, by omega⟩, rfl, rfl, rfl, rfl, rfl, rfl, congrArg SV.i (by omega), ⟨rfl, rfl⟩, ⟨rfl, rfl⟩, ⟨rfl, rfl⟩, ⟨rfl, rfl⟩, trivial⟩
end Go.Proofs.YtgjhkfafmmkimaaDoor
