/-
  sum: a hash that is made, and more bytes for it. No statement is proved here.
-/
import Derived.Test.YtmalnjdacmlcdaaDoorSuF
namespace Go.Proofs.YtmalnjdacmlcdaaDoor
open Go.RowKit
set_option linter.unusedVariables false
set_option linter.unusedSimpArgs false
set_option maxRecDepth 100000

def h0 : S8 := ⟨H0.getD 0 0, H0.getD 1 0, H0.getD 2 0, H0.getD 3 0, H0.getD 4 0, H0.getD 5 0, H0.getD 6 0, H0.getD 7 0⟩
theorem vc13 (K : SV → Mm → Prop) : (vf Tryd.prog E13 noL 30 [] G K) = (K (SV.ptr 2 0) [{ rw := false, c := Cont.a32 H0 }, { rw := false, c := Cont.a32 K64 }, { rw := true, c := Cont.row (List.take 1 (List.take 0 [SV.b false, SV.w32 0, SV.w32 0, SV.w32 0, SV.w32 0, SV.w32 0, SV.w32 0, SV.w32 0, SV.w32 0, SV.v (Value.slice none 0 0), SV.i 0, SV.v (Value.int IntKind.i8 0), SV.w64 0] ++ [SV.b true] ++ List.drop 1 [SV.b false, SV.w32 0, SV.w32 0, SV.w32 0, SV.w32 0, SV.w32 0, SV.w32 0, SV.w32 0, SV.w32 0, SV.v (Value.slice none 0 0), SV.i 0, SV.v (Value.int IntKind.i8 0), SV.w64 0]) ++ List.map SV.w32 H0 ++ List.drop 9 (List.take 0 [SV.b false, SV.w32 0, SV.w32 0, SV.w32 0, SV.w32 0, SV.w32 0, SV.w32 0, SV.w32 0, SV.w32 0, SV.v (Value.slice none 0 0), SV.i 0, SV.v (Value.int IntKind.i8 0), SV.w64 0] ++ [SV.b true] ++ List.drop 1 [SV.b false, SV.w32 0, SV.w32 0, SV.w32 0, SV.w32 0, SV.w32 0, SV.w32 0, SV.w32 0, SV.w32 0, SV.v (Value.slice none 0 0), SV.i 0, SV.v (Value.int IntKind.i8 0), SV.w64 0])) }]) := by kernel_rfl
def cNew : List SV → Mm → (SV → Mm → Prop) → Prop
  | [], M, K => snocK M ⟨true, .row (hrow h0 (.v (.slice none 0 0)) 0)⟩ fun M1 => K (.ptr M.length 0) M1
  | _, _, _ => False
theorem new_ok : COk Tryd.prog G 30 cNew := by
  intro args M K h
  unfold cNew at h
  split at h
  · rw [snocK_eq] at h
    refine eff_of (R := []) (args0 := []) (K0 := fun r M => r = .ptr 2 0 ∧ M = Hn h0 0) [] (vf_ok (M := G) e13_ok mixed (noL_ok _ _ _ _) (of_eq (vc13 _) ⟨rfl, rfl⟩)) rfl rfl List.nodup_nil trivial ?_
    rintro r1 M1 ⟨rfl, rfl⟩
    exact h
  · exact h.elim
def C14 : CT := C13.add 30 cNew
def E14 : Env := ⟨G, T10, C14⟩
theorem e14_ok : EnvOk Tryd.prog E14 := ⟨e13_ok.T, CT.add_ok e13_ok.C new_ok⟩
def wrt (l : List (BitVec 8)) (len : Nat) (t : List (BitVec 8)) : List (BitVec 8) := l.take len ++ t ++ l.drop (len + t.length)
inductive Ad where
  | fst (h : S8) (s : List (BitVec 8))
  | more (h : S8) (len : Nat) (s l : List (BitVec 8))
def Ad.txt : Ad → List (BitVec 8)
  | .fst _ s => s
  | .more _ _ s _ => s
def Ad.len : Ad → Nat
  | .fst _ _ => 0
  | .more _ len _ _ => len
def Ad.step : Ad → Ad
  | .fst h s => .more (nextS h (fillB (s.take 64))) 0 (s.drop 64) (fillB (s.take 64))
  | .more h len s l => .more (nextS h (wrt l len (s.take (64 - len)))) 0 (s.drop (64 - len)) (wrt l len (s.take (64 - len)))
def Ad.run : Nat → Ad → Ad
  | 0, i => i
  | n + 1, i => bif Nat.blt i.txt.length (64 - i.len) then i else Ad.run n i.step
def Mn15 (n : BitVec 64) : Ad → Mm
  | .fst h s => Hn h n
  | .more h len s l => Hb h len n l
def i15 : Ad → List (Nat × SV)
  | .fst _ s => [(0, .ptr 2 0), (1, .s s), (5, .i 64)]
  | .more _ len s _ => [(0, .ptr 2 0), (1, .s s), (5, .i (64 - (len : Int)))]
def o15 : Ad → List (Nat × SV)
  | .fst _ s => [(0, .ptr 2 0), (1, .s s)]
  | .more _ _ s _ => [(0, .ptr 2 0), (1, .s s)]
def L15 (B : Mm) (n : BitVec 64) (i fin : Ad) : LT := noL.add 0 (vLoop B 59 (i15 i) (Mn15 n i) (o15 fin) (Mn15 n fin))
theorem vc15nn (h h' : S8) (n : BitVec 64) (s s' : List (BitVec 8)) (K : SV → Mm → Prop) : (vf Tryd.prog E14 (L15 (Hn h n) (n + BitVec.ofInt 64 (s.length : Int)) (.fst h s) (.fst h' s')) 31 [.ptr 2 0, .s s] (Hn h n) K) = (loopOf Tryd.prog 31 0 = loopOf Tryd.prog 31 0 ∧ SV.ptr 2 0 = SV.ptr 2 0 ∧ SV.s s = SV.s s ∧ SV.i (64 - 0) = SV.i 64 ∧ (false = false ∧ Cont.a32 H0 = Cont.a32 H0) ∧ (false = false ∧ Cont.a32 K64 = Cont.a32 K64) ∧ (true = true ∧ Cont.row ((hrow h (SV.v (Value.slice none 0 0)) n).set 12 (SV.w64 (n + BitVec.ofInt 64 (↑s.length : Int)))) = Cont.row (hrow h (SV.v (Value.slice none 0 0)) (n + BitVec.ofInt 64 (↑s.length : Int)))) ∧ bif ile (↑s'.length : Int) 0 then K (SV.i 0) (Mn15 (n + BitVec.ofInt 64 (↑s.length : Int)) (Ad.fst h' s')) else bif s'.length.ble 64 then K (SV.i 0) [{ rw := false, c := Cont.a32 H0 }, { rw := false, c := Cont.a32 K64 }, { rw := true, c := Cont.row (hrow h' (SV.sl (List.length (Mn15 (n + BitVec.ofInt 64 (↑s.length : Int)) (Ad.fst h' s'))) 0 s'.length 64) (n + BitVec.ofInt 64 (↑s.length : Int))) }, { rw := true, c := Cont.a8 (fillB s') }] else False) := by kernel_rfl
theorem vc15nb (h h' : S8) (n : BitVec 64) (s s' l' : List (BitVec 8)) (len' : Nat) (K : SV → Mm → Prop) : (vf Tryd.prog E14 (L15 (Hn h n) (n + BitVec.ofInt 64 (s.length : Int)) (.fst h s) (.more h' len' s' l')) 31 [.ptr 2 0, .s s] (Hn h n) K) = (loopOf Tryd.prog 31 0 = loopOf Tryd.prog 31 0 ∧ SV.ptr 2 0 = SV.ptr 2 0 ∧ SV.s s = SV.s s ∧ SV.i (64 - 0) = SV.i 64 ∧ (false = false ∧ Cont.a32 H0 = Cont.a32 H0) ∧ (false = false ∧ Cont.a32 K64 = Cont.a32 K64) ∧ (true = true ∧ Cont.row ((hrow h (SV.v (Value.slice none 0 0)) n).set 12 (SV.w64 (n + BitVec.ofInt 64 (↑s.length : Int)))) = Cont.row (hrow h (SV.v (Value.slice none 0 0)) (n + BitVec.ofInt 64 (↑s.length : Int)))) ∧ bif (len' + s'.length).ble 64 && (len'.blt 64 && l'.length.beq 64) then K (SV.i 0) [{ rw := false, c := Cont.a32 H0 }, { rw := false, c := Cont.a32 K64 }, { rw := true, c := Cont.row (hrow h' (SV.sl 3 0 (len' + s'.length) 64) (n + BitVec.ofInt 64 (↑s.length : Int))) }, { rw := true, c := Cont.a8 (List.take len' l' ++ s' ++ List.drop (len' + s'.length) l') }] else False) := by kernel_rfl
theorem vc15bb (h h' : S8) (n : BitVec 64) (s s' l l' : List (BitVec 8)) (len len' : Nat) (K : SV → Mm → Prop) : (vf Tryd.prog E14 (L15 (Hb h len n l) (n + BitVec.ofInt 64 (s.length : Int)) (.more h len s l) (.more h' len' s' l')) 31 [.ptr 2 0, .s s] (Hb h len n l) K) = (bif len.ble 64 then bif inI (64 - (↑len : Int)) then loopOf Tryd.prog 31 0 = loopOf Tryd.prog 31 0 ∧ SV.ptr 2 0 = SV.ptr 2 0 ∧ SV.s s = SV.s s ∧ SV.i (64 - (↑len : Int)) = SV.i (64 - (↑len : Int)) ∧ (false = false ∧ Cont.a32 H0 = Cont.a32 H0) ∧ (false = false ∧ Cont.a32 K64 = Cont.a32 K64) ∧ (true = true ∧ Cont.row ((hrow h (SV.sl 3 0 len 64) n).set 12 (SV.w64 (n + BitVec.ofInt 64 (↑s.length : Int)))) = Cont.row (hrow h (SV.sl 3 0 len 64) (n + BitVec.ofInt 64 (↑s.length : Int)))) ∧ (true = true ∧ Cont.a8 l = Cont.a8 l) ∧ bif (len' + s'.length).ble 64 && (len'.blt 64 && l'.length.beq 64) then K (SV.i 0) [{ rw := false, c := Cont.a32 H0 }, { rw := false, c := Cont.a32 K64 }, { rw := true, c := Cont.row (hrow h' (SV.sl 3 0 (len' + s'.length) 64) (n + BitVec.ofInt 64 (↑s.length : Int))) }, { rw := true, c := Cont.a8 (List.take len' l' ++ s' ++ List.drop (len' + s'.length) l') }] else False else False else False) := by kernel_rfl
theorem vr15nn (hb : S8) (nb n : BitVec 64) (h h' : S8) (s s' : List (BitVec 8)) (a : Prop) : (frK 59 (i15 (.fst h s)) fun fr => vround Tryd.prog E14 noL 31 0 fr (Hn h n) (Kn (Hn hb nb) 0 59 a (i15 (Ad.step (.fst h s))) (Mn15 n (Ad.step (.fst h s))) (o15 (.fst h' s')) (Mn15 n (.fst h' s')))) = (bif ile 64 (↑s.length : Int) then bif ile 64 (↑s.length : Int) then bif ile (↑(List.drop 0 (List.take 64 s)).length : Int) 0 then False else bif (List.drop 0 (List.take 64 s)).length.ble 64 then bif (List.drop 0 (List.take 64 s)).length.ble 64 then bif (List.drop 0 (List.take 64 s)).length.beq 64 && Nat.ble 64 (fillB (List.drop 0 (List.take 64 s))).length then bif ile 64 (↑s.length : Int) && ile (↑s.length : Int) (↑s.length : Int) then a ∧ SV.ptr 2 0 = SV.ptr 2 0 ∧ SV.s (List.drop 64 (List.take s.length s)) = SV.s (List.drop 64 s) ∧ SV.i 64 = SV.i (64 - (↑0 : Int)) ∧ (false = false ∧ Cont.a32 H0 = Cont.a32 H0) ∧ (false = false ∧ Cont.a32 K64 = Cont.a32 K64) ∧ (true = true ∧ Cont.row (hrow (nextS h (List.drop 0 (fillB (List.drop 0 (List.take 64 s))))) (SV.sl (0 + 1 + 1 + 1) 0 0 64) n) = Cont.row (hrow (nextS h (fillB (List.take 64 s))) (SV.sl 3 0 0 64) n)) ∧ (true = true ∧ Cont.a8 (fillB (List.drop 0 (List.take 64 s))) = Cont.a8 (fillB (List.take 64 s))) ∧ True else False else False else False else False else False else 0 = 0 ∧ SV.ptr 2 0 = SV.ptr 2 0 ∧ SV.s s = SV.s s' ∧ (false = false ∧ Cont.a32 H0 = Cont.a32 H0) ∧ (false = false ∧ Cont.a32 K64 = Cont.a32 K64) ∧ (true = true ∧ Cont.row (hrow h (SV.v (Value.slice none 0 0)) n) = Cont.row (hrow h' (SV.v (Value.slice none 0 0)) n)) ∧ True) := by kernel_rfl
theorem vr15nb (hb : S8) (nb n : BitVec 64) (h h' : S8) (s s' l' : List (BitVec 8)) (len' : Nat) (a : Prop) : (frK 59 (i15 (.fst h s)) fun fr => vround Tryd.prog E14 noL 31 0 fr (Hn h n) (Kn (Hn hb nb) 0 59 a (i15 (Ad.step (.fst h s))) (Mn15 n (Ad.step (.fst h s))) (o15 (.more h' len' s' l')) (Mn15 n (.more h' len' s' l')))) = (bif ile 64 (↑s.length : Int) then bif ile 64 (↑s.length : Int) then bif ile (↑(List.drop 0 (List.take 64 s)).length : Int) 0 then False else bif (List.drop 0 (List.take 64 s)).length.ble 64 then bif (List.drop 0 (List.take 64 s)).length.ble 64 then bif (List.drop 0 (List.take 64 s)).length.beq 64 && Nat.ble 64 (fillB (List.drop 0 (List.take 64 s))).length then bif ile 64 (↑s.length : Int) && ile (↑s.length : Int) (↑s.length : Int) then a ∧ SV.ptr 2 0 = SV.ptr 2 0 ∧ SV.s (List.drop 64 (List.take s.length s)) = SV.s (List.drop 64 s) ∧ SV.i 64 = SV.i (64 - (↑0 : Int)) ∧ (false = false ∧ Cont.a32 H0 = Cont.a32 H0) ∧ (false = false ∧ Cont.a32 K64 = Cont.a32 K64) ∧ (true = true ∧ Cont.row (hrow (nextS h (List.drop 0 (fillB (List.drop 0 (List.take 64 s))))) (SV.sl (0 + 1 + 1 + 1) 0 0 64) n) = Cont.row (hrow (nextS h (fillB (List.take 64 s))) (SV.sl 3 0 0 64) n)) ∧ (true = true ∧ Cont.a8 (fillB (List.drop 0 (List.take 64 s))) = Cont.a8 (fillB (List.take 64 s))) ∧ True else False else False else False else False else False else 0 = 0 ∧ SV.ptr 2 0 = SV.ptr 2 0 ∧ SV.s s = SV.s s' ∧ (false = false ∧ Cont.a32 H0 = Cont.a32 H0) ∧ (false = false ∧ Cont.a32 K64 = Cont.a32 K64) ∧ (true = true ∧ Cont.row (hrow h (SV.v (Value.slice none 0 0)) n) = Cont.row (hrow h' (SV.sl 3 0 len' 64) n)) ∧ False) := by kernel_rfl
theorem vr15bn (hb : S8) (nb n : BitVec 64) (h h' : S8) (s s' l l' : List (BitVec 8)) (len len' : Nat) (a : Prop) : (frK 59 (i15 (.more h len s l)) fun fr => vround Tryd.prog E14 noL 31 0 fr (Hb h len n l) (Kn (Hn hb nb) 0 59 a (i15 (Ad.step (.more h len s l))) (Mn15 n (Ad.step (.more h len s l))) (o15 (.more h' len' s' l')) (Mn15 n (.more h' len' s' l')))) = (bif ile (64 - (↑len : Int)) (↑s.length : Int) then bif ile (↑0 : Int) (64 - (↑len : Int)) && ile (64 - (↑len : Int)) (↑s.length : Int) then bif (len + (List.drop 0 (List.take (64 - (↑len : Int)).toNat s)).length).ble 64 && (len.blt 64 && l.length.beq 64) then bif (len + (List.drop 0 (List.take (64 - (↑len : Int)).toNat s)).length).ble 64 then bif (len + (List.drop 0 (List.take (64 - (↑len : Int)).toNat s)).length).beq 64 && Nat.ble 64 (List.take len l ++ List.drop 0 (List.take (64 - (↑len : Int)).toNat s) ++ List.drop (len + (List.drop 0 (List.take (64 - (↑len : Int)).toNat s)).length) l).length then bif ile 0 (64 - (↑len : Int)) && ile (64 - (↑len : Int)) (↑s.length : Int) && ile (↑s.length : Int) (↑s.length : Int) then a ∧ SV.ptr 2 0 = SV.ptr 2 0 ∧ SV.s (List.drop (64 - (↑len : Int)).toNat (List.take s.length s)) = SV.s (List.drop (64 - len) s) ∧ SV.i 64 = SV.i (64 - (↑0 : Int)) ∧ (false = false ∧ Cont.a32 H0 = Cont.a32 H0) ∧ (false = false ∧ Cont.a32 K64 = Cont.a32 K64) ∧ (true = true ∧ Cont.row (hrow (nextS h (List.drop 0 (List.take len l ++ List.drop 0 (List.take (64 - (↑len : Int)).toNat s) ++ List.drop (len + (List.drop 0 (List.take (64 - (↑len : Int)).toNat s)).length) l))) (SV.sl 3 0 0 64) n) = Cont.row (hrow (nextS h (wrt l len (List.take (64 - len) s))) (SV.sl 3 0 0 64) n)) ∧ (true = true ∧ Cont.a8 (List.take len l ++ List.drop 0 (List.take (64 - (↑len : Int)).toNat s) ++ List.drop (len + (List.drop 0 (List.take (64 - (↑len : Int)).toNat s)).length) l) = Cont.a8 (wrt l len (List.take (64 - len) s))) ∧ True else False else False else False else False else False else 0 = 0 ∧ SV.ptr 2 0 = SV.ptr 2 0 ∧ SV.s s = SV.s s' ∧ (false = false ∧ Cont.a32 H0 = Cont.a32 H0) ∧ (false = false ∧ Cont.a32 K64 = Cont.a32 K64) ∧ (true = true ∧ Cont.row (hrow h (SV.sl 3 0 len 64) n) = Cont.row (hrow h' (SV.sl 3 0 len' 64) n)) ∧ (true = true ∧ Cont.a8 l = Cont.a8 l') ∧ True) := by kernel_rfl
theorem vr15bb (hb : S8) (nb n : BitVec 64) (lenb : Nat) (lb : List (BitVec 8)) (h h' : S8) (s s' l l' : List (BitVec 8)) (len len' : Nat) (a : Prop) : (frK 59 (i15 (.more h len s l)) fun fr => vround Tryd.prog E14 noL 31 0 fr (Hb h len n l) (Kn (Hb hb lenb nb lb) 0 59 a (i15 (Ad.step (.more h len s l))) (Mn15 n (Ad.step (.more h len s l))) (o15 (.more h' len' s' l')) (Mn15 n (.more h' len' s' l')))) = (bif ile (64 - (↑len : Int)) (↑s.length : Int) then bif ile (↑0 : Int) (64 - (↑len : Int)) && ile (64 - (↑len : Int)) (↑s.length : Int) then bif (len + (List.drop 0 (List.take (64 - (↑len : Int)).toNat s)).length).ble 64 && (len.blt 64 && l.length.beq 64) then bif (len + (List.drop 0 (List.take (64 - (↑len : Int)).toNat s)).length).ble 64 then bif (len + (List.drop 0 (List.take (64 - (↑len : Int)).toNat s)).length).beq 64 && Nat.ble 64 (List.take len l ++ List.drop 0 (List.take (64 - (↑len : Int)).toNat s) ++ List.drop (len + (List.drop 0 (List.take (64 - (↑len : Int)).toNat s)).length) l).length then bif ile 0 (64 - (↑len : Int)) && ile (64 - (↑len : Int)) (↑s.length : Int) && ile (↑s.length : Int) (↑s.length : Int) then a ∧ SV.ptr 2 0 = SV.ptr 2 0 ∧ SV.s (List.drop (64 - (↑len : Int)).toNat (List.take s.length s)) = SV.s (List.drop (64 - len) s) ∧ SV.i 64 = SV.i (64 - (↑0 : Int)) ∧ (false = false ∧ Cont.a32 H0 = Cont.a32 H0) ∧ (false = false ∧ Cont.a32 K64 = Cont.a32 K64) ∧ (true = true ∧ Cont.row (hrow (nextS h (List.drop 0 (List.take len l ++ List.drop 0 (List.take (64 - (↑len : Int)).toNat s) ++ List.drop (len + (List.drop 0 (List.take (64 - (↑len : Int)).toNat s)).length) l))) (SV.sl 3 0 0 64) n) = Cont.row (hrow (nextS h (wrt l len (List.take (64 - len) s))) (SV.sl 3 0 0 64) n)) ∧ (true = true ∧ Cont.a8 (List.take len l ++ List.drop 0 (List.take (64 - (↑len : Int)).toNat s) ++ List.drop (len + (List.drop 0 (List.take (64 - (↑len : Int)).toNat s)).length) l) = Cont.a8 (wrt l len (List.take (64 - len) s))) ∧ True else False else False else False else False else False else 0 = 0 ∧ SV.ptr 2 0 = SV.ptr 2 0 ∧ SV.s s = SV.s s' ∧ (false = false ∧ Cont.a32 H0 = Cont.a32 H0) ∧ (false = false ∧ Cont.a32 K64 = Cont.a32 K64) ∧ (true = true ∧ Cont.row (hrow h (SV.sl 3 0 len 64) n) = Cont.row (hrow h' (SV.sl 3 0 len' 64) n)) ∧ (true = true ∧ Cont.a8 l = Cont.a8 l') ∧ True) := by kernel_rfl
theorem vc15z (s : List (BitVec 8)) (K : SV → Mm → Prop) : (vf Tryd.prog E14 noL 31 [.v (.pointer none), .s s] G K) = (K (SV.i 1) G) := by kernel_rfl
def sts (h : S8) (x : List (BitVec 8)) : Nat → S8
  | 0 => h
  | j + 1 => nextS (sts h x j) (x.drop (64 * j))
theorem w16_take (b : List (BitVec 8)) : w16 (b.take 64) = w16 b := by
  unfold w16
  apply List.map_congr_left
  intro k hk
  have hk := List.mem_range.1 hk
  rw [List.drop_take, List.take_take, Nat.min_eq_left (by omega)]
theorem next_take (s : S8) (b : List (BitVec 8)) : nextS s (b.take 64) = nextS s b := by unfold nextS; rw [w16_take]
theorem next_congr (s : S8) (b c : List (BitVec 8)) (h : b.take 64 = c.take 64) : nextS s b = nextS s c := by rw [← next_take, h, next_take]
theorem sts_app (h : S8) (x y : List (BitVec 8)) : ∀ (j : Nat), 64 * j ≤ x.length → sts h (x ++ y) j = sts h x j
  | 0, _ => rfl
  | j + 1, hj => by
    rw [sts, sts, sts_app h x y j (by omega)]
    apply next_congr
    rw [List.drop_append_of_le_length (by omega), List.take_append_of_le_length (by rw [List.length_drop]; omega)]
theorem sts_add (h : S8) (x : List (BitVec 8)) (a : Nat) : ∀ b : Nat, sts h x (a + b) = sts (sts h x a) (x.drop (64 * a)) b
  | 0 => rfl
  | b + 1 => by
    rw [← Nat.add_assoc, sts, sts, sts_add h x a b, List.drop_drop]
    congr 2
    omega
/-- The words behind all whole blocks of a text, and what is left of it. -/
def ab (h : S8) (T : List (BitVec 8)) : S8 × List (BitVec 8) := (sts h T (T.length / 64), T.drop (64 * (T.length / 64)))
theorem ab_app (h : S8) (T s : List (BitVec 8)) : ab h (T ++ s) = ab (ab h T).1 ((ab h T).2 ++ s) := by
  unfold ab
  dsimp only
  have e : (T ++ s).drop (64 * (T.length / 64)) = T.drop (64 * (T.length / 64)) ++ s := List.drop_append_of_le_length (by omega)
  have hl : (T.drop (64 * (T.length / 64)) ++ s).length = T.length - 64 * (T.length / 64) + s.length := by simp
  have hq : (T ++ s).length / 64 = T.length / 64 + (T.drop (64 * (T.length / 64)) ++ s).length / 64 := by rw [hl, List.length_append]; omega
  rw [hq, sts_add, sts_app h T s _ (by omega), e, ← e, List.drop_drop]
  congr 2
  omega
theorem ab_step (h : S8) (T : List (BitVec 8)) (hT : 64 ≤ T.length) : ab h T = ab (nextS h (T.take 64)) (T.drop 64) := by
  unfold ab
  have hq : T.length / 64 = 1 + (T.drop 64).length / 64 := by rw [List.length_drop]; omega
  rw [hq, sts_add]
  have e1 : sts h T 1 = nextS h (T.take 64) := by rw [next_take]; rfl
  rw [e1, List.drop_drop]
  congr 2
  omega
theorem ab_small (h : S8) (T : List (BitVec 8)) (hT : T.length < 64) : ab h T = (h, T) := by
  unfold ab
  rw [Nat.div_eq_of_lt hT]
  rfl
theorem ab_lt (h : S8) (T : List (BitVec 8)) : (ab h T).2.length < 64 := by
  unfold ab; dsimp only; rw [List.length_drop]; omega
theorem fillB_len (t : List (BitVec 8)) (h : t.length ≤ 64) : (fillB t).length = 64 := by unfold fillB; simp; omega
theorem fillB_take (t : List (BitVec 8)) : (fillB t).take t.length = t := by unfold fillB; rw [List.take_append_of_le_length (Nat.le_refl _), List.take_of_length_le (Nat.le_refl _)]
theorem fillB_all (t : List (BitVec 8)) (h : t.length = 64) : fillB t = t := by unfold fillB; rw [h, List.drop_eq_nil_of_le (by simp), List.append_nil]
theorem wrt_len (l : List (BitVec 8)) (len : Nat) (t : List (BitVec 8)) (hl : l.length = 64) (h : len + t.length ≤ 64) : (wrt l len t).length = 64 := by unfold wrt; simp; omega
theorem wrt_take (l : List (BitVec 8)) (len : Nat) (t : List (BitVec 8)) (hl : l.length = 64) (h : len + t.length ≤ 64) : (wrt l len t).take (len + t.length) = l.take len ++ t := by
  unfold wrt; exact take_app _ _ _ _ (by rw [List.length_take]; omega)
/-- A state that can be; its words and its text. -/
def Ad.ok : Ad → Prop
  | .fst _ _ => True
  | .more _ len _ l => len < 64 ∧ l.length = 64
def Ad.w : Ad → S8
  | .fst h _ => h
  | .more h _ _ _ => h
def Ad.T : Ad → List (BitVec 8)
  | .fst _ s => s
  | .more _ len s l => l.take len ++ s
theorem Ad.T_len (i : Ad) (h : i.ok) : i.T.length = i.len + i.txt.length := by
  cases i with
  | fst h s => simp [Ad.T, Ad.len, Ad.txt]
  | more w len s l => obtain ⟨h1, h2⟩ := h; simp [Ad.T, Ad.len, Ad.txt]; omega
theorem Ad.len_lt (i : Ad) (h : i.ok) : i.len < 64 := by
  cases i with
  | fst h s => show 0 < 64; omega
  | more w len s l => exact h.1
theorem Ad.step_ok (i : Ad) (h : i.ok) (hn : ¬ i.txt.length < 64 - i.len) : i.step.ok ∧ ab i.step.w i.step.T = ab i.w i.T ∧ i.step.txt.length < i.txt.length := by
  cases i with
  | fst w s =>
    replace hn : ¬ s.length < 64 := hn
    have hl : (s.take 64).length = 64 := by rw [List.length_take]; omega
    refine ⟨⟨by show (0 : Nat) < 64; omega, by show (fillB (s.take 64)).length = 64; exact fillB_len _ (by omega)⟩, ?_, ?_⟩
    · show ab (nextS w (fillB (s.take 64))) ((fillB (s.take 64)).take 0 ++ s.drop 64) = ab w s
      rw [fillB_all _ hl, List.take_zero, List.nil_append, ab_step w s (by omega)]
    · show (s.drop 64).length < s.length
      rw [List.length_drop]; omega
  | more w len s l =>
    obtain ⟨h1, h2⟩ := h
    replace hn : ¬ s.length < 64 - len := hn
    have hl : (s.take (64 - len)).length = 64 - len := by rw [List.length_take]; omega
    have hw : (wrt l len (s.take (64 - len))).length = 64 := wrt_len _ _ _ h2 (by omega)
    refine ⟨⟨by show (0 : Nat) < 64; omega, hw⟩, ?_, ?_⟩
    · show ab (nextS w (wrt l len (s.take (64 - len)))) ((wrt l len (s.take (64 - len))).take 0 ++ s.drop (64 - len)) = ab w (l.take len ++ s)
      have hT : 64 ≤ (l.take len ++ s).length := by simp; omega
      have ht : (l.take len).length = len := by rw [List.length_take]; omega
      have e1 : wrt l len (s.take (64 - len)) = (l.take len ++ s).take 64 := by
        have q : (l.take len).take 64 = l.take len := List.take_of_length_le (by omega)
        unfold wrt
        rw [hl, List.drop_eq_nil_of_le (by omega), List.append_nil, List.take_append, ht, q]
      have e2 : (l.take len ++ s).drop 64 = s.drop (64 - len) := by
        have q : (l.take len).drop 64 = [] := List.drop_eq_nil_of_le (by omega)
        rw [List.drop_append, ht, q, List.nil_append]
      rw [ab_step w _ hT, List.take_zero, List.nil_append, e1, e2]
    · show (s.drop (64 - len)).length < s.length
      rw [List.length_drop]; omega
theorem Ad.run_irr : ∀ (n m : Nat) (i : Ad), i.ok → i.txt.length ≤ n → i.txt.length ≤ m → Ad.run n i = Ad.run m i
  | 0, 0, i, _, _, _ => rfl
  | 0, m + 1, i, h, hn, _ => by
    have := Ad.len_lt i h
    rw [Ad.run, Ad.run, blt_of (by omega : i.txt.length < 64 - i.len)]; rfl
  | n + 1, 0, i, h, _, hn => by
    have := Ad.len_lt i h
    rw [Ad.run, Ad.run, blt_of (by omega : i.txt.length < 64 - i.len)]; rfl
  | n + 1, m + 1, i, h, hn, hm => by
    rw [Ad.run, Ad.run]
    cases hb : Nat.blt i.txt.length (64 - i.len)
    · have h3 : ¬ i.txt.length < 64 - i.len := fun q => by rw [blt_of q] at hb; cases hb
      obtain ⟨q1, q2, q3⟩ := Ad.step_ok i h h3
      exact Ad.run_irr n m i.step q1 (by omega) (by omega)
    · rfl
def Ad.fin (i : Ad) : Ad := Ad.run i.txt.length i
theorem Ad.fin_step (i : Ad) (h : i.ok) (hn : ¬ i.txt.length < 64 - i.len) : i.step.fin = i.fin := by
  obtain ⟨q1, q2, q3⟩ := Ad.step_ok i h hn
  have e : i.fin = Ad.run (i.txt.length - 1) i.step := by
    unfold Ad.fin
    obtain ⟨m, hm⟩ : ∃ m, i.txt.length = m + 1 := ⟨i.txt.length - 1, by omega⟩
    rw [hm, Ad.run]
    cases hb : Nat.blt i.txt.length (64 - i.len)
    · rfl
    · exact absurd (blt_lt hb) hn
  rw [e]
  exact Ad.run_irr _ _ _ q1 (Nat.le_refl _) (by omega)
theorem Ad.fin_done (i : Ad) (hn : i.txt.length < 64 - i.len) : i.fin = i := by
  unfold Ad.fin
  cases hm : i.txt.length with
  | zero => rfl
  | succ m => rw [Ad.run, blt_of hn]; rfl
theorem Ad.fin_ok : ∀ (n : Nat) (i : Ad), i.txt.length ≤ n → i.ok → i.fin.ok ∧ i.fin.txt.length < 64 - i.fin.len ∧ ab i.fin.w i.fin.T = ab i.w i.T
  | n, i, hn, h => by
    by_cases hd : i.txt.length < 64 - i.len
    · rw [Ad.fin_done i hd]; exact ⟨h, hd, rfl⟩
    · obtain ⟨q1, q2, q3⟩ := Ad.step_ok i h hd
      rw [← Ad.fin_step i h hd, ← q2]
      cases n with
      | zero => omega
      | succ n => exact Ad.fin_ok n i.step (by omega) q1
theorem Ad.fin_ab (i : Ad) (h : i.ok) : i.fin.w = (ab i.w i.T).1 ∧ i.fin.T = (ab i.w i.T).2 ∧ i.fin.T.length < 64 := by
  obtain ⟨h1, h2, h3⟩ := Ad.fin_ok _ i (Nat.le_refl _) h
  have hl := Ad.T_len _ h1
  have hlt := Ad.len_lt _ h1
  have h4 : i.fin.T.length < 64 := by omega
  rw [ab_small _ _ h4] at h3
  rw [← h3]
  exact ⟨rfl, rfl, h4⟩
end Go.Proofs.YtmalnjdacmlcdaaDoor
