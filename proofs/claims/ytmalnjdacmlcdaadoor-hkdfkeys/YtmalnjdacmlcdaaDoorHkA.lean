/-
  hkdf: the document's bytes of a key. No statement is proved here.
-/
import Derived.Test.YtmalnjdacmlcdaaDoorSuL
namespace Go.Proofs.YtmalnjdacmlcdaaDoor
open Go.RowKit
set_option linter.unusedVariables false
set_option linter.unusedSimpArgs false
set_option maxRecDepth 100000

abbrev Tx := List (BitVec 8)
def cRTagU (U : Tx → Tx → Tx) : List SV → List Cont → Option (Bool × SV)
  | [.s k, .s s], _ => some (Nat.ble k.length 1000000 && Nat.ble s.length 1000000, .s (U k s))
  | _, _ => none
def EH1 (D R : Tx → Tx) (U : Tx → Tx → Tx) : Env := ⟨G, (T20 D R).add 11 (cRTagU U), C17⟩
inductive O9 where
  | no
  | at' (len cap : Nat) (b : Tx)
def O9.sv : O9 → SV
  | .no => .v (.slice none 0 0)
  | .at' len cap b => .sl 2 0 len cap
def M9 : O9 → Mm
  | .no => [⟨false, .a32 H0⟩, ⟨false, .a32 K64⟩]
  | .at' len cap b => [⟨false, .a32 H0⟩, ⟨false, .a32 K64⟩, ⟨true, .a8 b⟩]
structure I9 where
  k : Nat
  t : Tx
  o : O9
def i9 (key info : Tx) (n : Int) (i : I9) : List (Nat × SV) := [(0, .s key), (1, .s info), (2, .i n), (8, i.o.sv), (9, .s i.t), (10, .i ((i.k + 1 : Nat) : Int))]
def o9 (n : Int) (o : O9) : List (Nat × SV) := [(2, .i n), (8, o.sv)]
def sel9 (k : Nat) (fr : List SV) (M : Mm) : Option (I9 × List Nat) := match fr with
  | _ :: _ :: _ :: _ :: _ :: _ :: _ :: _ :: .sl j _ len cap :: .s t :: _ => match M[j]? with
    | some ⟨_, .a8 b⟩ => some (⟨k + 1, t, .at' len cap b⟩, [j])
    | _ => none
  | _ => none
theorem vr9n (D R : Tx → Tx) (U : Tx → Tx → Tx) (key info t : Tx) (n : Int) (k : Nat) (a : I9 → Prop) (q : Prop) : (frK 41 (i9 key info n ⟨k, t, .no⟩) fun fr => vround Tryd.prog (EH1 D R U) noL 9 0 fr (M9 .no) (Kp G 0 41 (sel9 k) a (i9 key info n) (fun i => M9 i.o) q (o9 n .no) (M9 .no))) = (bif ilt (↑(0 : Nat) : Int) n then bif ile (↑(List.length t + List.length info) : Int) (9223372036854775807 : Int) then bif ile (↑((t ++ info).length + (List.take (1 : Nat) (List.drop (0 : Nat) [BitVec.ofInt (8 : Nat) (↑(k + (1 : Nat)) : Int)])).length) : Int) (9223372036854775807 : Int) then bif (List.length key).ble (1000000 : Nat) && (t ++ info ++ List.take (1 : Nat) (List.drop (0 : Nat) [BitVec.ofInt (8 : Nat) (↑(k + (1 : Nat)) : Int)])).length.ble (1000000 : Nat) then ∀ (cap : Nat) (x : List (BitVec (8 : Nat))), List.length (U key (t ++ info ++ List.take (1 : Nat) (List.drop (0 : Nat) [BitVec.ofInt (8 : Nat) (↑(k + (1 : Nat)) : Int)]))) ≤ cap → x = U key (t ++ info ++ List.take (1 : Nat) (List.drop (0 : Nat) [BitVec.ofInt (8 : Nat) (↑(k + (1 : Nat)) : Int)])) ++ List.replicate (cap - List.length (U key (t ++ info ++ List.take (1 : Nat) (List.drop (0 : Nat) [BitVec.ofInt (8 : Nat) (↑(k + (1 : Nat)) : Int)])))) (0 : BitVec (8 : Nat)) → bif decide ((0 : Nat) + List.length (U key (t ++ info ++ List.take (1 : Nat) (List.drop (0 : Nat) [BitVec.ofInt (8 : Nat) (↑(k + (1 : Nat)) : Int)]))) ≤ x.length) && decide ((0 : Nat) < (List.take (List.length (U key (t ++ info ++ List.take (1 : Nat) (List.drop (0 : Nat) [BitVec.ofInt (8 : Nat) (↑(k + (1 : Nat)) : Int)])))) (List.drop (0 : Nat) x)).length) && decide ((List.take (List.length (U key (t ++ info ++ List.take (1 : Nat) (List.drop (0 : Nat) [BitVec.ofInt (8 : Nat) (↑(k + (1 : Nat)) : Int)])))) (List.drop (0 : Nat) x)).length ≤ (1099511627776 : Nat)) then ∀ (cap' : Nat) (rest : List (BitVec (8 : Nat))), (List.take (List.length (U key (t ++ info ++ List.take (1 : Nat) (List.drop (0 : Nat) [BitVec.ofInt (8 : Nat) (↑(k + (1 : Nat)) : Int)])))) (List.drop (0 : Nat) x)).length + rest.length = cap' → bif inI ((↑(k + (1 : Nat)) : Int) + (1 : Int)) then a { k := k + (1 : Nat), t := U key (t ++ info ++ List.take (1 : Nat) (List.drop (0 : Nat) [BitVec.ofInt (8 : Nat) (↑(k + (1 : Nat)) : Int)])), o := O9.at' (List.take (List.length (U key (t ++ info ++ List.take (1 : Nat) (List.drop (0 : Nat) [BitVec.ofInt (8 : Nat) (↑(k + (1 : Nat)) : Int)])))) (List.drop (0 : Nat) x)).length cap' (List.take (List.length (U key (t ++ info ++ List.take (1 : Nat) (List.drop (0 : Nat) [BitVec.ofInt (8 : Nat) (↑(k + (1 : Nat)) : Int)])))) (List.drop (0 : Nat) x) ++ rest) } ∧ SV.s key = ren (sig (2 : Nat) [(0 : Nat) + (1 : Nat) + (1 : Nat) + (1 : Nat) + (1 : Nat)]) (SV.s key) ∧ SV.s info = ren (sig (2 : Nat) [(0 : Nat) + (1 : Nat) + (1 : Nat) + (1 : Nat) + (1 : Nat)]) (SV.s info) ∧ SV.i n = ren (sig (2 : Nat) [(0 : Nat) + (1 : Nat) + (1 : Nat) + (1 : Nat) + (1 : Nat)]) (SV.i n) ∧ SV.sl ((0 : Nat) + (1 : Nat) + (1 : Nat) + (1 : Nat) + (1 : Nat)) (0 : Nat) (List.take (List.length (U key (t ++ info ++ List.take (1 : Nat) (List.drop (0 : Nat) [BitVec.ofInt (8 : Nat) (↑(k + (1 : Nat)) : Int)])))) (List.drop (0 : Nat) x)).length cap' = ren (sig (2 : Nat) [(0 : Nat) + (1 : Nat) + (1 : Nat) + (1 : Nat) + (1 : Nat)]) (O9.at' (List.take (List.length (U key (t ++ info ++ List.take (1 : Nat) (List.drop (0 : Nat) [BitVec.ofInt (8 : Nat) (↑(k + (1 : Nat)) : Int)])))) (List.drop (0 : Nat) x)).length cap' (List.take (List.length (U key (t ++ info ++ List.take (1 : Nat) (List.drop (0 : Nat) [BitVec.ofInt (8 : Nat) (↑(k + (1 : Nat)) : Int)])))) (List.drop (0 : Nat) x) ++ rest)).sv ∧ SV.s (U key (t ++ info ++ List.take (1 : Nat) (List.drop (0 : Nat) [BitVec.ofInt (8 : Nat) (↑(k + (1 : Nat)) : Int)]))) = ren (sig (2 : Nat) [(0 : Nat) + (1 : Nat) + (1 : Nat) + (1 : Nat) + (1 : Nat)]) (SV.s (U key (t ++ info ++ List.take (1 : Nat) (List.drop (0 : Nat) [BitVec.ofInt (8 : Nat) (↑(k + (1 : Nat)) : Int)])))) ∧ SV.i ((↑(k + (1 : Nat)) : Int) + (1 : Int)) = ren (sig (2 : Nat) [(0 : Nat) + (1 : Nat) + (1 : Nat) + (1 : Nat) + (1 : Nat)]) (SV.i (↑(k + (1 : Nat) + (1 : Nat)) : Int)) ∧ (false = false ∧ Cont.a32 H0 = Cont.ren (sig (2 : Nat) [(0 : Nat) + (1 : Nat) + (1 : Nat) + (1 : Nat) + (1 : Nat)]) (Cont.a32 H0)) ∧ (false = false ∧ Cont.a32 K64 = Cont.ren (sig (2 : Nat) [(0 : Nat) + (1 : Nat) + (1 : Nat) + (1 : Nat) + (1 : Nat)]) (Cont.a32 K64)) ∧ (true = true ∧ Cont.a8 (List.take (List.length (U key (t ++ info ++ List.take (1 : Nat) (List.drop (0 : Nat) [BitVec.ofInt (8 : Nat) (↑(k + (1 : Nat)) : Int)])))) (List.drop (0 : Nat) x) ++ rest) = Cont.ren (sig (2 : Nat) [(0 : Nat) + (1 : Nat) + (1 : Nat) + (1 : Nat) + (1 : Nat)]) (Cont.a8 (List.take (List.length (U key (t ++ info ++ List.take (1 : Nat) (List.drop (0 : Nat) [BitVec.ofInt (8 : Nat) (↑(k + (1 : Nat)) : Int)])))) (List.drop (0 : Nat) x) ++ rest))) ∧ True else False else False else False else False else False else (0 : Nat) = (0 : Nat) ∧ q ∧ SV.i n = SV.i n ∧ O9.no.sv = O9.no.sv ∧ (false = false ∧ Cont.a32 H0 = Cont.a32 H0) ∧ (false = false ∧ Cont.a32 K64 = Cont.a32 K64) ∧ True) := by kernel_rfl
theorem vr9b (D R : Tx → Tx) (U : Tx → Tx → Tx) (key info t b : Tx) (n : Int) (k len cap : Nat) (a : I9 → Prop) (q : Prop) : (frK 41 (i9 key info n ⟨k, t, .at' len cap b⟩) fun fr => vround Tryd.prog (EH1 D R U) noL 9 0 fr (M9 (.at' len cap b)) (Kp G 0 41 (sel9 k) a (i9 key info n) (fun i => M9 i.o) q (o9 n (.at' len cap b)) (M9 (.at' len cap b)))) = (bif ilt (↑len : Int) n then bif ile (↑(List.length t + List.length info) : Int) (9223372036854775807 : Int) then bif ile (↑((t ++ info).length + (List.take (1 : Nat) (List.drop (0 : Nat) [BitVec.ofInt (8 : Nat) (↑(k + (1 : Nat)) : Int)])).length) : Int) (9223372036854775807 : Int) then bif (List.length key).ble (1000000 : Nat) && (t ++ info ++ List.take (1 : Nat) (List.drop (0 : Nat) [BitVec.ofInt (8 : Nat) (↑(k + (1 : Nat)) : Int)])).length.ble (1000000 : Nat) then ∀ (cap_1 : Nat) (x : List (BitVec (8 : Nat))), List.length (U key (t ++ info ++ List.take (1 : Nat) (List.drop (0 : Nat) [BitVec.ofInt (8 : Nat) (↑(k + (1 : Nat)) : Int)]))) ≤ cap_1 → x = U key (t ++ info ++ List.take (1 : Nat) (List.drop (0 : Nat) [BitVec.ofInt (8 : Nat) (↑(k + (1 : Nat)) : Int)])) ++ List.replicate (cap_1 - List.length (U key (t ++ info ++ List.take (1 : Nat) (List.drop (0 : Nat) [BitVec.ofInt (8 : Nat) (↑(k + (1 : Nat)) : Int)])))) (0 : BitVec (8 : Nat)) → bif decide ((0 : Nat) + List.length (U key (t ++ info ++ List.take (1 : Nat) (List.drop (0 : Nat) [BitVec.ofInt (8 : Nat) (↑(k + (1 : Nat)) : Int)]))) ≤ x.length) && true && decide (len ≤ cap) && decide (List.length b = cap) && decide (len + (List.take (List.length (U key (t ++ info ++ List.take (1 : Nat) (List.drop (0 : Nat) [BitVec.ofInt (8 : Nat) (↑(k + (1 : Nat)) : Int)])))) (List.drop (0 : Nat) x)).length ≤ (1099511627776 : Nat)) && true then ∀ (cap' : Nat) (rest : List (BitVec (8 : Nat))), len + (List.take (List.length (U key (t ++ info ++ List.take (1 : Nat) (List.drop (0 : Nat) [BitVec.ofInt (8 : Nat) (↑(k + (1 : Nat)) : Int)])))) (List.drop (0 : Nat) x)).length + rest.length = cap' → bif inI ((↑(k + (1 : Nat)) : Int) + (1 : Int)) then a { k := k + (1 : Nat), t := U key (t ++ info ++ List.take (1 : Nat) (List.drop (0 : Nat) [BitVec.ofInt (8 : Nat) (↑(k + (1 : Nat)) : Int)])), o := O9.at' (len + (List.take (List.length (U key (t ++ info ++ List.take (1 : Nat) (List.drop (0 : Nat) [BitVec.ofInt (8 : Nat) (↑(k + (1 : Nat)) : Int)])))) (List.drop (0 : Nat) x)).length) cap' (List.take len b ++ List.take (List.length (U key (t ++ info ++ List.take (1 : Nat) (List.drop (0 : Nat) [BitVec.ofInt (8 : Nat) (↑(k + (1 : Nat)) : Int)])))) (List.drop (0 : Nat) x) ++ rest) } ∧ SV.s key = ren (sig (2 : Nat) [(0 : Nat) + (1 : Nat) + (1 : Nat) + (1 : Nat) + (1 : Nat) + (1 : Nat)]) (SV.s key) ∧ SV.s info = ren (sig (2 : Nat) [(0 : Nat) + (1 : Nat) + (1 : Nat) + (1 : Nat) + (1 : Nat) + (1 : Nat)]) (SV.s info) ∧ SV.i n = ren (sig (2 : Nat) [(0 : Nat) + (1 : Nat) + (1 : Nat) + (1 : Nat) + (1 : Nat) + (1 : Nat)]) (SV.i n) ∧ SV.sl ((0 : Nat) + (1 : Nat) + (1 : Nat) + (1 : Nat) + (1 : Nat) + (1 : Nat)) (0 : Nat) (len + (List.take (List.length (U key (t ++ info ++ List.take (1 : Nat) (List.drop (0 : Nat) [BitVec.ofInt (8 : Nat) (↑(k + (1 : Nat)) : Int)])))) (List.drop (0 : Nat) x)).length) cap' = ren (sig (2 : Nat) [(0 : Nat) + (1 : Nat) + (1 : Nat) + (1 : Nat) + (1 : Nat) + (1 : Nat)]) (O9.at' (len + (List.take (List.length (U key (t ++ info ++ List.take (1 : Nat) (List.drop (0 : Nat) [BitVec.ofInt (8 : Nat) (↑(k + (1 : Nat)) : Int)])))) (List.drop (0 : Nat) x)).length) cap' (List.take len b ++ List.take (List.length (U key (t ++ info ++ List.take (1 : Nat) (List.drop (0 : Nat) [BitVec.ofInt (8 : Nat) (↑(k + (1 : Nat)) : Int)])))) (List.drop (0 : Nat) x) ++ rest)).sv ∧ SV.s (U key (t ++ info ++ List.take (1 : Nat) (List.drop (0 : Nat) [BitVec.ofInt (8 : Nat) (↑(k + (1 : Nat)) : Int)]))) = ren (sig (2 : Nat) [(0 : Nat) + (1 : Nat) + (1 : Nat) + (1 : Nat) + (1 : Nat) + (1 : Nat)]) (SV.s (U key (t ++ info ++ List.take (1 : Nat) (List.drop (0 : Nat) [BitVec.ofInt (8 : Nat) (↑(k + (1 : Nat)) : Int)])))) ∧ SV.i ((↑(k + (1 : Nat)) : Int) + (1 : Int)) = ren (sig (2 : Nat) [(0 : Nat) + (1 : Nat) + (1 : Nat) + (1 : Nat) + (1 : Nat) + (1 : Nat)]) (SV.i (↑(k + (1 : Nat) + (1 : Nat)) : Int)) ∧ (false = false ∧ Cont.a32 H0 = Cont.ren (sig (2 : Nat) [(0 : Nat) + (1 : Nat) + (1 : Nat) + (1 : Nat) + (1 : Nat) + (1 : Nat)]) (Cont.a32 H0)) ∧ (false = false ∧ Cont.a32 K64 = Cont.ren (sig (2 : Nat) [(0 : Nat) + (1 : Nat) + (1 : Nat) + (1 : Nat) + (1 : Nat) + (1 : Nat)]) (Cont.a32 K64)) ∧ (true = true ∧ Cont.a8 (List.take len b ++ List.take (List.length (U key (t ++ info ++ List.take (1 : Nat) (List.drop (0 : Nat) [BitVec.ofInt (8 : Nat) (↑(k + (1 : Nat)) : Int)])))) (List.drop (0 : Nat) x) ++ rest) = Cont.ren (sig (2 : Nat) [(0 : Nat) + (1 : Nat) + (1 : Nat) + (1 : Nat) + (1 : Nat) + (1 : Nat)]) (Cont.a8 (List.take len b ++ List.take (List.length (U key (t ++ info ++ List.take (1 : Nat) (List.drop (0 : Nat) [BitVec.ofInt (8 : Nat) (↑(k + (1 : Nat)) : Int)])))) (List.drop (0 : Nat) x) ++ rest))) ∧ True else False else False else False else False else False else (0 : Nat) = (0 : Nat) ∧ q ∧ SV.i n = SV.i n ∧ (O9.at' len cap b).sv = (O9.at' len cap b).sv ∧ (false = false ∧ Cont.a32 H0 = Cont.a32 H0) ∧ (false = false ∧ Cont.a32 K64 = Cont.a32 K64) ∧ (true = true ∧ Cont.a8 b = Cont.a8 b) ∧ True) := by kernel_rfl
def vL9 (key info : Tx) (n : Int) (pn : Prop) (pb : Nat → Nat → Tx → Prop) (fr : List SV) (M : Mm) (K : Ko) : Prop := (inR n 8161 = true) ∧ vLe G fr M 41 (i9 key info n ⟨0, [], .no⟩) (M9 .no) ((pn → frK 41 (o9 n .no) fun fr1 => K .normal fr1 (M9 .no)) ∧ (∀ len cap b, pb len cap b → frK 41 (o9 n (.at' len cap b)) fun fr1 => K .normal fr1 (M9 (.at' len cap b))))
def L9 (key info : Tx) (n : Int) (pn : Prop) (pb : Nat → Nat → Tx → Prop) : LT := noL.add 0 (vL9 key info n pn pb)
theorem vcx9 (D R : Tx → Tx) (U : Tx → Tx → Tx) (key info : Tx) (n : Int) (pn : Prop) (pb : Nat → Nat → Tx → Prop) (K : SV → Mm → Prop) : (vf Tryd.prog (EH1 D R U) (L9 key info n pn pb) 9 [.s key, .s info, .i n] G K) = (bif ilt n (0 : Int) == false then bif ilt n (0 : Int) == false then bif bif ilt n (0 : Int) then true else ilt (8160 : Int) n then K (SV.tup [SV.s (bts { data := #[] }), SV.i (2 : Int)]) G else loopOf Tryd.prog (9 : Nat) (0 : Nat) = loopOf Tryd.prog (9 : Nat) (0 : Nat) ∧ inR n (8161 : Nat) = true ∧ SV.s key = SV.s key ∧ SV.s info = SV.s info ∧ SV.i n = SV.i n ∧ SV.v (Value.slice none (0 : Nat) (0 : Nat)) = O9.no.sv ∧ SV.s (bts { data := #[] }) = SV.s [] ∧ SV.i (1 : Int) = SV.i (↑(1 : Nat) : Int) ∧ (false = false ∧ Cont.a32 H0 = Cont.a32 H0) ∧ (false = false ∧ Cont.a32 K64 = Cont.a32 K64) ∧ (pn → bif ile (↑(0 : Nat) : Int) n && ile n (0 : Int) then K (SV.tup [SV.s [], SV.i (0 : Int)]) (M9 O9.no) else False) ∧ ∀ (len cap : Nat) (b : Tx), pb len cap b → bif ile (↑(0 : Nat) : Int) n && ile n (↑cap : Int) && ilt (↑(0 : Nat) : Int) (↑cap : Int) then bif decide ((0 : Nat) + n.toNat ≤ List.length b) then K (SV.tup [SV.s (List.take n.toNat (List.drop (0 : Nat) b)), SV.i (0 : Int)]) (M9 (O9.at' len cap b)) else False else False else bif ilt n (0 : Int) then K (SV.tup [SV.s (bts { data := #[] }), SV.i (2 : Int)]) G else False else bif ilt n (0 : Int) == false then False else bif ilt n (0 : Int) then K (SV.tup [SV.s (bts { data := #[] }), SV.i (2 : Int)]) G else False) := by kernel_rfl
def pcs (U : Tx → Tx → Tx) (key info : Tx) : Nat → Tx
  | 0 => []
  | k + 1 => U key (pcs U key info k ++ info ++ [BitVec.ofInt 8 ((k + 1 : Nat) : Int)])
def ct (U : Tx → Tx → Tx) (key info : Tx) : Nat → Tx
  | 0 => []
  | k + 1 => ct U key info k ++ pcs U key info (k + 1)
theorem pcs_len {U : Tx → Tx → Tx} (hU : ∀ k s, (U k s).length = 32) (key info : Tx) : ∀ k, (pcs U key info (k + 1)).length = 32 := fun k => hU _ _
theorem ct_len {U : Tx → Tx → Tx} (hU : ∀ k s, (U k s).length = 32) (key info : Tx) : ∀ k, (ct U key info k).length = 32 * k
  | 0 => rfl
  | k + 1 => by rw [ct, List.length_append, ct_len hU key info k, pcs_len hU]; omega
theorem ct_take {U : Tx → Tx → Tx} (hU : ∀ k s, (U k s).length = 32) (key info : Tx) (n k : Nat) (h : n ≤ 32 * k) : ∀ j, (ct U key info (k + j)).take n = (ct U key info k).take n
  | 0 => rfl
  | j + 1 => by
    rw [show k + (j + 1) = k + j + 1 by omega, ct, List.take_append_of_le_length (by rw [ct_len hU]; omega), ct_take hU key info n k h j]
/-- The first n bytes. -/
def xp (U : Tx → Tx → Tx) (key info : Tx) (n : Nat) : Tx := (ct U key info (n / 32 + 1)).take n
theorem xp_of {U : Tx → Tx → Tx} (hU : ∀ k s, (U k s).length = 32) (key info : Tx) (n k : Nat) (h : n ≤ 32 * k) : (ct U key info k).take n = xp U key info n := by
  unfold xp
  rcases Nat.le_total k (n / 32 + 1) with q | q
  · have := ct_take hU key info n k h (n / 32 + 1 - k)
    rw [show k + (n / 32 + 1 - k) = n / 32 + 1 by omega] at this
    exact this.symm
  · have := ct_take hU key info n (n / 32 + 1) (by omega) (k - (n / 32 + 1))
    rw [show n / 32 + 1 + (k - (n / 32 + 1)) = k by omega] at this
    exact this
def has9 (U : Tx → Tx → Tx) (key info : Tx) (k : Nat) : O9 → Prop
  | .no => k = 0
  | .at' len cap b => len = 32 * k ∧ len ≤ cap ∧ b.length = cap ∧ b.take len = ct U key info k ∧ 0 < len
def pn9 (n : Int) : Prop := n ≤ 0
def pb9 (U : Tx → Tx → Tx) (key info : Tx) (n : Int) (len cap : Nat) (b : Tx) : Prop := ∃ k, has9 U key info k (.at' len cap b) ∧ n.toNat ≤ 32 * k
theorem loop9 {D R : Tx → Tx} {U : Tx → Tx → Tx} (hEH : EnvOk Tryd.prog (EH1 D R U)) (hU : ∀ k s, (U k s).length = 32) (key info : Tx) (n : Int) (hk : key.length ≤ 1000000) (hi : info.length ≤ 900000) : LOk Tryd.prog G G 9 (L9 key info n (pn9 n) (pb9 U key info n)) := by
  refine LT.add_ok (noL_ok _ _ _ _) fun fr M K hh => ?_
  obtain ⟨hn, hh⟩ := hh
  have hn8 : 0 ≤ n ∧ n < 8161 := by
    unfold inR at hn
    rw [Bool.and_eq_true, ile_eq, ilt_eq] at hn
    exact ⟨of_decide_eq_true hn.1, of_decide_eq_true hn.2⟩
  obtain ⟨hle, hK1, hK2⟩ := vLe_ok hh
  refine loop_pick hEH mixed (Nat.le_refl _) (by kernel_rfl) (fun i : I9 => i9 key info n i) (fun i => M9 i.o) (fun i => i.t = pcs U key info i.k ∧ has9 U key info i.k i.o ∧ 32 * (i.k : Int) < n + 32) (fun i => 8192 - 32 * i.k) (fun i => sel9 i.k) (fun i => n ≤ 32 * (i.k : Int)) (fun i => o9 n i.o) (fun i => M9 i.o) ⟨0, [], .no⟩ ⟨rfl, rfl, by show 32 * ((0 : Nat) : Int) < n + 32; omega⟩ (fun _ => noL) (fun _ _ => noL_ok _ _ _ _) (fun i hp => ?_) hle (fun i hp hq => ?_)
  · obtain ⟨k, t, o⟩ := i
    obtain ⟨et, ho, hb⟩ := hp
    replace et : t = pcs U key info k := et
    replace hb : 32 * (k : Int) < n + 32 := hb
    have ht : t.length ≤ 32 := by
      rw [et]
      cases k with
      | zero => exact Nat.zero_le _
      | succ k => rw [pcs_len hU]; exact Nat.le_refl _
    have eb : List.take 1 (List.drop 0 [BitVec.ofInt 8 (((k + 1 : Nat) : Nat) : Int)]) = [BitVec.ofInt 8 (((k + 1 : Nat) : Nat) : Int)] := rfl
    have eU : U key (t ++ info ++ [BitVec.ofInt 8 (((k + 1 : Nat) : Nat) : Int)]) = pcs U key info (k + 1) := by rw [et]; rfl
    have lU := pcs_len hU key info k
    have b1 : ile ((t.length + info.length : Nat) : Int) 9223372036854775807 = true := by rw [ile_eq]; exact decide_eq_true (by omega)
    have b2 : ile (((t ++ info).length + [BitVec.ofInt 8 (((k + 1 : Nat) : Nat) : Int)].length : Nat) : Int) 9223372036854775807 = true := by rw [ile_eq, List.length_append]; exact decide_eq_true (by simp; omega)
    have b3 : (key.length.ble 1000000 && (t ++ info ++ [BitVec.ofInt 8 (((k + 1 : Nat) : Nat) : Int)]).length.ble 1000000) = true := by
      rw [Nat.ble_eq_true_of_le hk, Nat.ble_eq_true_of_le (by rw [List.length_append, List.length_append]; simp; omega)]; rfl
    have b4 : inI ((((k + 1 : Nat) : Nat) : Int) + 1) = true := inI_iff.2 (by omega)
    cases o with
    | no =>
      obtain rfl : k = 0 := ho
      refine of_eq (vr9n D R U key info t n 0 _ _) ?_
      rw [eb, eU, lU]
      cases hc : ilt ((0 : Nat) : Int) n
      · have hc2 : n ≤ 32 * ((0 : Nat) : Int) := by rw [ilt_eq] at hc; have := of_decide_eq_false hc; omega
        exact ⟨rfl, hc2, rfl, rfl, ⟨rfl, rfl⟩, ⟨rfl, rfl⟩, trivial⟩
      · have hc2 : 0 < n := by rw [ilt_eq] at hc; have := of_decide_eq_true hc; omega
        refine bif_of b1 (bif_of b2 (bif_of b3 fun cap1 x hx1 hx2 => ?_))
        have lx : x.length = cap1 := by rw [hx2, List.length_append, lU, List.length_replicate]; omega
        have ex : List.take 32 (List.drop 0 x) = pcs U key info (0 + 1) := by
          rw [hx2, List.drop_zero, List.take_append_of_le_length (by rw [lU]; exact Nat.le_refl _), List.take_of_length_le (by rw [lU]; exact Nat.le_refl _)]
        rw [ex, lU]
        refine bif_of (by simp only [Bool.and_eq_true, decide_eq_true_eq]; omega) fun cap' rest hr => bif_of b4 ⟨⟨⟨rfl, ⟨by show 32 = 32 * (0 + 1); omega, by omega, by rw [List.length_append, lU]; exact hr, ?_, by omega⟩, by show 32 * ((0 + 1 : Nat) : Int) < n + 32; omega⟩, by show 8192 - 32 * (0 + 1) < 8192 - 32 * 0; omega⟩, rfl, rfl, rfl, rfl, rfl, rfl, ⟨rfl, rfl⟩, ⟨rfl, rfl⟩, ⟨rfl, rfl⟩, trivial⟩
        rw [List.take_append_of_le_length (by rw [lU]; exact Nat.le_refl _), List.take_of_length_le (by rw [lU]; exact Nat.le_refl _)]
        rfl
    | at' len cap b =>
      replace ho : has9 U key info k (.at' len cap b) := ho
      obtain ⟨rfl, h2, h3, h4, h5⟩ := ho
      refine of_eq (vr9b D R U key info t b n k _ cap _ _) ?_
      rw [eb, eU, lU]
      cases hc : ilt ((32 * k : Nat) : Int) n
      · have hc2 : n ≤ 32 * (k : Int) := by rw [ilt_eq] at hc; have := of_decide_eq_false hc; omega
        exact ⟨rfl, hc2, rfl, rfl, ⟨rfl, rfl⟩, ⟨rfl, rfl⟩, ⟨rfl, rfl⟩, trivial⟩
      · have hc2 : 32 * (k : Int) < n := by rw [ilt_eq] at hc; have := of_decide_eq_true hc; omega
        refine bif_of b1 (bif_of b2 (bif_of b3 fun cap1 x hx1 hx2 => ?_))
        have lx : x.length = cap1 := by rw [hx2, List.length_append, lU, List.length_replicate]; omega
        have ex : List.take 32 (List.drop 0 x) = pcs U key info (k + 1) := by
          rw [hx2, List.drop_zero, List.take_append_of_le_length (by rw [lU]; exact Nat.le_refl _), List.take_of_length_le (by rw [lU]; exact Nat.le_refl _)]
        rw [ex, lU]
        refine bif_of (by simp only [Bool.and_true, Bool.and_eq_true, decide_eq_true_eq]; omega) fun cap' rest hr => bif_of b4 ⟨⟨⟨rfl, ⟨by show 32 * k + 32 = 32 * (k + 1); omega, by omega, by rw [List.length_append, List.length_append, List.length_take, lU, h3]; omega, ?_, by omega⟩, by show 32 * ((k + 1 : Nat) : Int) < n + 32; omega⟩, by show 8192 - 32 * (k + 1) < 8192 - 32 * k; omega⟩, rfl, rfl, rfl, rfl, rfl, rfl, ⟨rfl, rfl⟩, ⟨rfl, rfl⟩, ⟨rfl, rfl⟩, trivial⟩
        rw [h4, ct, List.take_append_of_le_length (by rw [List.length_append, ct_len hU, lU]; omega), List.take_of_length_le (by rw [List.length_append, ct_len hU, lU]; omega)]
  · obtain ⟨k, t, o⟩ := i
    obtain ⟨et, ho, hb⟩ := hp
    replace hq : n ≤ 32 * (k : Int) := hq
    cases o with
    | no =>
      obtain rfl : k = 0 := ho
      have := hK1 (show n ≤ 0 by simpa using hq); rw [frK_eq] at this; exact this
    | at' len cap b => have := hK2 len cap b ⟨k, ho, by omega⟩; rw [frK_eq] at this; exact this
/-- The bytes, and the number of what went wrong. -/
def xpI (U : Tx → Tx → Tx) (key info : Tx) (n : Int) : Tx := bif inR n 8161 then xp U key info n.toNat else []
def erI (n : Int) : Int := bif inR n 8161 then 0 else 2
def cRExp (X : Tx → Tx → Int → Tx) (e : Int → Int) : List SV → List Cont → Option (Bool × SV)
  | [.s key, .s info, .i n], _ => some (Nat.ble key.length 1000000 && Nat.ble info.length 900000, .tup [.s (X key info n), .i (e n)])
  | _, _ => none
theorem rexp_ok {D R : Tx → Tx} {U : Tx → Tx → Tx} (hEH : EnvOk Tryd.prog (EH1 D R U)) (hU : ∀ k s, (U k s).length = 32) : POk Tryd.prog G 9 (cRExp (xpI U) erI) := by
  intro args acs r h β M w hR hw ha
  unfold cRExp at h
  split at h
  · rename_i key info n
    simp only [Option.some.injEq, Prod.mk.injEq, Bool.and_eq_true] at h
    obtain ⟨⟨h1, h2⟩, rfl⟩ := h
    have h1 := Nat.le_of_ble_eq_true h1
    have h2 := Nat.le_of_ble_eq_true h2
    have fin : ∀ r, Spec Tryd.prog G 9 [.s key, .s info, .i n] G (fun r' _ => r' = r) → r.wf 0 = true → CallR Tryd.prog 9 (vals β [.s key, .s info, .i n]).toArray w (fun v w' => v = val β r ∧ Fp0 w w') := fun r hS hr => pure0 hS rfl hr hR
    cases hb : inR n 8161
    · have er : SV.tup [.s (xpI U key info n), .i (erI n)] = SV.tup [.s [], .i 2] := by unfold xpI erI; rw [hb]; rfl
      rw [er]
      refine fin _ (vf_ok hEH mixed (loop9 hEH hU key info n h1 h2) (of_eq (vcx9 D R U key info n _ _ _) ?_)) rfl
      unfold inR at hb
      rw [Bool.and_eq_false_iff, ile_eq, ilt_eq] at hb
      cases hc : ilt n 0
      · have hc2 : 0 ≤ n := by rw [ilt_eq] at hc; have := of_decide_eq_false hc; omega
        have hd : ilt 8160 n = true := by
          rw [ilt_eq]
          refine decide_eq_true ?_
          rcases hb with q | q
          · have := of_decide_eq_false q; omega
          · have := of_decide_eq_false q; omega
        rw [hd]
        rfl
      · rfl
    · have er : SV.tup [.s (xpI U key info n), .i (erI n)] = SV.tup [.s (xp U key info n.toNat), .i 0] := by unfold xpI erI; rw [hb]; rfl
      rw [er]
      refine fin _ (vf_ok hEH mixed (loop9 hEH hU key info n h1 h2) (of_eq (vcx9 D R U key info n _ _ _) ?_)) rfl
      have hb0 := hb
      unfold inR at hb
      rw [Bool.and_eq_true, ile_eq, ilt_eq] at hb
      have n0 : 0 ≤ n := of_decide_eq_true hb.1
      have n8 : n < 8161 := of_decide_eq_true hb.2
      have hc : ilt n 0 = false := by rw [ilt_eq]; exact decide_eq_false (by omega)
      have hd : ilt 8160 n = false := by rw [ilt_eq]; exact decide_eq_false (by omega)
      rw [hc, hd]
      refine ⟨rfl, hb0, rfl, rfl, rfl, rfl, rfl, rfl, ⟨rfl, rfl⟩, ⟨rfl, rfl⟩, fun hp => ?_, fun len cap b hp => ?_⟩
      · have hn : n = 0 := by have : n ≤ 0 := hp; omega
        subst hn
        exact bif_of rfl rfl
      · obtain ⟨k, ⟨rfl, q2, q3, q4, q5⟩, q6⟩ := hp
        have a1 : ile ((0 : Nat) : Int) n = true := by rw [ile_eq]; exact decide_eq_true (by omega)
        have a2 : ile n (cap : Int) = true := by rw [ile_eq]; exact decide_eq_true (by omega)
        have a3 : ilt ((0 : Nat) : Int) (cap : Int) = true := by rw [ilt_eq]; exact decide_eq_true (by omega)
        refine bif_of (by rw [a1, a2, a3]; rfl) (bif_of (decide_eq_true (by omega)) ?_)
        have e : List.take n.toNat (List.drop 0 b) = xp U key info n.toNat := by
          rw [List.drop_zero, ← xp_of hU key info n.toNat k q6, ← q4, List.take_take, Nat.min_eq_left q6]
        rw [e]
  · cases h
end Go.Proofs.YtmalnjdacmlcdaaDoor
