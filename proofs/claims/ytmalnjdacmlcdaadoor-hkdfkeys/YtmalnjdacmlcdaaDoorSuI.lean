/-
  sum: copies, and digests of what a hash has. No statement is proved here.
-/
import Derived.Test.YtmalnjdacmlcdaaDoorSuH
namespace Go.Proofs.YtmalnjdacmlcdaaDoor
open Go.RowKit
set_option linter.unusedVariables false
set_option linter.unusedSimpArgs false
set_option maxRecDepth 100000

-- behind a call less is told of: blocks that are no more needed, and places that were kept free
theorem Spec.sel {P : Program} {G M M' : Mm} {f : Nat} {args : List SV} {r' : SV} {rs : List Nat} (hG : G.length ≤ M.length) (hr : isAny r' = false) (hS : Spec P G f args M (fun r M1 => vLeR M [r] M1 1 [(0, r')] M' rs True)) : Spec P G f args M (fun r M1 => r = r' ∧ M1 = M') := by
  intro β w hR hw
  refine (hS β w hR hw).mono fun v w' hh => ?_
  obtain ⟨β1, M1, r, hE, hR1, ⟨hwf, rfl⟩, hK⟩ := hh
  obtain ⟨hl, -⟩ := vLeR_ok hK
  have hF : RelF β1 M1.length [r] { tmps := #[val β1 r], defers := [] } := by
    refine ⟨rfl, fun k x hx => ?_, rfl⟩
    cases k with
    | zero => obtain rfl := Option.some.inj hx; exact .inr ⟨hwf, rfl⟩
    | succ k => cases hx
  obtain ⟨h1, h2, h3⟩ := hl.go hG hE hF hR1
  have h4 := h2.at' 0 r' rfl
  rcases h4 with e | ⟨e1, e2⟩
  · subst e; cases hr
  · exact ⟨_, M', r', h1, h3, ⟨e1, e2⟩, rfl, rfl⟩
def Hnn (h : S8) (n : BitVec 64) : Mm := [⟨false, .a32 H0⟩, ⟨false, .a32 K64⟩, ⟨true, .row (hrow h (.v (.slice none 0 0)) n)⟩, ⟨true, .row (hrow h (.v (.slice none 0 0)) n)⟩]
def Hbn (h : S8) (len : Nat) (n : BitVec 64) (l : List (BitVec 8)) : Mm := [⟨false, .a32 H0⟩, ⟨false, .a32 K64⟩, ⟨true, .row (hrow h (.sl 3 0 len 64) n)⟩, ⟨true, .a8 l⟩, ⟨true, .row (hrow h (.v (.slice none 0 0)) n)⟩]
def Hbb (h : S8) (len : Nat) (n : BitVec 64) (l l' : List (BitVec 8)) : Mm := [⟨false, .a32 H0⟩, ⟨false, .a32 K64⟩, ⟨true, .row (hrow h (.sl 3 0 len 64) n)⟩, ⟨true, .a8 l⟩, ⟨true, .row (hrow h (.sl 5 0 len 64) n)⟩, ⟨true, .a8 l'⟩]
theorem vc14z (K : SV → Mm → Prop) : (vf Tryd.prog E15 noL 42 [.v (.pointer none)] G K) = (K (SV.v (Value.pointer none)) G) := by kernel_rfl
theorem vc14n (h : S8) (n : BitVec 64) : (vf Tryd.prog E15 noL 42 [.ptr 2 0] (Hn h n) (fun r M1 => vLeR (Hn h n) [r] M1 1 [(0, .ptr 3 0)] (Hnn h n) [12] True)) = (SV.ptr (List.length (Hn h n) + 9) 0 = ren (sig (List.length (Hn h n)) [12]) (SV.ptr 3 0) ∧ (false = false ∧ Cont.a32 H0 = Cont.ren (sig (List.length (Hn h n)) [12]) (Cont.a32 H0)) ∧ (false = false ∧ Cont.a32 K64 = Cont.ren (sig (List.length (Hn h n)) [12]) (Cont.a32 K64)) ∧ (true = true ∧ Cont.row (hrow h (SV.v (Value.slice none 0 0)) n) = Cont.ren (sig (List.length (Hn h n)) [12]) (Cont.row (hrow h (SV.v (Value.slice none 0 0)) n))) ∧ (true = true ∧ Cont.row (List.take 12 (List.take 1 (List.take 0 [SV.b false, SV.w32 0, SV.w32 0, SV.w32 0, SV.w32 0, SV.w32 0, SV.w32 0, SV.w32 0, SV.w32 0, SV.v (Value.slice none 0 0), SV.i 0, SV.v (Value.int IntKind.i8 0), SV.w64 0] ++ [SV.b true] ++ List.drop 1 [SV.b false, SV.w32 0, SV.w32 0, SV.w32 0, SV.w32 0, SV.w32 0, SV.w32 0, SV.w32 0, SV.w32 0, SV.v (Value.slice none 0 0), SV.i 0, SV.v (Value.int IntKind.i8 0), SV.w64 0]) ++ List.map SV.w32 [h.a, h.b, h.c, h.d, h.e, h.f, h.g, h.h] ++ List.drop (1 + (List.map SV.w32 [h.a, h.b, h.c, h.d, h.e, h.f, h.g, h.h]).length) (List.take 0 [SV.b false, SV.w32 0, SV.w32 0, SV.w32 0, SV.w32 0, SV.w32 0, SV.w32 0, SV.w32 0, SV.w32 0, SV.v (Value.slice none 0 0), SV.i 0, SV.v (Value.int IntKind.i8 0), SV.w64 0] ++ [SV.b true] ++ List.drop 1 [SV.b false, SV.w32 0, SV.w32 0, SV.w32 0, SV.w32 0, SV.w32 0, SV.w32 0, SV.w32 0, SV.w32 0, SV.v (Value.slice none 0 0), SV.i 0, SV.v (Value.int IntKind.i8 0), SV.w64 0])) ++ [SV.w64 n] ++ List.drop (12 + (0 + 1)) (List.take 1 (List.take 0 [SV.b false, SV.w32 0, SV.w32 0, SV.w32 0, SV.w32 0, SV.w32 0, SV.w32 0, SV.w32 0, SV.w32 0, SV.v (Value.slice none 0 0), SV.i 0, SV.v (Value.int IntKind.i8 0), SV.w64 0] ++ [SV.b true] ++ List.drop 1 [SV.b false, SV.w32 0, SV.w32 0, SV.w32 0, SV.w32 0, SV.w32 0, SV.w32 0, SV.w32 0, SV.w32 0, SV.v (Value.slice none 0 0), SV.i 0, SV.v (Value.int IntKind.i8 0), SV.w64 0]) ++ List.map SV.w32 [h.a, h.b, h.c, h.d, h.e, h.f, h.g, h.h] ++ List.drop (1 + (List.map SV.w32 [h.a, h.b, h.c, h.d, h.e, h.f, h.g, h.h]).length) (List.take 0 [SV.b false, SV.w32 0, SV.w32 0, SV.w32 0, SV.w32 0, SV.w32 0, SV.w32 0, SV.w32 0, SV.w32 0, SV.v (Value.slice none 0 0), SV.i 0, SV.v (Value.int IntKind.i8 0), SV.w64 0] ++ [SV.b true] ++ List.drop 1 [SV.b false, SV.w32 0, SV.w32 0, SV.w32 0, SV.w32 0, SV.w32 0, SV.w32 0, SV.w32 0, SV.w32 0, SV.v (Value.slice none 0 0), SV.i 0, SV.v (Value.int IntKind.i8 0), SV.w64 0]))) = Cont.ren (sig (List.length (Hn h n)) [12]) (Cont.row (hrow h (SV.v (Value.slice none 0 0)) n))) ∧ True) := by kernel_rfl
theorem vc14bn (h : S8) (len : Nat) (n : BitVec 64) (l : List (BitVec 8)) : (vf Tryd.prog E15 noL 42 [.ptr 2 0] (Hb h len n l) (fun r M1 => vLeR (Hb h len n l) [r] M1 1 [(0, .ptr 4 0)] (Hbn h len n l) [13] True)) = (bif len.ble 64 then bif len.ble 64 && len.ble l.length then bif ile (↑len : Int) 0 then SV.ptr (List.length (Hb h len n l) + 9) 0 = ren (sig (List.length (Hb h len n l)) [13]) (SV.ptr 4 0) ∧ (false = false ∧ Cont.a32 H0 = Cont.ren (sig (List.length (Hb h len n l)) [13]) (Cont.a32 H0)) ∧ (false = false ∧ Cont.a32 K64 = Cont.ren (sig (List.length (Hb h len n l)) [13]) (Cont.a32 K64)) ∧ (true = true ∧ Cont.row (hrow h (SV.sl 3 0 len 64) n) = Cont.ren (sig (List.length (Hb h len n l)) [13]) (Cont.row (hrow h (SV.sl 3 0 len 64) n))) ∧ (true = true ∧ Cont.a8 l = Cont.ren (sig (List.length (Hb h len n l)) [13]) (Cont.a8 l)) ∧ (true = true ∧ Cont.row (List.take 12 (List.take 1 (List.take 0 [SV.b false, SV.w32 0, SV.w32 0, SV.w32 0, SV.w32 0, SV.w32 0, SV.w32 0, SV.w32 0, SV.w32 0, SV.v (Value.slice none 0 0), SV.i 0, SV.v (Value.int IntKind.i8 0), SV.w64 0] ++ [SV.b true] ++ List.drop 1 [SV.b false, SV.w32 0, SV.w32 0, SV.w32 0, SV.w32 0, SV.w32 0, SV.w32 0, SV.w32 0, SV.w32 0, SV.v (Value.slice none 0 0), SV.i 0, SV.v (Value.int IntKind.i8 0), SV.w64 0]) ++ List.map SV.w32 [h.a, h.b, h.c, h.d, h.e, h.f, h.g, h.h] ++ List.drop (1 + (List.map SV.w32 [h.a, h.b, h.c, h.d, h.e, h.f, h.g, h.h]).length) (List.take 0 [SV.b false, SV.w32 0, SV.w32 0, SV.w32 0, SV.w32 0, SV.w32 0, SV.w32 0, SV.w32 0, SV.w32 0, SV.v (Value.slice none 0 0), SV.i 0, SV.v (Value.int IntKind.i8 0), SV.w64 0] ++ [SV.b true] ++ List.drop 1 [SV.b false, SV.w32 0, SV.w32 0, SV.w32 0, SV.w32 0, SV.w32 0, SV.w32 0, SV.w32 0, SV.w32 0, SV.v (Value.slice none 0 0), SV.i 0, SV.v (Value.int IntKind.i8 0), SV.w64 0])) ++ [SV.w64 n] ++ List.drop (12 + (0 + 1)) (List.take 1 (List.take 0 [SV.b false, SV.w32 0, SV.w32 0, SV.w32 0, SV.w32 0, SV.w32 0, SV.w32 0, SV.w32 0, SV.w32 0, SV.v (Value.slice none 0 0), SV.i 0, SV.v (Value.int IntKind.i8 0), SV.w64 0] ++ [SV.b true] ++ List.drop 1 [SV.b false, SV.w32 0, SV.w32 0, SV.w32 0, SV.w32 0, SV.w32 0, SV.w32 0, SV.w32 0, SV.w32 0, SV.v (Value.slice none 0 0), SV.i 0, SV.v (Value.int IntKind.i8 0), SV.w64 0]) ++ List.map SV.w32 [h.a, h.b, h.c, h.d, h.e, h.f, h.g, h.h] ++ List.drop (1 + (List.map SV.w32 [h.a, h.b, h.c, h.d, h.e, h.f, h.g, h.h]).length) (List.take 0 [SV.b false, SV.w32 0, SV.w32 0, SV.w32 0, SV.w32 0, SV.w32 0, SV.w32 0, SV.w32 0, SV.w32 0, SV.v (Value.slice none 0 0), SV.i 0, SV.v (Value.int IntKind.i8 0), SV.w64 0] ++ [SV.b true] ++ List.drop 1 [SV.b false, SV.w32 0, SV.w32 0, SV.w32 0, SV.w32 0, SV.w32 0, SV.w32 0, SV.w32 0, SV.w32 0, SV.v (Value.slice none 0 0), SV.i 0, SV.v (Value.int IntKind.i8 0), SV.w64 0]))) = Cont.ren (sig (List.length (Hb h len n l)) [13]) (Cont.row (hrow h (SV.v (Value.slice none 0 0)) n))) ∧ True else SV.ptr (List.length (Hb h len n l) + 9) 0 = ren (sig (List.length (Hb h len n l)) [13]) (SV.ptr 4 0) ∧ (false = false ∧ Cont.a32 H0 = Cont.ren (sig (List.length (Hb h len n l)) [13]) (Cont.a32 H0)) ∧ (false = false ∧ Cont.a32 K64 = Cont.ren (sig (List.length (Hb h len n l)) [13]) (Cont.a32 K64)) ∧ (true = true ∧ Cont.row (hrow h (SV.sl 3 0 len 64) n) = Cont.ren (sig (List.length (Hb h len n l)) [13]) (Cont.row (hrow h (SV.sl 3 0 len 64) n))) ∧ (true = true ∧ Cont.a8 l = Cont.ren (sig (List.length (Hb h len n l)) [13]) (Cont.a8 l)) ∧ (true = true ∧ Cont.row (hrow h (SV.sl (0 + 1 + 1 + 1 + 1 + 1 + 1 + 1 + 1 + 1 + 1 + 1 + 1 + 1 + 1 + 1) 0 len 64) n) = Cont.ren (sig (List.length (Hb h len n l)) [13]) (Cont.row (hrow h (SV.v (Value.slice none 0 0)) n))) ∧ True else False else False) := by kernel_rfl
theorem vc14bb (h : S8) (len : Nat) (n : BitVec 64) (l l' : List (BitVec 8)) : (vf Tryd.prog E15 noL 42 [.ptr 2 0] (Hb h len n l) (fun r M1 => vLeR (Hb h len n l) [r] M1 1 [(0, .ptr 4 0)] (Hbb h len n l l') [13, 15] True)) = (bif len.ble 64 then bif len.ble 64 && len.ble l.length then bif ile (↑len : Int) 0 then SV.ptr (List.length (Hb h len n l) + 9) 0 = ren (sig (List.length (Hb h len n l)) [13, 15]) (SV.ptr 4 0) ∧ (false = false ∧ Cont.a32 H0 = Cont.ren (sig (List.length (Hb h len n l)) [13, 15]) (Cont.a32 H0)) ∧ (false = false ∧ Cont.a32 K64 = Cont.ren (sig (List.length (Hb h len n l)) [13, 15]) (Cont.a32 K64)) ∧ (true = true ∧ Cont.row (hrow h (SV.sl 3 0 len 64) n) = Cont.ren (sig (List.length (Hb h len n l)) [13, 15]) (Cont.row (hrow h (SV.sl 3 0 len 64) n))) ∧ (true = true ∧ Cont.a8 l = Cont.ren (sig (List.length (Hb h len n l)) [13, 15]) (Cont.a8 l)) ∧ (true = true ∧ Cont.row (List.take 12 (List.take 1 (List.take 0 [SV.b false, SV.w32 0, SV.w32 0, SV.w32 0, SV.w32 0, SV.w32 0, SV.w32 0, SV.w32 0, SV.w32 0, SV.v (Value.slice none 0 0), SV.i 0, SV.v (Value.int IntKind.i8 0), SV.w64 0] ++ [SV.b true] ++ List.drop 1 [SV.b false, SV.w32 0, SV.w32 0, SV.w32 0, SV.w32 0, SV.w32 0, SV.w32 0, SV.w32 0, SV.w32 0, SV.v (Value.slice none 0 0), SV.i 0, SV.v (Value.int IntKind.i8 0), SV.w64 0]) ++ List.map SV.w32 [h.a, h.b, h.c, h.d, h.e, h.f, h.g, h.h] ++ List.drop (1 + (List.map SV.w32 [h.a, h.b, h.c, h.d, h.e, h.f, h.g, h.h]).length) (List.take 0 [SV.b false, SV.w32 0, SV.w32 0, SV.w32 0, SV.w32 0, SV.w32 0, SV.w32 0, SV.w32 0, SV.w32 0, SV.v (Value.slice none 0 0), SV.i 0, SV.v (Value.int IntKind.i8 0), SV.w64 0] ++ [SV.b true] ++ List.drop 1 [SV.b false, SV.w32 0, SV.w32 0, SV.w32 0, SV.w32 0, SV.w32 0, SV.w32 0, SV.w32 0, SV.w32 0, SV.v (Value.slice none 0 0), SV.i 0, SV.v (Value.int IntKind.i8 0), SV.w64 0])) ++ [SV.w64 n] ++ List.drop (12 + (0 + 1)) (List.take 1 (List.take 0 [SV.b false, SV.w32 0, SV.w32 0, SV.w32 0, SV.w32 0, SV.w32 0, SV.w32 0, SV.w32 0, SV.w32 0, SV.v (Value.slice none 0 0), SV.i 0, SV.v (Value.int IntKind.i8 0), SV.w64 0] ++ [SV.b true] ++ List.drop 1 [SV.b false, SV.w32 0, SV.w32 0, SV.w32 0, SV.w32 0, SV.w32 0, SV.w32 0, SV.w32 0, SV.w32 0, SV.v (Value.slice none 0 0), SV.i 0, SV.v (Value.int IntKind.i8 0), SV.w64 0]) ++ List.map SV.w32 [h.a, h.b, h.c, h.d, h.e, h.f, h.g, h.h] ++ List.drop (1 + (List.map SV.w32 [h.a, h.b, h.c, h.d, h.e, h.f, h.g, h.h]).length) (List.take 0 [SV.b false, SV.w32 0, SV.w32 0, SV.w32 0, SV.w32 0, SV.w32 0, SV.w32 0, SV.w32 0, SV.w32 0, SV.v (Value.slice none 0 0), SV.i 0, SV.v (Value.int IntKind.i8 0), SV.w64 0] ++ [SV.b true] ++ List.drop 1 [SV.b false, SV.w32 0, SV.w32 0, SV.w32 0, SV.w32 0, SV.w32 0, SV.w32 0, SV.w32 0, SV.w32 0, SV.v (Value.slice none 0 0), SV.i 0, SV.v (Value.int IntKind.i8 0), SV.w64 0]))) = Cont.ren (sig (List.length (Hb h len n l)) [13, 15]) (Cont.row (hrow h (SV.sl 5 0 len 64) n))) ∧ False else SV.ptr (List.length (Hb h len n l) + 9) 0 = ren (sig (List.length (Hb h len n l)) [13, 15]) (SV.ptr 4 0) ∧ (false = false ∧ Cont.a32 H0 = Cont.ren (sig (List.length (Hb h len n l)) [13, 15]) (Cont.a32 H0)) ∧ (false = false ∧ Cont.a32 K64 = Cont.ren (sig (List.length (Hb h len n l)) [13, 15]) (Cont.a32 K64)) ∧ (true = true ∧ Cont.row (hrow h (SV.sl 3 0 len 64) n) = Cont.ren (sig (List.length (Hb h len n l)) [13, 15]) (Cont.row (hrow h (SV.sl 3 0 len 64) n))) ∧ (true = true ∧ Cont.a8 l = Cont.ren (sig (List.length (Hb h len n l)) [13, 15]) (Cont.a8 l)) ∧ (true = true ∧ Cont.row (hrow h (SV.sl (0 + 1 + 1 + 1 + 1 + 1 + 1 + 1 + 1 + 1 + 1 + 1 + 1 + 1 + 1 + 1) 0 len 64) n) = Cont.ren (sig (List.length (Hb h len n l)) [13, 15]) (Cont.row (hrow h (SV.sl 5 0 len 64) n))) ∧ (true = true ∧ Cont.a8 (fillB (List.take len l)) = Cont.ren (sig (List.length (Hb h len n l)) [13, 15]) (Cont.a8 l')) ∧ True else False else False) := by kernel_rfl
def cCopy : List SV → Mm → (SV → Mm → Prop) → Prop
  | [.v (.pointer none)], M, K => K (.v (.pointer none)) M
  | [.ptr k off], M, K => match M[k]? with
    | some ⟨true, c⟩ => match hget c with
      | some (s, buf, n) => vsome (Nat.beq off 0) <| match bget buf with
        | some b => match b with
          | .no => snocK M ⟨true, .row (hrow s (.v (.slice none 0 0)) n)⟩ fun M1 => K (.ptr M.length 0) M1
          | .at' j len => match M[j]? with
            | some ⟨true, .a8 l⟩ => vsome (!Nat.beq k j && (Nat.ble len 64 && Nat.beq l.length 64)) (bif ile (len : Int) 0 then snocK M ⟨true, .row (hrow s (.v (.slice none 0 0)) n)⟩ fun M1 => K (.ptr M.length 0) M1
              else snocK M ⟨true, .row (hrow s (.sl (M.length + 1) 0 len 64) n)⟩ fun M1 => snocK M1 ⟨true, .a8 (fillB (l.take len))⟩ fun M2 => K (.ptr M.length 0) M2)
            | _ => False
        | none => False
      | none => False
    | _ => False
  | _, _, _ => False
theorem copyn (h : S8) (n : BitVec 64) : Spec Tryd.prog G 42 [.ptr 2 0] (Hn h n) (fun r M => r = .ptr 3 0 ∧ M = Hnn h n) :=
  Spec.sel (rs := [12]) (by show 2 ≤ 3; decide) rfl (vf_ok e15_ok mixed (noL_ok _ _ _ _) (of_eq (vc14n h n) ⟨rfl, ⟨rfl, rfl⟩, ⟨rfl, rfl⟩, ⟨rfl, rfl⟩, ⟨rfl, rfl⟩, trivial⟩))
theorem copybn (h : S8) (len : Nat) (n : BitVec 64) (l : List (BitVec 8)) (hl : l.length = 64) (hc : ile (len : Int) 0 = true) : Spec Tryd.prog G 42 [.ptr 2 0] (Hb h len n l) (fun r M => r = .ptr 4 0 ∧ M = Hbn h len n l) := by
  have h0 : len = 0 := by rw [ile_eq] at hc; have := of_decide_eq_true hc; omega
  subst h0
  refine Spec.sel (rs := [13]) (by show 2 ≤ 4; decide) rfl (vf_ok e15_ok mixed (noL_ok _ _ _ _) (of_eq (vc14bn h 0 n l) ?_))
  exact bif_of rfl (bif_of (by rw [hl]; rfl) ⟨rfl, ⟨rfl, rfl⟩, ⟨rfl, rfl⟩, ⟨rfl, rfl⟩, ⟨rfl, rfl⟩, ⟨rfl, rfl⟩, trivial⟩)
theorem copybb (h : S8) (len : Nat) (n : BitVec 64) (l : List (BitVec 8)) (hl : l.length = 64) (h64 : len ≤ 64) (hc : ile (len : Int) 0 = false) : Spec Tryd.prog G 42 [.ptr 2 0] (Hb h len n l) (fun r M => r = .ptr 4 0 ∧ M = Hbb h len n l (fillB (l.take len))) := by
  refine Spec.sel (rs := [13, 15]) (by show 2 ≤ 4; decide) rfl (vf_ok e15_ok mixed (noL_ok _ _ _ _) (of_eq (vc14bb h len n l _) ?_))
  rw [hc]
  refine bif_of (Nat.ble_eq_true_of_le h64) (bif_of ?_ ⟨rfl, ⟨rfl, rfl⟩, ⟨rfl, rfl⟩, ⟨rfl, rfl⟩, ⟨rfl, rfl⟩, ⟨rfl, rfl⟩, ⟨rfl, rfl⟩, trivial⟩)
  rw [hl, Nat.ble_eq_true_of_le h64]; rfl
theorem copy_ok : COk Tryd.prog G 42 cCopy := by
  intro args M K h
  unfold cCopy at h
  split at h
  · refine eff_of (R := []) (args0 := [.v (.pointer none)]) (K0 := fun r M => r = .v (.pointer none) ∧ M = G) [] (vf_ok (M := G) e15_ok mixed (noL_ok _ _ _ _) (of_eq (vc14z _) ⟨rfl, rfl⟩)) rfl rfl List.nodup_nil trivial ?_
    rintro r1 M1 ⟨rfl, rfl⟩
    rw [show back G [] M (sig G.length []) G = M from List.append_nil M]
    exact h
  · rename_i k off
    split at h
    · rename_i c hk
      split at h
      · rename_i s buf n hx
        obtain rfl := hget_ok hx
        replace h := vsome_iff.1 h
        obtain ⟨ho, h⟩ := h
        obtain rfl := Nat.eq_of_beq_eq_true ho
        split at h
        · rename_i b hb
          obtain rfl := bget_ok hb
          cases b with
          | no =>
            have hk' : M[k]? = some ⟨true, .row (hrow s (.v (.slice none 0 0)) n)⟩ := hk
            replace h : snocK M ⟨true, .row (hrow s (.v (.slice none 0 0)) n)⟩ (fun M1 => K (.ptr M.length 0) M1) := h
            rw [snocK_eq] at h
            refine eff_of (R := [⟨true, .row (hrow s (.v (.slice none 0 0)) n)⟩]) (args0 := [.ptr 2 0]) [k] (copyn s n) rfl rfl (by simp) ⟨⟨true, hk', fun h => h⟩, ⟨rfl, rfl⟩, trivial⟩ ?_
            rintro r1 M1 ⟨rfl, rfl⟩
            rw [show back G _ M _ _ = M.set k ⟨true, .row (hrow s (.v (.slice none 0 0)) n)⟩ ++ [⟨true, .row (hrow s (.v (.slice none 0 0)) n)⟩] from rfl, set_same hk']
            exact h
          | at' j len =>
            replace h : (match M[j]? with
              | some ⟨true, .a8 l⟩ => vsome (!Nat.beq k j && (Nat.ble len 64 && Nat.beq l.length 64)) (bif ile (len : Int) 0 then snocK M ⟨true, .row (hrow s (.v (.slice none 0 0)) n)⟩ fun M1 => K (.ptr M.length 0) M1
                else snocK M ⟨true, .row (hrow s (.sl (M.length + 1) 0 len 64) n)⟩ fun M1 => snocK M1 ⟨true, .a8 (fillB (l.take len))⟩ fun M2 => K (.ptr M.length 0) M2)
              | _ => False) := h
            split at h
            · rename_i l hj
              replace h := vsome_iff.1 h
              obtain ⟨hb, hh⟩ := h
              simp only [Bool.and_eq_true] at hb
              obtain ⟨hne, q1, q2⟩ := hb
              have hne := beq_ne hne
              have q1 := Nat.le_of_ble_eq_true q1
              have q2 := Nat.eq_of_beq_eq_true q2
              have hk' : M[k]? = some ⟨true, .row (hrow s (.sl j 0 len 64) n)⟩ := hk
              cases hc : ile (len : Int) 0
              · rw [hc] at hh
                replace hh : snocK M ⟨true, .row (hrow s (.sl (M.length + 1) 0 len 64) n)⟩ (fun M1 => snocK M1 ⟨true, .a8 (fillB (l.take len))⟩ fun M2 => K (.ptr M.length 0) M2) := hh
                rw [snocK_eq, snocK_eq, List.append_assoc] at hh
                refine eff_of (R := [⟨true, .row (hrow s (.sl 3 0 len 64) n)⟩, ⟨true, .a8 l⟩]) (args0 := [.ptr 2 0]) [k, j] (copybb s len n l q2 q1 hc) rfl rfl (by simp [hne]) ⟨⟨true, hk', fun h => h⟩, ⟨rfl, rfl⟩, ⟨true, hj, fun h => h⟩, ⟨rfl, rfl⟩, trivial⟩ ?_
                rintro r1 M1 ⟨rfl, rfl⟩
                rw [show back G _ M _ _ = (M.set k ⟨true, .row (hrow s (.sl j 0 len 64) n)⟩).set j ⟨true, .a8 l⟩ ++ [⟨true, .row (hrow s (.sl (M.length + 1) 0 len 64) n)⟩, ⟨true, .a8 (fillB (l.take len))⟩] from rfl, set_same hk', set_same hj]
                exact hh
              · rw [hc] at hh
                replace hh : snocK M ⟨true, .row (hrow s (.v (.slice none 0 0)) n)⟩ (fun M1 => K (.ptr M.length 0) M1) := hh
                rw [snocK_eq] at hh
                refine eff_of (R := [⟨true, .row (hrow s (.sl 3 0 len 64) n)⟩, ⟨true, .a8 l⟩]) (args0 := [.ptr 2 0]) [k, j] (copybn s len n l q2 hc) rfl rfl (by simp [hne]) ⟨⟨true, hk', fun h => h⟩, ⟨rfl, rfl⟩, ⟨true, hj, fun h => h⟩, ⟨rfl, rfl⟩, trivial⟩ ?_
                rintro r1 M1 ⟨rfl, rfl⟩
                rw [show back G _ M _ _ = (M.set k ⟨true, .row (hrow s (.sl j 0 len 64) n)⟩).set j ⟨true, .a8 l⟩ ++ [⟨true, .row (hrow s (.v (.slice none 0 0)) n)⟩] from rfl, set_same hk', set_same hj]
                exact hh
            · exact h.elim
        · exact h.elim
      · exact h.elim
    · exact h.elim
  · exact h.elim
def C16 : CT := C15.add 42 cCopy
def E16 : Env := ⟨G, T10, C16⟩
theorem e16_ok : EnvOk Tryd.prog E16 := ⟨e15_ok.T, CT.add_ok e15_ok.C copy_ok⟩
theorem vc16z (K : SV → Mm → Prop) : (vf Tryd.prog E16 noL 32 [.v (.pointer none)] G K) = (K (SV.s (bts { data := #[] })) G) := by kernel_rfl
theorem vc16n (h : S8) (n : BitVec 64) (d : List (BitVec 8)) : (vf Tryd.prog E16 noL 32 [.ptr 2 0] (Hn h n) (fun r M1 => vLeR (Hn h n) [r] M1 1 [(0, .s d)] (Hn h n) [] True)) = (bif ile (↑(ends n).length : Int) 0 then SV.s (wr h) = ren (sig (List.length (Hn h n)) []) (SV.s d) ∧ (false = false ∧ Cont.a32 H0 = Cont.ren (sig (List.length (Hn h n)) []) (Cont.a32 H0)) ∧ (false = false ∧ Cont.a32 K64 = Cont.ren (sig (List.length (Hn h n)) []) (Cont.a32 K64)) ∧ (true = true ∧ Cont.row (hrow h (SV.v (Value.slice none 0 0)) n) = Cont.ren (sig (List.length (Hn h n)) []) (Cont.row (hrow h (SV.v (Value.slice none 0 0)) n))) ∧ True else ∀ (l : List (BitVec 8)), okB l (ab h (ends n)).snd → SV.s (wr (ab h (ends n)).fst) = ren (sig (List.length (Hn h n)) []) (SV.s d) ∧ (false = false ∧ Cont.a32 H0 = Cont.ren (sig (List.length (Hn h n)) []) (Cont.a32 H0)) ∧ (false = false ∧ Cont.a32 K64 = Cont.ren (sig (List.length (Hn h n)) []) (Cont.a32 K64)) ∧ (true = true ∧ Cont.row (hrow h (SV.v (Value.slice none 0 0)) n) = Cont.ren (sig (List.length (Hn h n)) []) (Cont.row (hrow h (SV.v (Value.slice none 0 0)) n))) ∧ True) := by kernel_rfl
theorem vc16b (h : S8) (len : Nat) (n : BitVec 64) (l d : List (BitVec 8)) : (vf Tryd.prog E16 noL 32 [.ptr 2 0] (Hb h len n l) (fun r M1 => vLeR (Hb h len n l) [r] M1 1 [(0, .s d)] (Hb h len n l) [] True)) = (bif len.ble 64 && l.length.beq 64 then bif ile (↑len : Int) 0 then bif ile (↑(ends n).length : Int) 0 then SV.s (wr h) = ren (sig (List.length (Hb h len n l)) []) (SV.s d) ∧ (false = false ∧ Cont.a32 H0 = Cont.ren (sig (List.length (Hb h len n l)) []) (Cont.a32 H0)) ∧ (false = false ∧ Cont.a32 K64 = Cont.ren (sig (List.length (Hb h len n l)) []) (Cont.a32 K64)) ∧ (true = true ∧ Cont.row (hrow h (SV.sl 3 0 len 64) n) = Cont.ren (sig (List.length (Hb h len n l)) []) (Cont.row (hrow h (SV.sl 3 0 len 64) n))) ∧ (true = true ∧ Cont.a8 l = Cont.ren (sig (List.length (Hb h len n l)) []) (Cont.a8 l)) ∧ True else ∀ (l_1 : List (BitVec 8)), okB l_1 (ab h (ends n)).snd → SV.s (wr (ab h (ends n)).fst) = ren (sig (List.length (Hb h len n l)) []) (SV.s d) ∧ (false = false ∧ Cont.a32 H0 = Cont.ren (sig (List.length (Hb h len n l)) []) (Cont.a32 H0)) ∧ (false = false ∧ Cont.a32 K64 = Cont.ren (sig (List.length (Hb h len n l)) []) (Cont.a32 K64)) ∧ (true = true ∧ Cont.row (hrow h (SV.sl 3 0 len 64) n) = Cont.ren (sig (List.length (Hb h len n l)) []) (Cont.row (hrow h (SV.sl 3 0 len 64) n))) ∧ (true = true ∧ Cont.a8 l = Cont.ren (sig (List.length (Hb h len n l)) []) (Cont.a8 l)) ∧ True else bif len.blt 64 && (fillB (List.take len l)).length.beq 64 then ∀ (l' : List (BitVec 8)), okB l' (ab h (List.take len (fillB (List.take len l)) ++ ends n)).snd → SV.s (wr (ab h (List.take len (fillB (List.take len l)) ++ ends n)).fst) = ren (sig (List.length (Hb h len n l)) []) (SV.s d) ∧ (false = false ∧ Cont.a32 H0 = Cont.ren (sig (List.length (Hb h len n l)) []) (Cont.a32 H0)) ∧ (false = false ∧ Cont.a32 K64 = Cont.ren (sig (List.length (Hb h len n l)) []) (Cont.a32 K64)) ∧ (true = true ∧ Cont.row (hrow h (SV.sl 3 0 len 64) n) = Cont.ren (sig (List.length (Hb h len n l)) []) (Cont.row (hrow h (SV.sl 3 0 len 64) n))) ∧ (true = true ∧ Cont.a8 l = Cont.ren (sig (List.length (Hb h len n l)) []) (Cont.a8 l)) ∧ True else False else False) := by kernel_rfl
def dig (h : S8) (r : List (BitVec 8)) (n : BitVec 64) : List (BitVec 8) := wr (ab h (r ++ ends n)).1
theorem ends_len (c : BitVec 64) : (ends c).length = zs c + 8 := by
  have := zs_val c
  unfold ends
  simp only [List.length_append, List.length_take, by32_len, List.length_set, List.length_replicate]
  omega
theorem ends_pos (n : BitVec 64) : ile ((ends n).length : Int) 0 = false := by rw [ile_eq, ends_len]; exact decide_eq_false (by omega)
theorem sumn (h : S8) (n : BitVec 64) : Spec Tryd.prog G 32 [.ptr 2 0] (Hn h n) (fun r M => r = .s (dig h [] n) ∧ M = Hn h n) := by
  refine Spec.sel (rs := []) (by show 2 ≤ 3; decide) rfl (vf_ok e16_ok mixed (noL_ok _ _ _ _) (of_eq (vc16n h n _) ?_))
  rw [ends_pos]
  exact fun l hl => ⟨rfl, ⟨rfl, rfl⟩, ⟨rfl, rfl⟩, ⟨rfl, rfl⟩, trivial⟩
theorem sumb (h : S8) (len : Nat) (n : BitVec 64) (l : List (BitVec 8)) (h1 : len < 64) (hl : l.length = 64) : Spec Tryd.prog G 32 [.ptr 2 0] (Hb h len n l) (fun r M => r = .s (dig h (l.take len) n) ∧ M = Hb h len n l) := by
  refine Spec.sel (rs := []) (by show 2 ≤ 4; decide) rfl (vf_ok e16_ok mixed (noL_ok _ _ _ _) (of_eq (vc16b h len n l _) ?_))
  rw [ends_pos]
  have ht : (l.take len).length = len := by rw [List.length_take]; omega
  refine bif_of (by rw [hl, Nat.ble_eq_true_of_le (by omega : len ≤ 64)]; rfl) ?_
  cases hc : ile (len : Int) 0
  · have hf := fillB_take (l.take len)
    rw [ht] at hf
    rw [hf, fillB_len _ (by omega), blt_of h1]
    exact fun l' hl' => ⟨rfl, ⟨rfl, rfl⟩, ⟨rfl, rfl⟩, ⟨rfl, rfl⟩, ⟨rfl, rfl⟩, trivial⟩
  · have h0 : len = 0 := by rw [ile_eq] at hc; have := of_decide_eq_true hc; omega
    subst h0
    exact fun l' hl' => ⟨rfl, ⟨rfl, rfl⟩, ⟨rfl, rfl⟩, ⟨rfl, rfl⟩, ⟨rfl, rfl⟩, trivial⟩
def cSum : List SV → Mm → (SV → Mm → Prop) → Prop
  | [.v (.pointer none)], M, K => K (.s []) M
  | [.ptr k off], M, K => match M[k]? with
    | some ⟨true, c⟩ => match hget c with
      | some (s, buf, n) => vsome (Nat.beq off 0) <| match bget buf with
        | some b => match b with
          | .no => K (.s (dig s [] n)) M
          | .at' j len => match M[j]? with
            | some ⟨true, .a8 l⟩ => vsome (!Nat.beq k j && (Nat.blt len 64 && Nat.beq l.length 64)) (K (.s (dig s (l.take len) n)) M)
            | _ => False
        | none => False
      | none => False
    | _ => False
  | _, _, _ => False
theorem sum_ok : COk Tryd.prog G 32 cSum := by
  intro args M K h
  unfold cSum at h
  split at h
  · refine eff_of (R := []) (args0 := [.v (.pointer none)]) (K0 := fun r M => r = .s [] ∧ M = G) [] (vf_ok (M := G) e16_ok mixed (noL_ok _ _ _ _) (of_eq (vc16z _) ⟨rfl, rfl⟩)) rfl rfl List.nodup_nil trivial ?_
    rintro r1 M1 ⟨rfl, rfl⟩
    rw [show back G [] M (sig G.length []) G = M from List.append_nil M]
    exact h
  · rename_i k off
    split at h
    · rename_i c hk
      split at h
      · rename_i s buf n hx
        obtain rfl := hget_ok hx
        replace h := vsome_iff.1 h
        obtain ⟨ho, h⟩ := h
        obtain rfl := Nat.eq_of_beq_eq_true ho
        split at h
        · rename_i b hb
          obtain rfl := bget_ok hb
          cases b with
          | no =>
            have hk' : M[k]? = some ⟨true, .row (hrow s (.v (.slice none 0 0)) n)⟩ := hk
            replace h : K (.s (dig s [] n)) M := h
            refine eff_of (R := [⟨true, .row (hrow s (.v (.slice none 0 0)) n)⟩]) (args0 := [.ptr 2 0]) [k] (sumn s n) rfl rfl (by simp) ⟨⟨true, hk', fun h => h⟩, ⟨rfl, rfl⟩, trivial⟩ ?_
            rintro r1 M1 ⟨rfl, rfl⟩
            rw [show back G _ M _ _ = M.set k ⟨true, .row (hrow s (.v (.slice none 0 0)) n)⟩ ++ [] from rfl, List.append_nil, set_same hk']
            exact h
          | at' j len =>
            replace h : (match M[j]? with
              | some ⟨true, .a8 l⟩ => vsome (!Nat.beq k j && (Nat.blt len 64 && Nat.beq l.length 64)) (K (.s (dig s (l.take len) n)) M)
              | _ => False) := h
            split at h
            · rename_i l hj
              replace h := vsome_iff.1 h
              obtain ⟨hb, hh⟩ := h
              simp only [Bool.and_eq_true] at hb
              obtain ⟨hne, q1, q2⟩ := hb
              have hne := beq_ne hne
              have hk' : M[k]? = some ⟨true, .row (hrow s (.sl j 0 len 64) n)⟩ := hk
              refine eff_of (R := [⟨true, .row (hrow s (.sl 3 0 len 64) n)⟩, ⟨true, .a8 l⟩]) (args0 := [.ptr 2 0]) [k, j] (sumb s len n l (blt_lt q1) (Nat.eq_of_beq_eq_true q2)) rfl rfl (by simp [hne]) ⟨⟨true, hk', fun h => h⟩, ⟨rfl, rfl⟩, ⟨true, hj, fun h => h⟩, ⟨rfl, rfl⟩, trivial⟩ ?_
              rintro r1 M1 ⟨rfl, rfl⟩
              rw [show back G _ M _ _ = (M.set k ⟨true, .row (hrow s (.sl j 0 len 64) n)⟩).set j ⟨true, .a8 l⟩ ++ [] from rfl, List.append_nil, set_same hk', set_same hj]
              exact hh
            · exact h.elim
        · exact h.elim
      · exact h.elim
    · exact h.elim
  · exact h.elim
def C17 : CT := C16.add 32 cSum
def E17 : Env := ⟨G, T10, C17⟩
theorem e17_ok : EnvOk Tryd.prog E17 := ⟨e16_ok.T, CT.add_ok e16_ok.C sum_ok⟩
end Go.Proofs.YtmalnjdacmlcdaaDoor
