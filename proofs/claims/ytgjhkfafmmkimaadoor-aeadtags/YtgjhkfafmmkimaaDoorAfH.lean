/-
  aead: a text, piece by piece. No statement is proved here.
-/
import Derived.Test.YtgjhkfafmmkimaaDoorVdH
import Derived.Test.YtgjhkfafmmkimaaDoorAfG
import Derived.Test.YtgjhkfafmmkimaaDoorAfE
namespace Go.Proofs.YtgjhkfafmmkimaaDoor
open Go.RowKit
set_option linter.unusedVariables false
set_option linter.unusedSimpArgs false
set_option maxRecDepth 100000

theorem va39 (l : Tx) (off len cap : Nat) (n : Int) (K : SV → Mm → Prop) : (vf Tryd.prog E0 noL 39 [.sl 1 off len cap, .i n] (Br l) K) = (bif ilt n 1 then False else K (SV.fn 50 [SV.ptr (List.length (Br l)) 0, SV.ptr (0 + 1 + 1 + 1) 0]) [{ rw := false, c := Cont.ints MX }, { rw := false, c := Cont.a8 l }, { rw := true, c := Cont.row [SV.sl 1 off len cap] }, { rw := true, c := Cont.row [SV.i n] }]) := by kernel_rfl
-- a function's code, piece by piece
def bdOf (P : Program) (f : Nat) : Code := match P.funcs[f]? with
  | some fn => match fn.body with
    | some c => c
    | none => .skip
  | none => .skip
def sL : Code → Code
  | .seq a _ => a
  | c => c
def sR : Code → Code
  | .seq _ b => b
  | c => c
def bI : Code → Code
  | .block _ c => c
  | c => c
def lI : Code → Code
  | .loop c => c
  | c => c
def rO : Code → List Oper
  | .region _ ops _ => ops.toList
  | _ => []
def fA : Code → Code
  | .rangeFunc _ _ a _ => a
  | c => c
def fB : Code → Code
  | .rangeFunc _ _ _ b => b
  | c => c
def lpK (c : Code) : Code := lI (bI (sR c))
def ccK (c : Code) : Code := sL (sL (lpK c))
def xxK (c : Code) : Code := sL (bI (sL (sR (lpK c))))
def zzK (c : Code) : Code := sR (sR (lpK c))
def ooK (c : Code) : List Oper := rO (sL (sR (bI (sL (sR (lpK c))))))
def yyK (c : Code) : Oper := match (ooK c).drop 10 with
  | o :: _ => o
  | [] => default
/-- What the iterator sees: its two variables. -/
def Mv (len cap c : Nat) : Mm := [⟨false, .ints MX⟩, ⟨false, .gone⟩, ⟨false, .gone⟩, ⟨false, .gone⟩, ⟨false, .gone⟩, ⟨false, .gone⟩, ⟨false, .row [.sl 5 0 len cap]⟩, ⟨false, .row [.i (c : Nat)]⟩]
def itK (l i : Nat) : List (Nat × SV) := [(0, .v (.func (.yield l) #[] #[])), (1, .ptr 6 0), (2, .ptr 7 0), (4, .i (i : Nat))]
def iuK (l i : Nat) (b : Bool) : List (Nat × SV) := [(0, .v (.func (.yield l) #[] #[])), (1, .ptr 6 0), (2, .ptr 7 0), (4, .i (i : Nat)), (29, .b b)]
theorem viK (len cap c i j l : Nat) (xk : SV) : (vIterA Tryd.prog E0 ((ooK (bdOf Tryd.prog 50)).take 10 ++ yyK (bdOf Tryd.prog 50) :: (ooK (bdOf Tryd.prog 50)).drop 11) ((ooK (bdOf Tryd.prog 50)).take 10) ((ooK (bdOf Tryd.prog 50)).drop 11) (yyK (bdOf Tryd.prog 50)).dst (.tmp 19) (.tmp 28) (.tmp 30) (.tmp 9) (ccK (bdOf Tryd.prog 50)) (xxK (bdOf Tryd.prog 50)) (zzK (bdOf Tryd.prog 50)) (Mv len cap c) 31 l xk (itK l i) (iuK l i) (itK l j)) = (ilt (↑i : Int) (↑len : Int) = true ∧ bif ile (↑i : Int) (↑len : Int) && ile (↑len : Int) (↑cap : Int) && ilt (↑i : Int) (↑cap : Int) then bif inI ((↑i : Int) + bif ilt (↑(len - i) : Int) (↑c : Int) then (↑(len - i) : Int) else (↑c : Int)) then bif inI ((↑i : Int) + bif ilt (↑(len - i) : Int) (↑c : Int) then (↑(len - i) : Int) else (↑c : Int)) then bif ile (↑i : Int) ((↑i : Int) + bif ilt (↑(len - i) : Int) (↑c : Int) then (↑(len - i) : Int) else (↑c : Int)) && ile ((↑i : Int) + bif ilt (↑(len - i) : Int) (↑c : Int) then (↑(len - i) : Int) else (↑c : Int)) ((↑i : Int) + bif ilt (↑(len - i) : Int) (↑c : Int) then (↑(len - i) : Int) else (↑c : Int)) && ile ((↑i : Int) + bif ilt (↑(len - i) : Int) (↑c : Int) then (↑(len - i) : Int) else (↑c : Int)) (↑cap : Int) && ilt (↑i : Int) ((↑i : Int) + bif ilt (↑(len - i) : Int) (↑c : Int) then (↑(len - i) : Int) else (↑c : Int)) then (ev [SV.v (Value.func (Fn.yield l) #[] #[]), SV.ptr 6 0, SV.ptr 7 0, SV.any, SV.i (↑i : Int), SV.i (bif ilt (↑(len - i) : Int) (↑c : Int) then (↑(len - i) : Int) else (↑c : Int)), SV.i (↑i : Int), SV.sl 5 0 len cap, SV.i (↑len : Int), SV.b (ilt (↑i : Int) (↑len : Int)), SV.any, SV.any, SV.any, SV.i (↑c : Int), SV.sl 5 0 len cap, SV.i (↑i : Int), SV.sl 5 i (len - i) (cap - i), SV.i (↑(len - i) : Int), SV.i (bif ilt (↑(len - i) : Int) (↑c : Int) then (↑(len - i) : Int) else (↑c : Int)), SV.v (Value.func (Fn.yield l) #[] #[]), SV.sl 5 0 len cap, SV.i (↑i : Int), SV.i (↑i : Int), SV.i (bif ilt (↑(len - i) : Int) (↑c : Int) then (↑(len - i) : Int) else (↑c : Int)), SV.i ((↑i : Int) + bif ilt (↑(len - i) : Int) (↑c : Int) then (↑(len - i) : Int) else (↑c : Int)), SV.i (↑i : Int), SV.i (bif ilt (↑(len - i) : Int) (↑c : Int) then (↑(len - i) : Int) else (↑c : Int)), SV.i ((↑i : Int) + bif ilt (↑(len - i) : Int) (↑c : Int) then (↑(len - i) : Int) else (↑c : Int)), SV.sl 5 i (((↑i : Int) + bif ilt (↑(len - i) : Int) (↑c : Int) then (↑(len - i) : Int) else (↑c : Int)).toNat - i) (((↑i : Int) + bif ilt (↑(len - i) : Int) (↑c : Int) then (↑(len - i) : Int) else (↑c : Int)).toNat - i), SV.any, SV.any] (Operand.tmp 19) = SV.v (Value.func (Fn.yield l) #[] #[]) ∧ ev [SV.v (Value.func (Fn.yield l) #[] #[]), SV.ptr 6 0, SV.ptr 7 0, SV.any, SV.i (↑i : Int), SV.i (bif ilt (↑(len - i) : Int) (↑c : Int) then (↑(len - i) : Int) else (↑c : Int)), SV.i (↑i : Int), SV.sl 5 0 len cap, SV.i (↑len : Int), SV.b (ilt (↑i : Int) (↑len : Int)), SV.any, SV.any, SV.any, SV.i (↑c : Int), SV.sl 5 0 len cap, SV.i (↑i : Int), SV.sl 5 i (len - i) (cap - i), SV.i (↑(len - i) : Int), SV.i (bif ilt (↑(len - i) : Int) (↑c : Int) then (↑(len - i) : Int) else (↑c : Int)), SV.v (Value.func (Fn.yield l) #[] #[]), SV.sl 5 0 len cap, SV.i (↑i : Int), SV.i (↑i : Int), SV.i (bif ilt (↑(len - i) : Int) (↑c : Int) then (↑(len - i) : Int) else (↑c : Int)), SV.i ((↑i : Int) + bif ilt (↑(len - i) : Int) (↑c : Int) then (↑(len - i) : Int) else (↑c : Int)), SV.i (↑i : Int), SV.i (bif ilt (↑(len - i) : Int) (↑c : Int) then (↑(len - i) : Int) else (↑c : Int)), SV.i ((↑i : Int) + bif ilt (↑(len - i) : Int) (↑c : Int) then (↑(len - i) : Int) else (↑c : Int)), SV.sl 5 i (((↑i : Int) + bif ilt (↑(len - i) : Int) (↑c : Int) then (↑(len - i) : Int) else (↑c : Int)).toNat - i) (((↑i : Int) + bif ilt (↑(len - i) : Int) (↑c : Int) then (↑(len - i) : Int) else (↑c : Int)).toNat - i), SV.any, SV.any] (Operand.tmp 28) = xk) ∧ (SV.v (Value.func (Fn.yield l) #[] #[]) = SV.v (Value.func (Fn.yield l) #[] #[]) ∧ SV.ptr 6 0 = SV.ptr 6 0 ∧ SV.ptr 7 0 = SV.ptr 7 0 ∧ SV.i (↑i : Int) = SV.i (↑i : Int) ∧ SV.b true = SV.b true ∧ (false = false ∧ Cont.ints MX = Cont.ints MX) ∧ (false = false ∧ Cont.gone = Cont.gone) ∧ (false = false ∧ Cont.gone = Cont.gone) ∧ (false = false ∧ Cont.gone = Cont.gone) ∧ (false = false ∧ Cont.gone = Cont.gone) ∧ (false = false ∧ Cont.gone = Cont.gone) ∧ (false = false ∧ Cont.row [SV.sl 5 0 len cap] = Cont.row [SV.sl 5 0 len cap]) ∧ (false = false ∧ Cont.row [SV.i (↑c : Int)] = Cont.row [SV.i (↑c : Int)]) ∧ bif inI ((↑i : Int) + (↑c : Int)) then SV.v (Value.func (Fn.yield l) #[] #[]) = SV.v (Value.func (Fn.yield l) #[] #[]) ∧ SV.ptr 6 0 = SV.ptr 6 0 ∧ SV.ptr 7 0 = SV.ptr 7 0 ∧ SV.i ((↑i : Int) + (↑c : Int)) = SV.i (↑j : Int) ∧ (false = false ∧ Cont.ints MX = Cont.ints MX) ∧ (false = false ∧ Cont.gone = Cont.gone) ∧ (false = false ∧ Cont.gone = Cont.gone) ∧ (false = false ∧ Cont.gone = Cont.gone) ∧ (false = false ∧ Cont.gone = Cont.gone) ∧ (false = false ∧ Cont.gone = Cont.gone) ∧ (false = false ∧ Cont.row [SV.sl 5 0 len cap] = Cont.row [SV.sl 5 0 len cap]) ∧ (false = false ∧ Cont.row [SV.i (↑c : Int)] = Cont.row [SV.i (↑c : Int)]) ∧ True else False) ∧ SV.v (Value.func (Fn.yield l) #[] #[]) = SV.v (Value.func (Fn.yield l) #[] #[]) ∧ SV.ptr 6 0 = SV.ptr 6 0 ∧ SV.ptr 7 0 = SV.ptr 7 0 ∧ SV.i (↑i : Int) = SV.i (↑i : Int) ∧ SV.b false = SV.b false ∧ (false = false ∧ Cont.ints MX = Cont.ints MX) ∧ (false = false ∧ Cont.gone = Cont.gone) ∧ (false = false ∧ Cont.gone = Cont.gone) ∧ (false = false ∧ Cont.gone = Cont.gone) ∧ (false = false ∧ Cont.gone = Cont.gone) ∧ (false = false ∧ Cont.gone = Cont.gone) ∧ (false = false ∧ Cont.row [SV.sl 5 0 len cap] = Cont.row [SV.sl 5 0 len cap]) ∧ (false = false ∧ Cont.row [SV.i (↑c : Int)] = Cont.row [SV.i (↑c : Int)]) ∧ True else False else False else False else False) := by kernel_rfl
theorem veK (len cap c i l : Nat) : (vIterE Tryd.prog E0 (.tmp 9) (ccK (bdOf Tryd.prog 50)) (Mv len cap c) 31 (itK l i)) = (ilt (↑i : Int) (↑len : Int) = false) := by kernel_rfl
theorem vpK (len cap c l : Nat) : (padK (.v (.func (.yield l) #[] #[]) :: [.ptr 6 0, .ptr 7 0]) 31 fun fr => vcode Tryd.prog E0 noW (vdraw Tryd.prog E0) (sL (bdOf Tryd.prog 50)) fr (Mv len cap c) fun e fr1 M1 => match e with | .normal => vLe (Mv len cap c) fr1 M1 31 (itK l 0) (Mv len cap c) True | _ => False) = (SV.v (Value.func (Fn.yield l) #[] #[]) = SV.v (Value.func (Fn.yield l) #[] #[]) ∧ SV.ptr 6 0 = SV.ptr 6 0 ∧ SV.ptr 7 0 = SV.ptr 7 0 ∧ SV.i 0 = SV.i (↑0 : Int) ∧ (false = false ∧ Cont.ints MX = Cont.ints MX) ∧ (false = false ∧ Cont.gone = Cont.gone) ∧ (false = false ∧ Cont.gone = Cont.gone) ∧ (false = false ∧ Cont.gone = Cont.gone) ∧ (false = false ∧ Cont.gone = Cont.gone) ∧ (false = false ∧ Cont.gone = Cont.gone) ∧ (false = false ∧ Cont.row [SV.sl 5 0 len cap] = Cont.row [SV.sl 5 0 len cap]) ∧ (false = false ∧ Cont.row [SV.i (↑c : Int)] = Cont.row [SV.i (↑c : Int)]) ∧ True) := by kernel_rfl
theorem mv_ro (len cap c : Nat) : ∀ (k : Nat) (e : Ent), (Mv len cap c)[k]? = some e → e.rw = false := fun k e he => by
  match k, he with
  | 0, he => obtain rfl := Option.some.inj he; rfl
  | 1, he => obtain rfl := Option.some.inj he; rfl
  | 2, he => obtain rfl := Option.some.inj he; rfl
  | 3, he => obtain rfl := Option.some.inj he; rfl
  | 4, he => obtain rfl := Option.some.inj he; rfl
  | 5, he => obtain rfl := Option.some.inj he; rfl
  | 6, he => obtain rfl := Option.some.inj he; rfl
  | 7, he => obtain rfl := Option.some.inj he; rfl
  | k + 8, he => cases he
/-- The piece with that number. -/
def pcK (len c k : Nat) : SV := .sl 5 (c * k) (min c (len - c * k)) (min c (len - c * k))
def nK (len c : Nat) : Nat := (len + c - 1) / c
theorem nK_lt {len c k : Nat} (hc : 1 ≤ c) (h : k < nK len c) : c * k < len := by
  have h1 : k + 1 ≤ (len + c - 1) / c := h
  have h2 := (Nat.le_div_iff_mul_le (by omega)).1 h1
  have e : (k + 1) * c = c * k + c := by rw [Nat.mul_comm, Nat.mul_add]; omega
  omega
theorem nK_ge {len c : Nat} (hc : 1 ≤ c) : len ≤ c * nK len c := by
  have h := Nat.lt_mul_div_succ (len + c - 1) (show 0 < c by omega)
  have e : c * ((len + c - 1) / c + 1) = c * ((len + c - 1) / c) + c := by rw [Nat.mul_add]; omega
  unfold nK
  omega
theorem chunk_seq (len cap c : Nat) (hc : 1 ≤ c) (hc2 : c ≤ 1000) (hl : len ≤ cap) (hb : len ≤ 1099511627776) (β0 : Nat → Nat) : SeqAll Tryd.prog 50 (vals β0 [.ptr 6 0, .ptr 7 0]).toArray (fun k => val β0 (pcK len c k)) (nK len c) (fun W => Rel G β0 (Mv len cap c) W) := by
  refine iterA_fun (E := E0) e0_ok mixed (n := 31) (b0 := 0) (b1 := 1) (rid := 4) (N := nK len c) (gf := 50) (fn := Tryd.f50) (Mb := Mv len cap c) (βb := β0) (xs := pcK len c) (R0 := sL (bdOf Tryd.prog 50)) (C := ccK (bdOf Tryd.prog 50)) (X := xxK (bdOf Tryd.prog 50)) (Z := zzK (bdOf Tryd.prog 50)) (ops1 := (ooK (bdOf Tryd.prog 50)).take 10) (ops2 := (ooK (bdOf Tryd.prog 50)).drop 11) (yo := yyK (bdOf Tryd.prog 50)) (f := .tmp 19) (x := .tmp 28) (c := .tmp 30) (c0 := .tmp 9) (ts := #[35]) (caps := [.ptr 6 0, .ptr 7 0])
    (fun l k => itK l (c * k)) (fun l k b => iuK l (c * k) b) Tryd.func50 (by kernel_rfl) (by kernel_rfl) (by kernel_rfl) (by kernel_rfl) (by kernel_rfl) (fun _ => rfl) (mv_ro len cap c) rfl (fun l => of_eq (vpK len cap c l) ⟨rfl, rfl, rfl, rfl, ⟨rfl, rfl⟩, ⟨rfl, rfl⟩, ⟨rfl, rfl⟩, ⟨rfl, rfl⟩, ⟨rfl, rfl⟩, ⟨rfl, rfl⟩, ⟨rfl, rfl⟩, ⟨rfl, rfl⟩, trivial⟩) (fun l k hkN => ?_) (fun l => of_eq (veK len cap c _ l) ?_)
  · have hi := nK_lt hc hkN
    have e1 : c * (k + 1) = c * k + c := by rw [Nat.mul_add]; omega
    have hm : (bif ilt ((len - c * k : Nat) : Int) (c : Int) then ((len - c * k : Nat) : Int) else (c : Int)) = ((min c (len - c * k) : Nat) : Int) := by
      rw [ilt_eq]
      by_cases h : ((len - c * k : Nat) : Int) < (c : Int)
      · rw [decide_eq_true h]; show ((len - c * k : Nat) : Int) = _; omega
      · rw [decide_eq_false h]; show (c : Int) = _; omega
    refine of_eq (viK len cap c (c * k) (c * (k + 1)) l (pcK len c k)) ?_
    rw [hm, e1]
    unfold pcK
    generalize c * k = i at *
    have hm1 : 1 ≤ min c (len - i) := by omega
    have hm2 : i + min c (len - i) ≤ len := by omega
    have hm3 : min c (len - i) ≤ 1000 := by omega
    generalize min c (len - i) = m at *
    have e2 : ((i : Int) + (m : Int)).toNat - i = m := by omega
    have j1 : inI ((i : Int) + (m : Int)) = true := inI_iff.2 (by omega)
    have j2 : inI ((i : Int) + (c : Int)) = true := inI_iff.2 (by omega)
    rw [e2]
    refine ⟨by rw [ilt_eq]; exact decide_eq_true (by omega), bif_of ?_ (bif_of j1 (bif_of j1 (bif_of ?_ ⟨⟨rfl, rfl⟩, ⟨rfl, rfl, rfl, rfl, rfl, ⟨rfl, rfl⟩, ⟨rfl, rfl⟩, ⟨rfl, rfl⟩, ⟨rfl, rfl⟩, ⟨rfl, rfl⟩, ⟨rfl, rfl⟩, ⟨rfl, rfl⟩, ⟨rfl, rfl⟩, bif_of j2 ⟨rfl, rfl, rfl, congrArg SV.i (by omega), ⟨rfl, rfl⟩, ⟨rfl, rfl⟩, ⟨rfl, rfl⟩, ⟨rfl, rfl⟩, ⟨rfl, rfl⟩, ⟨rfl, rfl⟩, ⟨rfl, rfl⟩, ⟨rfl, rfl⟩, trivial⟩⟩, ⟨rfl, rfl, rfl, rfl, rfl, ⟨rfl, rfl⟩, ⟨rfl, rfl⟩, ⟨rfl, rfl⟩, ⟨rfl, rfl⟩, ⟨rfl, rfl⟩, ⟨rfl, rfl⟩, ⟨rfl, rfl⟩, ⟨rfl, rfl⟩, trivial⟩⟩)))⟩
    · simp only [Bool.and_eq_true, ile_eq, ilt_eq, decide_eq_true_eq]; omega
    · simp only [Bool.and_eq_true, ile_eq, ilt_eq, decide_eq_true_eq]; omega
  · have := nK_ge (len := len) hc
    rw [ilt_eq]
    exact decide_eq_false (by omega)
/-- What is told of cutting a text. -/
def cChunk : List SV → Mm → (SV → Mm → Prop) → Prop
  | [.sl k off len cap, .i n], M, K => match M[k]? with
    | some ⟨_, .a8 l⟩ => vsome (ile 1 n) <| snocK M ⟨true, .row [.sl k off len cap]⟩ fun M1 => snocK M1 ⟨true, .row [.i n]⟩ fun M2 => K (.fn 50 [.ptr M.length 0, .ptr (M.length + 1) 0]) M2
    | _ => False
  | _, _, _ => False
theorem chunk_ok : COk Tryd.prog G 39 cChunk := by
  intro args M K h
  unfold cChunk at h
  split at h
  · rename_i k off len cap n
    split at h
    · rename_i b l hk
      obtain ⟨hb, hh⟩ := vsome_iff.1 h
      refine eff_of (R := [⟨false, .a8 l⟩]) (args0 := [.sl 1 off len cap, .i n]) (K0 := fun r M => r = .fn 50 [.ptr 2 0, .ptr 3 0] ∧ M = [⟨false, .ints MX⟩, ⟨false, .a8 l⟩, ⟨true, .row [.sl 1 off len cap]⟩, ⟨true, .row [.i n]⟩]) [k] (vf_ok (M := Br l) e0_ok mixed (noL_ok _ _ _ _) (of_eq (va39 l off len cap n _) ?_)) rfl rfl (by simp) ⟨⟨b, hk, (fun h => nomatch h)⟩, ⟨rfl, rfl⟩, trivial⟩ ?_
      · have : ilt n 1 = false := by
          rw [ile_eq] at hb
          have := of_decide_eq_true hb
          rw [ilt_eq]; exact decide_eq_false (by omega)
        rw [this]
        exact ⟨rfl, rfl⟩
      · rintro r1 M1 ⟨rfl, rfl⟩
        rw [snocK_eq, snocK_eq, List.append_assoc] at hh
        exact hh
    · exact h.elim
  · exact h.elim
end Go.Proofs.YtgjhkfafmmkimaaDoor
namespace Go.Proofs.YtgjhkfafmmkimaaDoor
set_option linter.unusedVariables false
set_option linter.unusedSimpArgs false
set_option maxRecDepth 100000

def V5 : Ds → Nat
  | [] => 0
  | x :: l => x.toNat + 67108864 * V5 l
theorem and26 (x : BitVec 64) : (x &&& BitVec.ofInt 64 67108863).toNat = x.toNat % 67108864 := by
  rw [BitVec.toNat_and]
  exact Nat.and_two_pow_sub_one_eq_mod x.toNat 26
theorem shr26 (x : BitVec 64) : (x >>> 26).toNat = x.toNat / 67108864 := by
  rw [BitVec.toNat_ushiftRight, Nat.shiftRight_eq_div_pow]
def car (c : BitVec 64) : Ds → Ds × BitVec 64
  | [] => ([], c)
  | x :: l => (((x + c) &&& BitVec.ofInt 64 67108863) :: (car ((x + c) >>> 26) l).1, (car ((x + c) >>> 26) l).2)
theorem cs_car (a b c d e : BitVec 64) : cs [a, b, c, d, e] 5 = car (BitVec.ofInt 64 0) [a, b, c, d, e] := by kernel_rfl
def Lt (B : Nat) (l : Ds) : Prop := ∀ x ∈ l, x.toNat < B
theorem car_ok : ∀ (l : Ds) (c : BitVec 64), Lt (2 ^ 62) l → c.toNat < 2 ^ 62 → V5 (car c l).1 + 67108864 ^ l.length * (car c l).2.toNat = V5 l + c.toNat ∧ Lt 67108864 (car c l).1 ∧ (car c l).1.length = l.length
  | [], c, _, hc => ⟨by simp [car, V5], (fun x h => by cases h), rfl⟩
  | x :: l, c, hl, hc => by
    have hx : x.toNat < 2 ^ 62 := hl x (by simp)
    have hs : (x + c).toNat = x.toNat + c.toNat := add_nat (by omega)
    have hd : ((x + c) >>> 26).toNat = (x.toNat + c.toNat) / 67108864 := by rw [shr26, hs]
    obtain ⟨h1, h2, h3⟩ := car_ok l ((x + c) >>> 26) (fun y hy => hl y (by simp [hy])) (by rw [hd]; omega)
    refine ⟨?_, ?_, ?_⟩
    · show ((x + c) &&& BitVec.ofInt 64 67108863).toNat + 67108864 * V5 (car ((x + c) >>> 26) l).1 + 67108864 ^ (l.length + 1) * (car ((x + c) >>> 26) l).2.toNat = x.toNat + 67108864 * V5 l + c.toNat
      rw [and26, hs, Nat.pow_succ', Nat.mul_assoc]
      rw [hd] at h1
      omega
    · intro y hy
      show y.toNat < 67108864
      rcases List.mem_cons.1 (show y ∈ ((x + c) &&& BitVec.ofInt 64 67108863) :: (car ((x + c) >>> 26) l).1 from hy) with rfl | h
      · rw [and26]; omega
      · exact h2 y h
    · show (car ((x + c) >>> 26) l).1.length + 1 = l.length + 1
      rw [h3]
theorem len5 {l : Ds} (h : l.length = 5) : ∃ a b c d e, l = [a, b, c, d, e] := by
  match l, h with
  | [a, b, c, d, e], _ => exact ⟨a, b, c, d, e, rfl⟩
theorem V5_5 (a b c d e : BitVec 64) : V5 [a, b, c, d, e] = a.toNat + 67108864 * (b.toNat + 67108864 * (c.toNat + 67108864 * (d.toNat + 67108864 * e.toNat))) := by simp [V5]
theorem Lt5 {B : Nat} {a b c d e : BitVec 64} (h : Lt B [a, b, c, d, e]) : a.toNat < B ∧ b.toNat < B ∧ c.toNat < B ∧ d.toNat < B ∧ e.toNat < B := ⟨h a (by simp), h b (by simp), h c (by simp), h d (by simp), h e (by simp)⟩
theorem Lt5_of {B : Nat} {a b c d e : BitVec 64} (h : a.toNat < B ∧ b.toNat < B ∧ c.toNat < B ∧ d.toNat < B ∧ e.toNat < B) : Lt B [a, b, c, d, e] := by
  intro x hx
  simp at hx
  obtain ⟨h1, h2, h3, h4, h5⟩ := h
  rcases hx with rfl | rfl | rfl | rfl | rfl <;> assumption
theorem Lt.mono {B C : Nat} {l : Ds} (h : Lt B l) (hBC : B ≤ C) : Lt C l := fun x hx => Nat.lt_of_lt_of_le (h x hx) hBC
def P130 : Nat := 1361129467683753853853498429727072845824
theorem PP_eq : PP = 1361129467683753853853498429727072845819 := by decide
/-- What is carried. -/
theorem cr_ok {l : Ds} (hl : l.length = 5) (hb : Lt (2 ^ 62) l) : V5 (crX l) + P130 * (crY l).toNat = V5 l ∧ Lt 67108864 (crX l) ∧ (crX l).length = 5 := by
  obtain ⟨a, b, c, d, e, rfl⟩ := len5 hl
  have h := car_ok [a, b, c, d, e] (BitVec.ofInt 64 0) hb (by decide)
  rw [← cs_car] at h
  obtain ⟨h1, h2, h3⟩ := h
  refine ⟨?_, h2, h3⟩
  have e1 : (67108864 : Nat) ^ ([a, b, c, d, e] : Ds).length = P130 := by
    show (67108864 : Nat) ^ 5 = P130
    decide
  rw [e1] at h1
  have e2 : (BitVec.ofInt 64 0).toNat = 0 := rfl
  rw [e2, Nat.add_zero] at h1
  exact h1
theorem V5_lt {l : Ds} (hl : l.length = 5) (h : Lt 67108864 l) : V5 l < P130 := by
  obtain ⟨a, b, c, d, e, rfl⟩ := len5 hl
  obtain ⟨h1, h2, h3, h4, h5⟩ := Lt5 h
  rw [V5_5, P130]
  omega
theorem pls_5 (a b c d e a' b' c' d' e' : BitVec 64) : pls [a, b, c, d, e] [a', b', c', d', e'] = [a + a', b + b', c + c', d + d', e + e'] := by kernel_rfl
/-- What is added. -/
theorem pls_ok {l m : Ds} (hl : l.length = 5) (hm : m.length = 5) {B C : Nat} (hb : Lt B l) (hc : Lt C m) (h : B + C ≤ 2 ^ 63) : V5 (pls l m) = V5 l + V5 m ∧ Lt (B + C) (pls l m) ∧ (pls l m).length = 5 := by
  obtain ⟨a, b, c, d, e, rfl⟩ := len5 hl
  obtain ⟨a', b', c', d', e', rfl⟩ := len5 hm
  obtain ⟨h1, h2, h3, h4, h5⟩ := Lt5 hb
  obtain ⟨g1, g2, g3, g4, g5⟩ := Lt5 hc
  rw [pls_5]
  have k1 := add_nat (x := a) (y := a') (by omega)
  have k2 := add_nat (x := b) (y := b') (by omega)
  have k3 := add_nat (x := c) (y := c') (by omega)
  have k4 := add_nat (x := d) (y := d') (by omega)
  have k5 := add_nat (x := e) (y := e') (by omega)
  refine ⟨?_, Lt5_of (by omega), rfl⟩
  rw [V5_5, V5_5, V5_5, k1, k2, k3, k4, k5]
  omega
theorem fo_5 {l : Ds} {a b c d e : BitVec 64} (h : crX l = [a, b, c, d, e]) : fo l = [a + BitVec.ofInt 64 5 * crY l, b, c, d, e] := by
  unfold fo; rw [h]; rfl
/-- A round of settling. -/
theorem fo_ok {l : Ds} (hl : l.length = 5) (hb : Lt (2 ^ 60) l) : V5 (fo l) + PP * (crY l).toNat = V5 l ∧ (fo l).length = 5 ∧ ∃ a b c d e, fo l = [a, b, c, d, e] ∧ a.toNat < 67108864 + 5 * (crY l).toNat + 1 ∧ b.toNat < 67108864 ∧ c.toNat < 67108864 ∧ d.toNat < 67108864 ∧ e.toNat < 67108864 ∧ (crY l).toNat < 2 ^ 36 := by
  obtain ⟨h1, h2, h3⟩ := cr_ok hl (hb.mono (by decide))
  have hV : V5 l < P130 * 2 ^ 35 := by
    obtain ⟨a, b, c, d, e, rfl⟩ := len5 hl
    obtain ⟨g1, g2, g3, g4, g5⟩ := Lt5 hb
    rw [V5_5, P130]
    omega
  have hy : (crY l).toNat < 2 ^ 36 := by
    rw [P130] at h1 hV
    omega
  obtain ⟨a, b, c, d, e, hx⟩ := len5 h3
  rw [hx] at h2 h1
  obtain ⟨g1, g2, g3, g4, g5⟩ := Lt5 h2
  have k0 : (BitVec.ofInt 64 5 * crY l).toNat = 5 * (crY l).toNat := mul_nat (x := BitVec.ofInt 64 5) (by rw [show (BitVec.ofInt 64 5).toNat = 5 from rfl]; omega)
  have k1 : (a + BitVec.ofInt 64 5 * crY l).toNat = a.toNat + 5 * (crY l).toNat := by rw [add_nat (by omega), k0]
  rw [fo_5 hx]
  refine ⟨?_, rfl, _, _, _, _, _, rfl, by omega, g2, g3, g4, g5, hy⟩
  rw [V5_5, k1, PP_eq]
  rw [V5_5, P130] at h1
  omega
/-- A settled number: below 2^130, its digits nearly as they should be. -/
def Ok5 (l : Ds) : Prop := l.length = 5 ∧ Lt (2 ^ 27) l ∧ V5 l < P130
theorem stl_ok {l : Ds} (hl : l.length = 5) (hb : Lt (2 ^ 60) l) : Ok5 (stl l) ∧ V5 (stl l) % PP = V5 l % PP := by
  obtain ⟨h1, h2, a, b, c, d, e, hx, g1, g2, g3, g4, g5, g6⟩ := fo_ok hl hb
  have hb2 : Lt (2 ^ 60) (fo l) := by rw [hx]; exact Lt5_of (by omega)
  obtain ⟨k1, k2, a', b', c', d', e', hx', f1, f2, f3, f4, f5, f6⟩ := fo_ok h2 hb2
  have hV : V5 (fo l) < P130 + 2 ^ 40 := by
    rw [hx, V5_5, P130]
    omega
  unfold stl
  have hm : V5 (fo (fo l)) % PP = V5 l % PP := by rw [← h1, ← k1, Nat.add_mul_mod_self_left, Nat.add_mul_mod_self_left]
  refine ⟨⟨k2, ?_, ?_⟩, hm⟩
  · have hy : (crY (fo l)).toNat ≤ 1 := by
      rw [PP_eq] at k1; rw [P130] at hV; omega
    rw [hx']; exact Lt5_of (by omega)
  · have hy : (crY (fo l)).toNat ≤ 1 := by
      rw [PP_eq] at k1; rw [P130] at hV; omega
    rcases Nat.eq_zero_or_pos (crY (fo l)).toNat with q | q
    · rw [q] at f1
      obtain ⟨c1, c2, c3⟩ := cr_ok h2 (hb2.mono (by decide))
      have := V5_lt c3 c2
      rw [q, Nat.mul_zero, Nat.add_zero] at k1 c1
      rw [k1, ← c1]; exact this
    · have q : (crY (fo l)).toNat = 1 := by omega
      rw [q, PP_eq] at k1
      rw [P130] at hV ⊢
      omega
theorem ch_5 (a b c d e a' b' c' d' e' m : BitVec 64) : ch [a, b, c, d, e] [a', b', c', d', e'] m 5 = [a ^^^ (a ^^^ a') &&& -m, b ^^^ (b ^^^ b') &&& -m, c ^^^ (c ^^^ c') &&& -m, d ^^^ (d ^^^ d') &&& -m, e ^^^ (e ^^^ e') &&& -m] := by kernel_rfl
theorem pick0 (a b : BitVec 64) : a ^^^ (a ^^^ b) &&& -(0 : BitVec 64) = a := by simp
theorem pick1 (a b : BitVec 64) : a ^^^ (a ^^^ b) &&& -(1 : BitVec 64) = b := by
  have e : -(1 : BitVec 64) = BitVec.allOnes 64 := by decide
  rw [e, BitVec.and_allOnes, ← BitVec.xor_assoc, BitVec.xor_self, BitVec.zero_xor]
/-- The number below the prime. -/
theorem lst_ok {l : Ds} (h : Ok5 l) : V5 (lst l) = V5 l % PP ∧ Lt (2 ^ 27) (lst l) ∧ (lst l).length = 5 := by
  obtain ⟨hl, hb, hV⟩ := h
  have h5 : V5 (l5 l) = V5 l + 5 ∧ Lt (2 ^ 27 + 2 ^ 27) (l5 l) ∧ (l5 l).length = 5 := by
    have := pls_ok (m := [BitVec.ofInt 64 5] ++ List.drop 1 (List.replicate 5 (0 : BitVec 64))) hl rfl hb (C := 2 ^ 27) (show Lt (2 ^ 27) [BitVec.ofInt 64 5, 0, 0, 0, 0] from Lt5_of (by decide)) (by decide)
    have e : V5 ([BitVec.ofInt 64 5] ++ List.drop 1 (List.replicate 5 (0 : BitVec 64))) = 5 := by decide
    rw [e] at this
    exact this
  obtain ⟨a1, a2, a3⟩ := h5
  obtain ⟨c1, c2, c3⟩ := cr_ok a3 (a2.mono (by decide))
  have hlt := V5_lt c3 c2
  obtain ⟨a, b, c, d, e, hx⟩ := len5 hl
  obtain ⟨a', b', c', d', e', hx'⟩ := len5 c3
  have hy : (crY (l5 l)).toNat = 0 ∨ (crY (l5 l)).toNat = 1 := by
    rw [P130] at *
    omega
  unfold lst
  rw [hx', hx, ch_5]
  rw [← hx]
  rcases hy with q | q
  · have e0 : crY (l5 l) = 0 := BitVec.eq_of_toNat_eq q
    rw [e0, pick0, pick0, pick0, pick0, pick0, ← hx]
    rw [q, Nat.mul_zero, Nat.add_zero] at c1
    refine ⟨?_, hb, hl⟩
    rw [Nat.mod_eq_of_lt]
    rw [PP_eq]
    rw [P130] at hlt
    omega
  · have e0 : crY (l5 l) = 1 := BitVec.eq_of_toNat_eq q
    rw [e0, pick1, pick1, pick1, pick1, pick1, ← hx']
    rw [q, Nat.mul_one] at c1
    refine ⟨?_, c2.mono (by decide), c3⟩
    have hge : PP ≤ V5 l := by rw [PP_eq]; rw [P130] at c1; omega
    rw [Nat.mod_eq_sub_mod hge, Nat.mod_eq_of_lt (by rw [PP_eq]; rw [P130] at hV; omega), PP_eq]
    rw [P130] at c1
    omega
end Go.Proofs.YtgjhkfafmmkimaaDoor
