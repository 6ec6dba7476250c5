/-
  link: the bytes of frames and of ARPs. No statement is proved here.
-/
import Derived.Test.YtedcileokcbohaaDoorLiB
import Derived.Test.YtedcileokcbohaaDoorRep
namespace Go.Proofs.YtedcileokcbohaaDoor
open Go.RowKit
set_option linter.unusedVariables false
set_option linter.unusedSimpArgs false
set_option maxRecDepth 100000

def cRep : List SV → List Cont → Option (Bool × SV)
  | [.s s, .i c], _ => some ((s == [0]) && (ile 0 c && ile c 1000), .s (List.replicate c.toNat 0))
  | _, _ => none
def EP (I : Tx → Bool) (AI : BitVec 16 → Tx → Tx → Bool) (F2 F4 : BitVec 32 → Tx) (N : Tx → BitVec 32) : Env := ⟨G, ((((((T0.add 35 cRep).add 33 (cM I)).add 34 (cNbs F2 F4)).add 37 (cArp AI)).add 39 (cNm N)).add 40 cCl), noC⟩
def ER (AI : BitVec 16 → Tx → Tx → Bool) (F2 F4 : BitVec 64 → Tx) (N : Tx → BitVec 64) : Env := ⟨G, (((T0.add 36 (cNum F2 F4)).add 38 (cArp AI)).add 41 (cVl N)), noC⟩
def bdOf (P : Program) (f : Nat) : Code := match P.funcs[f]? with
  | some fn => match fn.body with
    | some c => c
    | none => .skip
  | none => .skip
theorem rep_ok : POk Tryd.prog G 35 cRep := by
  intro args acs r h β M w hR hw ha
  unfold cRep at h
  split at h
  · rename_i s c
    simp only [Option.some.injEq, Prod.mk.injEq, Bool.and_eq_true, beq_iff_eq, ile_eq, decide_eq_true_eq] at h
    obtain ⟨⟨rfl, h1, h2⟩, rfl⟩ := h
    obtain ⟨n, rfl⟩ : ∃ n : Nat, c = (n : Int) := ⟨c.toNat, by omega⟩
    have hsz : (txt [0]).size = 1 := rfl
    refine .inr ⟨enter_run (c := bdOf Tryd.prog 35) Tryd.func35 (by kernel_rfl) (by kernel_rfl) _ _, ?_⟩
    refine (rep_calls (txt [0]) n w (by omega) (by rw [hsz]; omega)).mono ?_
    rintro e w' ⟨rfl, hB⟩
    refine ⟨_, rfl, ?_, ⟨hB.os, hB.tape, hB.output, hB.size, fun k hk _ => hB.block k hk⟩⟩
    show Value.string _ = Value.string _
    congr 1
    have e : (txt [0]).data.toList = List.replicate 1 (UInt8.ofBitVec 0) := rfl
    rw [e, Lib.repeatL_replicate, Int.toNat_natCast, Nat.mul_one]
    unfold txt
    rw [List.map_replicate]
  · cases h
abbrev EPt : Env := EP isM (arpOk isM) n2 n4 nmX
theorem ep_ok : EnvOk Tryd.prog EPt := ⟨PT.add_ok (PT.add_ok (PT.add_ok (PT.add_ok (PT.add_ok (PT.add_ok t0_ok rep_ok) isMac_ok) numbers_ok) isArp_ok) number_ok) clone_ok, noC_ok _ _⟩
abbrev ERt : Env := ER (arpOk isM) m2 m4 vlX
theorem er_ok : EnvOk Tryd.prog ERt := ⟨PT.add_ok (PT.add_ok (PT.add_ok t0_ok num_ok) mayArp_ok) value_ok, noC_ok _ _⟩
theorem v9 (I : Tx → Bool) (AI : BitVec 16 → Tx → Tx → Bool) (F2 F4 : BitVec 32 → Tx) (N : Tx → BitVec 32) (d s x : Tx) (t : BitVec 16) (K : SV → Prop) : (vf Tryd.prog (EP I AI F2 F4 N) noL 9 [.agg [.s d, .s s, .w16 t, .s x]] G (fun r _ => K r)) = (bif !I d then K (SV.tup [SV.s (bts { data := #[] }), SV.i (2 : Int)]) else bif bif false then true else !I s then K (SV.tup [SV.s (bts { data := #[] }), SV.i (2 : Int)]) else bif bif false then true else t.ult (BitVec.ofInt (16 : Nat) (1536 : Int)) then K (SV.tup [SV.s (bts { data := #[] }), SV.i (2 : Int)]) else bif ilt (1500 : Int) (↑(List.length x) : Int) then K (SV.tup [SV.s (bts { data := #[] }), SV.i (4 : Int)]) else bif inI ((46 : Int) - (↑(List.length x) : Int)) then bif ile (↑(List.length d + List.length s) : Int) (9223372036854775807 : Int) then bif ile (↑((d ++ s).length + List.length (F2 (BitVec.setWidth (32 : Nat) t))) : Int) (9223372036854775807 : Int) then bif ile (↑((d ++ s ++ F2 (BitVec.setWidth (32 : Nat) t)).length + List.length x) : Int) (9223372036854775807 : Int) then bif ile (0 : Int) (bif ilt ((46 : Int) - (↑(List.length x) : Int)) (0 : Int) then (0 : Int) else (46 : Int) - (↑(List.length x) : Int)) && ile (bif ilt ((46 : Int) - (↑(List.length x) : Int)) (0 : Int) then (0 : Int) else (46 : Int) - (↑(List.length x) : Int)) (1000 : Int) then bif ile (↑((d ++ s ++ F2 (BitVec.setWidth (32 : Nat) t) ++ x).length + (List.replicate (bif ilt ((46 : Int) - (↑(List.length x) : Int)) (0 : Int) then (0 : Int) else (46 : Int) - (↑(List.length x) : Int)).toNat (0 : BitVec (8 : Nat))).length) : Int) (9223372036854775807 : Int) then K (SV.tup [SV.s (d ++ s ++ F2 (BitVec.setWidth (32 : Nat) t) ++ x ++ List.replicate (bif ilt ((46 : Int) - (↑(List.length x) : Int)) (0 : Int) then (0 : Int) else (46 : Int) - (↑(List.length x) : Int)).toNat (0 : BitVec (8 : Nat))), SV.i (0 : Int)]) else False else False else False else False else False else False) := by kernel_rfl
theorem v10 (AI : BitVec 16 → Tx → Tx → Bool) (F2 F4 : BitVec 64 → Tx) (N : Tx → BitVec 64) (d s x : Tx) (t : BitVec 16) (K : SV → Prop) : (vf Tryd.prog (ER AI F2 F4 N) noL 10 [.agg [.s d, .s s, .w16 t, .s x]] G (fun r _ => K r)) = (bif (↑(List.length d) : Int) != (6 : Int) then K (SV.tup [SV.s (bts { data := #[] }), SV.i (2 : Int)]) else bif bif false then true else (↑(List.length s) : Int) != (6 : Int) then K (SV.tup [SV.s (bts { data := #[] }), SV.i (2 : Int)]) else bif bif false then true else t.ult (BitVec.ofInt (16 : Nat) (1536 : Int)) then K (SV.tup [SV.s (bts { data := #[] }), SV.i (2 : Int)]) else bif ilt (1500 : Int) (↑(List.length x) : Int) then K (SV.tup [SV.s (bts { data := #[] }), SV.i (4 : Int)]) else bif ile (↑(List.length d + List.length s) : Int) (9223372036854775807 : Int) then bif ile (↑((d ++ s).length + List.length (F2 (BitVec.setWidth (64 : Nat) t))) : Int) (9223372036854775807 : Int) then bif ile (↑((d ++ s ++ F2 (BitVec.setWidth (64 : Nat) t)).length + List.length x) : Int) (9223372036854775807 : Int) then bif inI ((46 : Int) - (↑(List.length x) : Int)) then bif ile (0 : Int) (bif ilt ((46 : Int) - (↑(List.length x) : Int)) (0 : Int) then (0 : Int) else (46 : Int) - (↑(List.length x) : Int)) && ile (bif ilt ((46 : Int) - (↑(List.length x) : Int)) (0 : Int) then (0 : Int) else (46 : Int) - (↑(List.length x) : Int)) (bif ilt ((46 : Int) - (↑(List.length x) : Int)) (0 : Int) then (0 : Int) else (46 : Int) - (↑(List.length x) : Int)) && ile (bif ilt ((46 : Int) - (↑(List.length x) : Int)) (0 : Int) then (0 : Int) else (46 : Int) - (↑(List.length x) : Int)) (140737488355328 : Int) then bif decide ((0 : Nat) + (bif ilt ((46 : Int) - (↑(List.length x) : Int)) (0 : Int) then (0 : Int) else (46 : Int) - (↑(List.length x) : Int)).toNat ≤ (List.replicate (bif ilt ((46 : Int) - (↑(List.length x) : Int)) (0 : Int) then (0 : Int) else (46 : Int) - (↑(List.length x) : Int)).toNat (0 : BitVec (8 : Nat))).length) then bif ile (↑((d ++ s ++ F2 (BitVec.setWidth (64 : Nat) t) ++ x).length + (List.take (bif ilt ((46 : Int) - (↑(List.length x) : Int)) (0 : Int) then (0 : Int) else (46 : Int) - (↑(List.length x) : Int)).toNat (List.drop (0 : Nat) (List.replicate (bif ilt ((46 : Int) - (↑(List.length x) : Int)) (0 : Int) then (0 : Int) else (46 : Int) - (↑(List.length x) : Int)).toNat (0 : BitVec (8 : Nat))))).length) : Int) (9223372036854775807 : Int) then K (SV.tup [SV.s (d ++ s ++ F2 (BitVec.setWidth (64 : Nat) t) ++ x ++ List.take (bif ilt ((46 : Int) - (↑(List.length x) : Int)) (0 : Int) then (0 : Int) else (46 : Int) - (↑(List.length x) : Int)).toNat (List.drop (0 : Nat) (List.replicate (bif ilt ((46 : Int) - (↑(List.length x) : Int)) (0 : Int) then (0 : Int) else (46 : Int) - (↑(List.length x) : Int)).toNat (0 : BitVec (8 : Nat))))), SV.i (0 : Int)]) else False else False else False else False else False else False else False) := by kernel_rfl
theorem v11 (I : Tx → Bool) (AI : BitVec 16 → Tx → Tx → Bool) (F2 F4 : BitVec 32 → Tx) (N : Tx → BitVec 32) (o : BitVec 16) (a b : Tx) (u v : BitVec 32) (K : SV → Prop) : (vf Tryd.prog (EP I AI F2 F4 N) noL 11 [.agg [.w16 o, .s a, .w32 u, .s b, .w32 v]] G (fun r _ => K r)) = (bif !AI o a b then K (SV.tup [SV.s (bts { data := #[] }), SV.i 2]) else bif ile (↑(6 + List.length (F2 (BitVec.setWidth 32 o))) : Int) 9223372036854775807 then bif ile (↑((List.take 6 (List.drop 0 HD) ++ F2 (BitVec.setWidth 32 o)).length + List.length a) : Int) 9223372036854775807 then bif ile (↑((List.take 6 (List.drop 0 HD) ++ F2 (BitVec.setWidth 32 o) ++ a).length + List.length (F4 u)) : Int) 9223372036854775807 then bif ile (↑((List.take 6 (List.drop 0 HD) ++ F2 (BitVec.setWidth 32 o) ++ a ++ F4 u).length + List.length b) : Int) 9223372036854775807 then bif ile (↑((List.take 6 (List.drop 0 HD) ++ F2 (BitVec.setWidth 32 o) ++ a ++ F4 u ++ b).length + List.length (F4 v)) : Int) 9223372036854775807 then K (SV.tup [SV.s (List.take 6 (List.drop 0 HD) ++ F2 (BitVec.setWidth 32 o) ++ a ++ F4 u ++ b ++ F4 v), SV.i 0]) else False else False else False else False else False) := by kernel_rfl
theorem v12 (AI : BitVec 16 → Tx → Tx → Bool) (F2 F4 : BitVec 64 → Tx) (N : Tx → BitVec 64) (o : BitVec 16) (a b : Tx) (u v : BitVec 32) (K : SV → Prop) : (vf Tryd.prog (ER AI F2 F4 N) noL 12 [.agg [.w16 o, .s a, .w32 u, .s b, .w32 v]] G (fun r _ => K r)) = (bif !AI o a b then K (SV.tup [SV.s (bts { data := #[] }), SV.i 2]) else bif ile (↑(6 + List.length (F2 (BitVec.setWidth 64 o))) : Int) 9223372036854775807 then bif ile (↑((bts { data := #[0, 1, 8, 0, 6, 4] } ++ F2 (BitVec.setWidth 64 o)).length + List.length a) : Int) 9223372036854775807 then bif ile (↑((bts { data := #[0, 1, 8, 0, 6, 4] } ++ F2 (BitVec.setWidth 64 o) ++ a).length + List.length (F4 (BitVec.setWidth 64 u))) : Int) 9223372036854775807 then bif ile (↑((bts { data := #[0, 1, 8, 0, 6, 4] } ++ F2 (BitVec.setWidth 64 o) ++ a ++ F4 (BitVec.setWidth 64 u)).length + List.length b) : Int) 9223372036854775807 then bif ile (↑((bts { data := #[0, 1, 8, 0, 6, 4] } ++ F2 (BitVec.setWidth 64 o) ++ a ++ F4 (BitVec.setWidth 64 u) ++ b).length + List.length (F4 (BitVec.setWidth 64 v))) : Int) 9223372036854775807 then K (SV.tup [SV.s (bts { data := #[0, 1, 8, 0, 6, 4] } ++ F2 (BitVec.setWidth 64 o) ++ a ++ F4 (BitVec.setWidth 64 u) ++ b ++ F4 (BitVec.setWidth 64 v)), SV.i 0]) else False else False else False else False else False) := by kernel_rfl
theorem v13 (I : Tx → Bool) (AI : BitVec 16 → Tx → Tx → Bool) (F2 F4 : BitVec 32 → Tx) (N : Tx → BitVec 32) (s : Tx) (K : SV → Prop) : (vf Tryd.prog (EP I AI F2 F4 N) noL 13 [.s s] G (fun r _ => K r)) = (bif ilt (↑(List.length s) : Int) 14 then K (SV.tup [SV.agg [SV.s [], SV.s [], SV.w16 0, SV.s []], SV.i 7]) else bif ile 14 (↑(List.length s) : Int) then bif (List.drop 12 (List.take 14 s)).length.ble 4294967296 then bif (BitVec.setWidth 16 (N (List.drop 12 (List.take 14 s)))).ult (BitVec.ofInt 16 1536) then K (SV.tup [SV.agg [SV.s [], SV.s [], SV.w16 0, SV.s []], SV.i 170]) else bif inI ((↑(List.length s) : Int) - 14) then bif ilt 1500 ((↑(List.length s) : Int) - 14) then K (SV.tup [SV.agg [SV.s [], SV.s [], SV.w16 0, SV.s []], SV.i 4]) else bif ile 6 (↑(List.length s) : Int) then bif (List.drop 0 (List.take 6 s)).length.ble 4294967296 then bif ile 12 (↑(List.length s) : Int) then bif (List.drop 6 (List.take 12 s)).length.ble 4294967296 then bif ile 14 (↑(List.length s) : Int) && ile (↑(List.length s) : Int) (↑(List.length s) : Int) then bif (List.drop 14 (List.take (List.length s) s)).length.ble 4294967296 then K (SV.tup [SV.agg [SV.s (List.drop 0 (List.take 6 s)), SV.s (List.drop 6 (List.take 12 s)), SV.w16 (BitVec.setWidth 16 (N (List.drop 12 (List.take 14 s)))), SV.s (List.drop 14 (List.take (List.length s) s))], SV.i 0]) else False else False else False else False else False else False else False else False else False) := by kernel_rfl
theorem v14 (AI : BitVec 16 → Tx → Tx → Bool) (F2 F4 : BitVec 64 → Tx) (N : Tx → BitVec 64) (s : Tx) (K : SV → Prop) : (vf Tryd.prog (ER AI F2 F4 N) noL 14 [.s s] G (fun r _ => K r)) = (bif ilt (↑(List.length s) : Int) 14 then K (SV.tup [SV.agg [SV.s [], SV.s [], SV.w16 0, SV.s []], SV.i 7]) else bif ile 14 (↑(List.length s) : Int) then bif (List.drop 12 (List.take 14 s)).length.ble 4294967296 then bif (BitVec.setWidth 16 (N (List.drop 12 (List.take 14 s)))).ult (BitVec.ofInt 16 1536) then K (SV.tup [SV.agg [SV.s [], SV.s [], SV.w16 0, SV.s []], SV.i 170]) else bif inI ((↑(List.length s) : Int) - 14) then bif ilt 1500 ((↑(List.length s) : Int) - 14) then K (SV.tup [SV.agg [SV.s [], SV.s [], SV.w16 0, SV.s []], SV.i 4]) else bif ile 6 (↑(List.length s) : Int) then bif ile 12 (↑(List.length s) : Int) then bif ile 14 (↑(List.length s) : Int) && ile (↑(List.length s) : Int) (↑(List.length s) : Int) then K (SV.tup [SV.agg [SV.s (List.drop 0 (List.take 6 s)), SV.s (List.drop 6 (List.take 12 s)), SV.w16 (BitVec.setWidth 16 (N (List.drop 12 (List.take 14 s)))), SV.s (List.drop 14 (List.take (List.length s) s))], SV.i 0]) else False else False else False else False else False else False) := by kernel_rfl
theorem v15 (I : Tx → Bool) (AI : BitVec 16 → Tx → Tx → Bool) (F2 F4 : BitVec 32 → Tx) (N : Tx → BitVec 32) (s : Tx) (K : SV → Prop) : (vf Tryd.prog (EP I AI F2 F4 N) noL 15 [.s s] G (fun r _ => K r)) = (bif ilt (↑(List.length s) : Int) (28 : Int) then K (SV.tup [SV.agg [SV.w16 (0 : BitVec (16 : Nat)), SV.s [], SV.w32 (0 : BitVec (32 : Nat)), SV.s [], SV.w32 (0 : BitVec (32 : Nat))], SV.i (7 : Int)]) else bif ile (8 : Int) (↑(List.length s) : Int) then bif (List.drop (6 : Nat) (List.take (8 : Nat) s)).length.ble (4294967296 : Nat) then bif ile (14 : Int) (↑(List.length s) : Int) then bif (List.drop (8 : Nat) (List.take (14 : Nat) s)).length.ble (4294967296 : Nat) then bif ile (18 : Int) (↑(List.length s) : Int) then bif (List.drop (14 : Nat) (List.take (18 : Nat) s)).length.ble (4294967296 : Nat) then bif ile (24 : Int) (↑(List.length s) : Int) then bif (List.drop (18 : Nat) (List.take (24 : Nat) s)).length.ble (4294967296 : Nat) then bif ile (28 : Int) (↑(List.length s) : Int) then bif (List.drop (24 : Nat) (List.take (28 : Nat) s)).length.ble (4294967296 : Nat) then bif (List.take (0 : Nat) (List.replicate (6 : Nat) (0 : BitVec (8 : Nat))) ++ List.take (6 : Nat) s ++ List.drop ((0 : Nat) + min (List.length s) (6 : Nat)) (List.replicate (6 : Nat) (0 : BitVec (8 : Nat)))).length.beq (6 : Nat) then bif (List.take (0 : Nat) (List.replicate (6 : Nat) (0 : BitVec (8 : Nat))) ++ List.take (6 : Nat) s ++ List.drop ((0 : Nat) + min (List.length s) (6 : Nat)) (List.replicate (6 : Nat) (0 : BitVec (8 : Nat)))).length.beq (6 : Nat) && true then bif bif true then !List.take (0 : Nat) (List.replicate (6 : Nat) (0 : BitVec (8 : Nat))) ++ List.take (6 : Nat) s ++ List.drop ((0 : Nat) + min (List.length s) (6 : Nat)) (List.replicate (6 : Nat) (0 : BitVec (8 : Nat))) == HD else List.take (0 : Nat) (List.replicate (6 : Nat) (0 : BitVec (8 : Nat))) ++ List.take (6 : Nat) s ++ List.drop ((0 : Nat) + min (List.length s) (6 : Nat)) (List.replicate (6 : Nat) (0 : BitVec (8 : Nat))) == HD then K (SV.tup [SV.agg [SV.w16 (0 : BitVec (16 : Nat)), SV.s [], SV.w32 (0 : BitVec (32 : Nat)), SV.s [], SV.w32 (0 : BitVec (32 : Nat))], SV.i (8 : Int)]) else bif bif false then true else !AI (BitVec.setWidth (16 : Nat) (N (List.drop (6 : Nat) (List.take (8 : Nat) s)))) (List.drop (8 : Nat) (List.take (14 : Nat) s)) (List.drop (18 : Nat) (List.take (24 : Nat) s)) then K (SV.tup [SV.agg [SV.w16 (0 : BitVec (16 : Nat)), SV.s [], SV.w32 (0 : BitVec (32 : Nat)), SV.s [], SV.w32 (0 : BitVec (32 : Nat))], SV.i (8 : Int)]) else K (SV.tup [SV.agg [SV.w16 (BitVec.setWidth (16 : Nat) (N (List.drop (6 : Nat) (List.take (8 : Nat) s)))), SV.s (List.drop (8 : Nat) (List.take (14 : Nat) s)), SV.w32 (N (List.drop (14 : Nat) (List.take (18 : Nat) s))), SV.s (List.drop (18 : Nat) (List.take (24 : Nat) s)), SV.w32 (N (List.drop (24 : Nat) (List.take (28 : Nat) s)))], SV.i (0 : Int)]) else False else False else False else False else False else False else False else False else False else False else False else False) := by kernel_rfl
theorem v16 (AI : BitVec 16 → Tx → Tx → Bool) (F2 F4 : BitVec 64 → Tx) (N : Tx → BitVec 64) (s : Tx) (K : SV → Prop) : (vf Tryd.prog (ER AI F2 F4 N) noL 16 [.s s] G (fun r _ => K r)) = (bif ilt (↑(List.length s) : Int) (28 : Int) then K (SV.tup [SV.agg [SV.w16 (0 : BitVec (16 : Nat)), SV.s [], SV.w32 (0 : BitVec (32 : Nat)), SV.s [], SV.w32 (0 : BitVec (32 : Nat))], SV.i (7 : Int)]) else bif ile (8 : Int) (↑(List.length s) : Int) then bif (List.drop (6 : Nat) (List.take (8 : Nat) s)).length.ble (4294967296 : Nat) then bif ile (14 : Int) (↑(List.length s) : Int) then bif ile (18 : Int) (↑(List.length s) : Int) then bif (List.drop (14 : Nat) (List.take (18 : Nat) s)).length.ble (4294967296 : Nat) then bif ile (24 : Int) (↑(List.length s) : Int) then bif ile (28 : Int) (↑(List.length s) : Int) then bif (List.drop (24 : Nat) (List.take (28 : Nat) s)).length.ble (4294967296 : Nat) then bif ile (6 : Int) (↑(List.length s) : Int) then bif !List.drop (0 : Nat) (List.take (6 : Nat) s) == bts { data := #[(0 : UInt8), (1 : UInt8), (8 : UInt8), (0 : UInt8), (6 : UInt8), (4 : UInt8)] } then K (SV.tup [SV.agg [SV.w16 (0 : BitVec (16 : Nat)), SV.s [], SV.w32 (0 : BitVec (32 : Nat)), SV.s [], SV.w32 (0 : BitVec (32 : Nat))], SV.i (8 : Int)]) else bif bif false then true else !AI (BitVec.setWidth (16 : Nat) (N (List.drop (6 : Nat) (List.take (8 : Nat) s)))) (List.drop (8 : Nat) (List.take (14 : Nat) s)) (List.drop (18 : Nat) (List.take (24 : Nat) s)) then K (SV.tup [SV.agg [SV.w16 (0 : BitVec (16 : Nat)), SV.s [], SV.w32 (0 : BitVec (32 : Nat)), SV.s [], SV.w32 (0 : BitVec (32 : Nat))], SV.i (8 : Int)]) else K (SV.tup [SV.agg [SV.w16 (BitVec.setWidth (16 : Nat) (N (List.drop (6 : Nat) (List.take (8 : Nat) s)))), SV.s (List.drop (8 : Nat) (List.take (14 : Nat) s)), SV.w32 (BitVec.setWidth (32 : Nat) (N (List.drop (14 : Nat) (List.take (18 : Nat) s)))), SV.s (List.drop (18 : Nat) (List.take (24 : Nat) s)), SV.w32 (BitVec.setWidth (32 : Nat) (N (List.drop (24 : Nat) (List.take (28 : Nat) s))))], SV.i (0 : Int)]) else False else False else False else False else False else False else False else False else False) := by kernel_rfl
theorem isM_len {l : Tx} (h : isM l = true) : l.length = 6 := by have := eq_of_beq h; omega
theorem isM_ne (l : Tx) : ((l.length : Int) != 6) = !isM l := rfl
theorem n2_len (x : BitVec 32) : (n2 x).length = 2 := rfl
theorem n4_len (x : BitVec 32) : (n4 x).length = 4 := rfl
theorem le_big {n : Nat} (h : n ≤ 10000) : ile (n : Int) 9223372036854775807 = true := ile_of (by omega)
-- frames
def enOk (d s : Tx) (t : BitVec 16) : Bool := isM d && (isM s && !(t.ult (BitVec.ofInt 16 1536)))
def enT (d s : Tx) (t : BitVec 16) (x : Tx) : Tx := bif enOk d s t && !(ilt 1500 (x.length : Int)) then d ++ s ++ n2 (t.setWidth 32) ++ x ++ List.replicate (46 - x.length) 0 else []
def enE (d s : Tx) (t : BitVec 16) (x : Tx) : Int := bif enOk d s t then bif ilt 1500 (x.length : Int) then 4 else 0 else 2
def cEn (T : Tx → Tx → BitVec 16 → Tx → Tx) (E : Tx → Tx → BitVec 16 → Tx → Int) : List SV → List Cont → Option (Bool × SV)
  | [.agg [.s d, .s s, .w16 t, .s x]], _ => some (true, .tup [.s (T d s t x), .i (E d s t x)])
  | _, _ => none
theorem lacks (n : Nat) : (bif ilt (46 - (n : Int)) 0 then 0 else 46 - (n : Int)) = ((46 - n : Nat) : Int) := by
  cases h : ilt (46 - (n : Int)) 0
  · rw [ilt_eq] at h
    have := of_decide_eq_false h
    show (46 - (n : Int)) = _
    omega
  · rw [ilt_eq] at h
    have := of_decide_eq_true h
    show (0 : Int) = _
    omega
theorem enc_ok : POk Tryd.prog G 9 (cEn enT enE) := by
  intro args acs r hh β M w hR hw ha
  unfold cEn at hh
  split at hh
  · rename_i d s t x
    simp only [Option.some.injEq, Prod.mk.injEq, true_and] at hh
    subst hh
    refine pokE rfl ep_ok (noL_ok _ _ _ _) (v9 isM (arpOk isM) n2 n4 nmX d s x t _) ?_ rfl rfl hR
    unfold enT enE enOk
    cases hd : isM d
    · rfl
    · cases hs : isM s
      · rfl
      · show bif bif false then true else t.ult (BitVec.ofInt 16 1536) then _ else _
        cases ht : t.ult (BitVec.ofInt 16 1536)
        · show bif ilt 1500 (x.length : Int) then _ else _
          cases hx : ilt 1500 (x.length : Int)
          · have hxl : x.length ≤ 1500 := by
              rw [ilt_eq] at hx
              have := of_decide_eq_false hx
              omega
            have l1 := isM_len hd
            have l2 := isM_len hs
            have l3 := n2_len (t.setWidth 32)
            rw [lacks, Int.toNat_natCast]
            refine bif_of (inI_iff.2 (by omega)) (bif_of (le_big (by omega)) (bif_of (le_big (by simp only [List.length_append]; omega)) (bif_of (le_big (by simp only [List.length_append]; omega)) (bif_of (and_t (ile_of (by omega)) (ile_of (by omega))) (bif_of (le_big (by simp only [List.length_append, List.length_replicate]; omega)) rfl)))))
          · rfl
        · rfl
  · cases hh
theorem renc_ok : POk Tryd.prog G 10 (cEn enT enE) := by
  intro args acs r hh β M w hR hw ha
  unfold cEn at hh
  split at hh
  · rename_i d s t x
    simp only [Option.some.injEq, Prod.mk.injEq, true_and] at hh
    subst hh
    refine pokE rfl er_ok (noL_ok _ _ _ _) (v10 (arpOk isM) m2 m4 vlX d s x t _) ?_ rfl rfl hR
    rw [isM_ne, isM_ne, m2_n2]
    unfold enT enE enOk
    cases hd : isM d
    · rfl
    · cases hs : isM s
      · rfl
      · show bif bif false then true else t.ult (BitVec.ofInt 16 1536) then _ else _
        cases ht : t.ult (BitVec.ofInt 16 1536)
        · show bif ilt 1500 (x.length : Int) then _ else _
          cases hx : ilt 1500 (x.length : Int)
          · have hxl : x.length ≤ 1500 := by
              rw [ilt_eq] at hx
              have := of_decide_eq_false hx
              omega
            have l1 := isM_len hd
            have l2 := isM_len hs
            have l3 := n2_len (t.setWidth 32)
            have e : List.take (46 - x.length) (List.drop 0 (List.replicate (46 - x.length) (0 : BitVec 8))) = List.replicate (46 - x.length) 0 := by
              rw [List.drop_zero, List.take_of_length_le (by rw [List.length_replicate]; exact Nat.le_refl _)]
            rw [lacks, Int.toNat_natCast, e]
            refine bif_of (le_big (by omega)) (bif_of (le_big (by simp only [List.length_append]; omega)) (bif_of (le_big (by simp only [List.length_append]; omega)) (bif_of (inI_iff.2 (by omega)) (bif_of (and_t (and_t (ile_of (by omega)) (ile_of (Int.le_refl _))) (ile_of (by omega))) (bif_of (decide_eq_true (by rw [List.length_replicate]; omega)) (bif_of (le_big (by simp only [List.length_append, List.length_replicate]; omega)) rfl))))))
          · rfl
        · rfl
  · cases hh
-- ARPs
def arT (o : BitVec 16) (a : Tx) (u : BitVec 32) (b : Tx) (v : BitVec 32) : Tx := bif arpOk isM o a b then HD ++ n2 (o.setWidth 32) ++ a ++ n4 u ++ b ++ n4 v else []
def arE (o : BitVec 16) (a b : Tx) : Int := bif arpOk isM o a b then 0 else 2
def cAr (T : BitVec 16 → Tx → BitVec 32 → Tx → BitVec 32 → Tx) (E : BitVec 16 → Tx → Tx → Int) : List SV → List Cont → Option (Bool × SV)
  | [.agg [.w16 o, .s a, .w32 u, .s b, .w32 v]], _ => some (true, .tup [.s (T o a u b v), .i (E o a b)])
  | _, _ => none
theorem arp_lens {o : BitVec 16} {a b : Tx} (h : arpOk isM o a b = true) : a.length = 6 ∧ b.length = 6 := by
  unfold arpOk at h
  generalize (bif o == BitVec.ofInt 16 1 then true else o == BitVec.ofInt 16 2) = p at h
  cases h1 : isM a
  · rw [h1] at h
    cases p <;> cases h
  · cases h2 : isM b
    · rw [h1, h2] at h
      cases p <;> cases h
    · exact ⟨isM_len h1, isM_len h2⟩
theorem hd6 : List.take 6 (List.drop 0 HD) = HD := rfl
theorem earp_ok : POk Tryd.prog G 11 (cAr arT arE) := by
  intro args acs r hh β M w hR hw ha
  unfold cAr at hh
  split at hh
  · rename_i o a u b v
    simp only [Option.some.injEq, Prod.mk.injEq, true_and] at hh
    subst hh
    refine pokE rfl ep_ok (noL_ok _ _ _ _) (v11 isM (arpOk isM) n2 n4 nmX o a b u v _) ?_ rfl rfl hR
    unfold arT arE
    cases hc : arpOk isM o a b
    · rfl
    · obtain ⟨l1, l2⟩ := arp_lens hc
      have l0 : HD.length = 6 := rfl
      rw [hd6]
      exact bif_of (le_big (by simp only [List.length_append, n2_len]; omega)) (bif_of (le_big (by simp only [List.length_append, n2_len, n4_len]; omega)) (bif_of (le_big (by simp only [List.length_append, n2_len, n4_len]; omega)) (bif_of (le_big (by simp only [List.length_append, n2_len, n4_len]; omega)) rfl)))
  · cases hh
theorem rearp_ok : POk Tryd.prog G 12 (cAr arT arE) := by
  intro args acs r hh β M w hR hw ha
  unfold cAr at hh
  split at hh
  · rename_i o a u b v
    simp only [Option.some.injEq, Prod.mk.injEq, true_and] at hh
    subst hh
    refine pokE rfl er_ok (noL_ok _ _ _ _) (v12 (arpOk isM) m2 m4 vlX o a b u v _) ?_ rfl rfl hR
    rw [m2_n2, m4_n4, m4_n4, show bts { data := #[0, 1, 8, 0, 6, 4] } = HD from rfl]
    unfold arT arE
    cases hc : arpOk isM o a b
    · rfl
    · obtain ⟨l1, l2⟩ := arp_lens hc
      have l0 : HD.length = 6 := rfl
      exact bif_of (le_big (by simp only [List.length_append, n2_len]; omega)) (bif_of (le_big (by simp only [List.length_append, n2_len, n4_len]; omega)) (bif_of (le_big (by simp only [List.length_append, n2_len, n4_len]; omega)) (bif_of (le_big (by simp only [List.length_append, n2_len, n4_len]; omega)) rfl)))
  · cases hh
-- frames that are read
def kd (s : Tx) : BitVec 16 := (nmX ((s.take 14).drop 12)).setWidth 16
def dcB (s : Tx) : Bool := !(ilt (s.length : Int) 14) && (!((kd s).ult (BitVec.ofInt 16 1536)) && !(ilt 1500 ((s.length : Int) - 14)))
def dcE (s : Tx) : Int := bif ilt (s.length : Int) 14 then 7 else bif (kd s).ult (BitVec.ofInt 16 1536) then 170 else bif ilt 1500 ((s.length : Int) - 14) then 4 else 0
def dc1 (s : Tx) : Tx := bif dcB s then s.take 6 else []
def dc2 (s : Tx) : Tx := bif dcB s then (s.take 12).drop 6 else []
def dc3 (s : Tx) : BitVec 16 := bif dcB s then kd s else 0
def dc4 (s : Tx) : Tx := bif dcB s then s.drop 14 else []
def cDc (D1 D2 : Tx → Tx) (D3 : Tx → BitVec 16) (D4 : Tx → Tx) (E : Tx → Int) : List SV → List Cont → Option (Bool × SV)
  | [.s s], _ => some (Nat.ble s.length 4294967296, .tup [.agg [.s (D1 s), .s (D2 s), .w16 (D3 s), .s (D4 s)], .i (E s)])
  | _, _ => none
theorem vl16 (l : Tx) : (vlX l).setWidth 16 = (nmX l).setWidth 16 := vl_nm16 l l.length
theorem vl32 (l : Tx) : (vlX l).setWidth 32 = nmX l := vl_nm l l.length
theorem cut_le {s : Tx} {a b : Nat} (h : b ≤ 100) : Nat.ble ((s.take b).drop a).length 4294967296 = true := ble_of (by rw [List.length_drop, List.length_take]; omega)
theorem dec_ok : POk Tryd.prog G 13 (cDc dc1 dc2 dc3 dc4 dcE) := by
  intro args acs r hh β M w hR hw ha
  unfold cDc at hh
  split at hh
  · rename_i s
    simp only [Option.some.injEq, Prod.mk.injEq] at hh
    obtain ⟨hb, rfl⟩ := hh
    have hb := Nat.le_of_ble_eq_true hb
    refine pokE rfl ep_ok (noL_ok _ _ _ _) (v13 isM (arpOk isM) n2 n4 nmX s _) ?_ rfl rfl hR
    unfold dc1 dc2 dc3 dc4 dcE dcB
    cases h1 : ilt (s.length : Int) 14
    · have l1 : 14 ≤ s.length := by rw [ilt_eq] at h1; have := of_decide_eq_false h1; omega
      refine bif_of (ile_of (by omega)) (bif_of (cut_le (by decide)) ?_)
      show bif (kd s).ult (BitVec.ofInt 16 1536) then _ else _
      cases h2 : (kd s).ult (BitVec.ofInt 16 1536)
      · refine bif_of (inI_iff.2 (by omega)) ?_
        cases h3 : ilt 1500 ((s.length : Int) - 14)
        · have e : List.drop 14 (List.take s.length s) = s.drop 14 := by rw [List.take_length]
          rw [e]
          exact bif_of (ile_of (by omega)) (bif_of (cut_le (by decide)) (bif_of (ile_of (by omega)) (bif_of (cut_le (by decide)) (bif_of (and_t (ile_of (by omega)) (ile_of (Int.le_refl _))) (bif_of (ble_of (by rw [List.length_drop]; omega)) rfl)))))
        · rfl
      · rfl
    · rfl
  · cases hh
theorem rdec_ok : POk Tryd.prog G 14 (cDc dc1 dc2 dc3 dc4 dcE) := by
  intro args acs r hh β M w hR hw ha
  unfold cDc at hh
  split at hh
  · rename_i s
    simp only [Option.some.injEq, Prod.mk.injEq] at hh
    obtain ⟨hb, rfl⟩ := hh
    have hb := Nat.le_of_ble_eq_true hb
    refine pokE rfl er_ok (noL_ok _ _ _ _) (v14 (arpOk isM) m2 m4 vlX s _) ?_ rfl rfl hR
    rw [vl16]
    unfold dc1 dc2 dc3 dc4 dcE dcB
    cases h1 : ilt (s.length : Int) 14
    · have l1 : 14 ≤ s.length := by rw [ilt_eq] at h1; have := of_decide_eq_false h1; omega
      refine bif_of (ile_of (by omega)) (bif_of (cut_le (by decide)) ?_)
      show bif (kd s).ult (BitVec.ofInt 16 1536) then _ else _
      cases h2 : (kd s).ult (BitVec.ofInt 16 1536)
      · refine bif_of (inI_iff.2 (by omega)) ?_
        cases h3 : ilt 1500 ((s.length : Int) - 14)
        · have e : List.drop 14 (List.take s.length s) = s.drop 14 := by rw [List.take_length]
          rw [e]
          exact bif_of (ile_of (by omega)) (bif_of (ile_of (by omega)) (bif_of (and_t (ile_of (by omega)) (ile_of (Int.le_refl _))) rfl))
        · rfl
      · rfl
    · rfl
  · cases hh
-- ARPs that are read
def daH (s : Tx) : Bool := s.take 6 == HD
def daO (s : Tx) : BitVec 16 := (nmX ((s.take 8).drop 6)).setWidth 16
def daG (s : Tx) : Bool := daH s && arpOk isM (daO s) ((s.take 14).drop 8) ((s.take 24).drop 18)
def daB (s : Tx) : Bool := !(ilt (s.length : Int) 28) && daG s
def daE (s : Tx) : Int := bif ilt (s.length : Int) 28 then 7 else bif daG s then 0 else 8
def da1 (s : Tx) : BitVec 16 := bif daB s then daO s else 0
def da2 (s : Tx) : Tx := bif daB s then (s.take 14).drop 8 else []
def da3 (s : Tx) : BitVec 32 := bif daB s then nmX ((s.take 18).drop 14) else 0
def da4 (s : Tx) : Tx := bif daB s then (s.take 24).drop 18 else []
def da5 (s : Tx) : BitVec 32 := bif daB s then nmX ((s.take 28).drop 24) else 0
def cDa (D1 : Tx → BitVec 16) (D2 : Tx → Tx) (D3 : Tx → BitVec 32) (D4 : Tx → Tx) (D5 : Tx → BitVec 32) (E : Tx → Int) : List SV → List Cont → Option (Bool × SV)
  | [.s s], _ => some (Nat.ble s.length 4294967296, .tup [.agg [.w16 (D1 s), .s (D2 s), .w32 (D3 s), .s (D4 s), .w32 (D5 s)], .i (E s)])
  | _, _ => none
theorem da_out (s : Tx) (h1 : ilt (s.length : Int) 28 = false) : (bif !daH s then (SV.tup [.agg [.w16 0, .s [], .w32 0, .s [], .w32 0], .i 8]) else bif bif false then true else !arpOk isM (daO s) ((s.take 14).drop 8) ((s.take 24).drop 18) then .tup [.agg [.w16 0, .s [], .w32 0, .s [], .w32 0], .i 8] else .tup [.agg [.w16 (daO s), .s ((s.take 14).drop 8), .w32 (nmX ((s.take 18).drop 14)), .s ((s.take 24).drop 18), .w32 (nmX ((s.take 28).drop 24))], .i 0]) = .tup [.agg [.w16 (da1 s), .s (da2 s), .w32 (da3 s), .s (da4 s), .w32 (da5 s)], .i (daE s)] := by
  unfold da1 da2 da3 da4 da5 daE daB daG
  rw [h1]
  cases daH s
  · rfl
  · cases arpOk isM (daO s) ((s.take 14).drop 8) ((s.take 24).drop 18) <;> rfl
theorem cond_eq {b : Bool} {x y z : SV} : (bif b then x = z else y = z) = ((bif b then x else y) = z) := by cases b <;> rfl
theorem darp_ok : POk Tryd.prog G 15 (cDa da1 da2 da3 da4 da5 daE) := by
  intro args acs r hh β M w hR hw ha
  unfold cDa at hh
  split at hh
  · rename_i s
    simp only [Option.some.injEq, Prod.mk.injEq] at hh
    obtain ⟨hb, rfl⟩ := hh
    refine pokE rfl ep_ok (noL_ok _ _ _ _) (v15 isM (arpOk isM) n2 n4 nmX s _) ?_ rfl rfl hR
    cases h1 : ilt (s.length : Int) 28
    · have l1 : 28 ≤ s.length := by rw [ilt_eq] at h1; have := of_decide_eq_false h1; omega
      have e : List.take 0 (List.replicate 6 (0 : BitVec 8)) ++ List.take 6 s ++ List.drop (0 + min (List.length s) 6) (List.replicate 6 (0 : BitVec 8)) = s.take 6 := by
        rw [show 0 + min s.length 6 = 6 by omega]
        show [] ++ s.take 6 ++ [] = s.take 6
        simp
      have el : (s.take 6).length = 6 := by rw [List.length_take]; omega
      have eb : Nat.beq (s.take 6).length 6 = true := by rw [el]; rfl
      rw [e]
      refine bif_of (ile_of (by omega)) (bif_of (cut_le (by decide)) (bif_of (ile_of (by omega)) (bif_of (cut_le (by decide)) (bif_of (ile_of (by omega)) (bif_of (cut_le (by decide)) (bif_of (ile_of (by omega)) (bif_of (cut_le (by decide)) (bif_of (ile_of (by omega)) (bif_of (cut_le (by decide)) (bif_of eb (bif_of (and_t eb rfl) ?_)))))))))))
      rw [← da_out s h1]
      show bif !daH s then _ = _ else bif bif false then true else !arpOk isM (daO s) ((s.take 14).drop 8) ((s.take 24).drop 18) then _ = _ else _ = _
      cases daH s
      · rfl
      · cases arpOk isM (daO s) ((s.take 14).drop 8) ((s.take 24).drop 18) <;> rfl
    · unfold da1 da2 da3 da4 da5 daE daB
      rw [h1]; rfl
  · cases hh
theorem rdarp_ok : POk Tryd.prog G 16 (cDa da1 da2 da3 da4 da5 daE) := by
  intro args acs r hh β M w hR hw ha
  unfold cDa at hh
  split at hh
  · rename_i s
    simp only [Option.some.injEq, Prod.mk.injEq] at hh
    obtain ⟨hb, rfl⟩ := hh
    refine pokE rfl er_ok (noL_ok _ _ _ _) (v16 (arpOk isM) m2 m4 vlX s _) ?_ rfl rfl hR
    rw [vl16, vl32, vl32]
    cases h1 : ilt (s.length : Int) 28
    · have l1 : 28 ≤ s.length := by rw [ilt_eq] at h1; have := of_decide_eq_false h1; omega
      refine bif_of (ile_of (by omega)) (bif_of (cut_le (by decide)) (bif_of (ile_of (by omega)) (bif_of (ile_of (by omega)) (bif_of (cut_le (by decide)) (bif_of (ile_of (by omega)) (bif_of (ile_of (by omega)) (bif_of (cut_le (by decide)) (bif_of (ile_of (by omega)) ?_))))))))
      rw [← da_out s h1]
      show bif !daH s then _ = _ else bif bif false then true else !arpOk isM (daO s) ((s.take 14).drop 8) ((s.take 24).drop 18) then _ = _ else _ = _
      cases daH s
      · rfl
      · cases arpOk isM (daO s) ((s.take 14).drop 8) ((s.take 24).drop 18) <;> rfl
    · unfold da1 da2 da3 da4 da5 daE daB
      rw [h1]; rfl
  · cases hh
end Go.Proofs.YtedcileokcbohaaDoor
