/-
  ip: the law IpFew: its loop, reckoned. No statement is proved here.
-/
import Derived.Test.YtggoncamiafclaaJpE
namespace Go.Proofs.Ytggoncamiafclaa
open Go.RowKit
set_option linter.unusedVariables false
set_option linter.unusedSimpArgs false
set_option maxRecDepth 100000

def E7 : Env := { G := G, T := (T0.add 9 c9).add 20 cHv, C := ((noC.add 21 (cNw Try.prog)).add 23 cTk).add 25 cWt }
theorem e7_ok : EnvOk Try.prog E7 := { T := PT.add_ok (PT.add_ok t0_ok works_ok) hv_ok, C := CT.add_ok (CT.add_ok (CT.add_ok (noC_ok _ _) new_ok) take_ok) waits_ok }
/-- The sets, as a script leaves them. -/
structure S7 where
  i : Nat
  now : BitVec 64
  mb : Nat
  clk : Nat
  es : List SetE
  gs : List SetE
abbrev S7.s (st : S7) : St := stO st.mb st.clk st.es st.gs
def i7 (pre : List Value) (len cap : Nat) (lf : BitVec 16) (q : Int) (now : BitVec 64) (i : Nat) : List (Nat × SV) := [(1, .w16 lf), (2, .rs 0 pre.length 0 10 len cap), (7, .i q), (8, .ptr 2 0), (10, .w64 now), (11, .i (i : Nat))]
def o7 (lf : BitVec 16) (now : BitVec 64) : List (Nat × SV) := [(1, .w16 lf), (8, .ptr 2 0), (10, .w64 now)]
def M7 (pre : List Value) (l : List Sr) (q : Int) (f : BitVec 64) (mb clk : Nat) (es gs : List SetE) : Mm := [scrE pre l, ⟨true, .res (stO mb clk es gs)⟩, ⟨true, .row [.i q, .w64 f, .mp 1]⟩]
def rdR (M : Mm) : Option (Nat × Nat × List SetE × List SetE) := match (M[1]? : Option Ent) with
  | some ⟨_, .res ⟨mb, clk, es, false, none, gs⟩⟩ => some (mb, clk, es, gs)
  | _ => none
def rdN (fr : List SV) : Option (BitVec 64) := match (fr[10]? : Option SV) with
  | some (.w64 n) => some n
  | _ => none
def I7 (pre : List Value) (len cap : Nat) (lf : BitVec 16) (q : Int) (st : S7) : List (Nat × SV) := i7 pre len cap lf q st.now st.i
def Ms7 (pre : List Value) (l : List Sr) (q : Int) (f : BitVec 64) (st : S7) : Mm := M7 pre l q f st.mb st.clk st.es st.gs
def sel7 (i : Nat) (fr : List SV) (M : Mm) : Option (S7 × List Nat) := match rdR M, rdN fr with
  | some (mb, clk, es, gs), some now => some (⟨i + 1, now, mb, clk, es, gs⟩, [1, 2])
  | _, _ => none
theorem bif_f {c : Bool} {p q : Prop} (h : c = false) (hq : q) : bif c then p else q := by rw [h]; exact hq
def v7L (pre : List Value) (l : List Sr) (len cap : Nat) (lf : BitVec 16) (q : Int) (f : BitVec 64) (Q : S7 → Prop) (fr : List SV) (M : Mm) (K : Ko) : Prop := match rdR M with
  | some (mb, clk, es, gs) => vLe (mH pre l) fr M 128 (i7 pre len cap lf q 0 0) (M7 pre l q f mb clk es gs) ((OkS (stO mb clk es gs) ∧ Nat.beq es.length 0 = true) ∧ ∀ (now : BitVec 64) (mb' clk' : Nat) (es' gs' : List SetE), Q ⟨len, now, mb', clk', es', gs'⟩ → frK 128 (o7 lf now) fun fr1 => K .normal fr1 (M7 pre l q f mb' clk' es' gs'))
  | _ => False
def L7 (pre : List Value) (l : List Sr) (len cap : Nat) (lf : BitVec 16) (q : Int) (f : BitVec 64) (Q : S7 → Prop) : LT := noL.add 0 (v7L pre l len cap lf q f Q)
theorem r7 (pre : List Value) (l : List Sr) (len cap : Nat) (lf : BitVec 16) (q : Int) (f : BitVec 64) (now : BitVec 64) (i mb clk : Nat) (es gs : List SetE) (a : S7 → Prop) (z : Prop) : (frK 128 (i7 pre len cap lf q now i) fun fr => vround Try.prog E7 noL 7 0 fr (M7 pre l q f mb clk es gs) (Kp (mH pre l) 0 128 (sel7 i) a (I7 pre len cap lf q) (Ms7 pre l q f) z (o7 lf now) (M7 pre l q f mb clk es gs))) = (bif ilt (↑i : Int) (↑len : Int) then bif inR (↑i : Int) len then bif rok pre.length i 10 SF pre l.length then bif inR (↑i : Int) len then bif rok pre.length i 10 SF pre l.length && true then bif bif false then true else q == 0 then bif ilt q (bif q == 0 then 0 else (↑es.length : Int)) then False else bif inI ((bif q == 0 then 0 else (↑es.length : Int)) + 1) then bif bif false then true else ilt ((bif q == 0 then 0 else (↑es.length : Int)) + 1) (bif q == 0 then 0 else (↑es.length : Int)) then False else bif inI ((↑i : Int) + 1) then a { i := i + 1, now := now + (l.getD (i + (pre.length - pre.length) / 10) (rz SF)).snd.snd.snd.snd.snd.snd.snd.snd.snd.fst % BitVec.ofInt 64 16, mb := mb, clk := clk, es := es, gs := gs } ∧ SV.w16 lf = ren (sig (List.length (mH pre l)) [1, 2]) (SV.w16 lf) ∧ SV.rs 0 pre.length 0 10 len cap = ren (sig (List.length (mH pre l)) [1, 2]) (SV.rs 0 pre.length 0 10 len cap) ∧ SV.i q = ren (sig (List.length (mH pre l)) [1, 2]) (SV.i q) ∧ SV.ptr 2 0 = ren (sig (List.length (mH pre l)) [1, 2]) (SV.ptr 2 0) ∧ SV.w64 (now + (l.getD (i + (pre.length - pre.length) / 10) (rz SF)).snd.snd.snd.snd.snd.snd.snd.snd.snd.fst % BitVec.ofInt 64 16) = ren (sig (List.length (mH pre l)) [1, 2]) (SV.w64 (now + (l.getD (i + (pre.length - pre.length) / 10) (rz SF)).snd.snd.snd.snd.snd.snd.snd.snd.snd.fst % BitVec.ofInt 64 16)) ∧ SV.i ((↑i : Int) + 1) = ren (sig (List.length (mH pre l)) [1, 2]) (SV.i (↑(i + 1) : Int)) ∧ (false = false ∧ Cont.recs none SF pre l = Cont.ren (sig (List.length (mH pre l)) [1, 2]) (Cont.recs none SF pre l)) ∧ (true = true ∧ Cont.res { mb := mb, clk := clk, es := es, was := false, it := none, gs := gs } = Cont.ren (sig (List.length (mH pre l)) [1, 2]) (Cont.res (stO mb clk es gs))) ∧ (true = true ∧ Cont.row [SV.i q, SV.w64 f, SV.mp 1] = Cont.ren (sig (List.length (mH pre l)) [1, 2]) (Cont.row [SV.i q, SV.w64 f, SV.mp 1])) ∧ True else False else False else bif (BitVec.ofInt 64 4611686018427387904).ule (now + (l.getD (i + (pre.length - pre.length) / 10) (rz SF)).snd.snd.snd.snd.snd.snd.snd.snd.snd.fst % BitVec.ofInt 64 16) then bif ilt q (bif q == 0 then 0 else (↑es.length : Int)) then False else bif inI ((bif q == 0 then 0 else (↑es.length : Int)) + 1) then bif bif false then true else ilt ((bif q == 0 then 0 else (↑es.length : Int)) + 1) (bif q == 0 then 0 else (↑es.length : Int)) then False else bif inI ((↑i : Int) + 1) then a { i := i + 1, now := now + (l.getD (i + (pre.length - pre.length) / 10) (rz SF)).snd.snd.snd.snd.snd.snd.snd.snd.snd.fst % BitVec.ofInt 64 16, mb := mb, clk := clk, es := es, gs := gs } ∧ SV.w16 lf = ren (sig (List.length (mH pre l)) [1, 2]) (SV.w16 lf) ∧ SV.rs 0 pre.length 0 10 len cap = ren (sig (List.length (mH pre l)) [1, 2]) (SV.rs 0 pre.length 0 10 len cap) ∧ SV.i q = ren (sig (List.length (mH pre l)) [1, 2]) (SV.i q) ∧ SV.ptr 2 0 = ren (sig (List.length (mH pre l)) [1, 2]) (SV.ptr 2 0) ∧ SV.w64 (now + (l.getD (i + (pre.length - pre.length) / 10) (rz SF)).snd.snd.snd.snd.snd.snd.snd.snd.snd.fst % BitVec.ofInt 64 16) = ren (sig (List.length (mH pre l)) [1, 2]) (SV.w64 (now + (l.getD (i + (pre.length - pre.length) / 10) (rz SF)).snd.snd.snd.snd.snd.snd.snd.snd.snd.fst % BitVec.ofInt 64 16)) ∧ SV.i ((↑i : Int) + 1) = ren (sig (List.length (mH pre l)) [1, 2]) (SV.i (↑(i + 1) : Int)) ∧ (false = false ∧ Cont.recs none SF pre l = Cont.ren (sig (List.length (mH pre l)) [1, 2]) (Cont.recs none SF pre l)) ∧ (true = true ∧ Cont.res { mb := mb, clk := clk, es := es, was := false, it := none, gs := gs } = Cont.ren (sig (List.length (mH pre l)) [1, 2]) (Cont.res (stO mb clk es gs))) ∧ (true = true ∧ Cont.row [SV.i q, SV.w64 f, SV.mp 1] = Cont.ren (sig (List.length (mH pre l)) [1, 2]) (Cont.row [SV.i q, SV.w64 f, SV.mp 1])) ∧ True else False else False else OkS (stO mb clk es gs) ∧ ∀ (gs' : List SetE), OkS (stO mb clk (List.filter (fun e => !e.u.ule (now + (l.getD (i + (pre.length - pre.length) / 10) (rz SF)).snd.snd.snd.snd.snd.snd.snd.snd.snd.fst % BitVec.ofInt 64 16)) es) gs') → bif isPc (l.getD (i + (pre.length - pre.length) / 10) (rz SF)).snd.snd.snd.snd.snd.snd.fst (l.getD (i + (pre.length - pre.length) / 10) (rz SF)).snd.snd.snd.snd.snd.snd.snd.fst then (OkS (stO mb clk (List.filter (fun e => !e.u.ule (now + (l.getD (i + (pre.length - pre.length) / 10) (rz SF)).snd.snd.snd.snd.snd.snd.snd.snd.snd.fst % BitVec.ofInt 64 16)) es) gs') ∧ List.length (l.getD (i + (pre.length - pre.length) / 10) (rz SF)).snd.snd.snd.snd.snd.snd.snd.snd.fst ≤ 4294967296 ∧ ∀ (e : SetE), e ∈ List.filter (fun e => !e.u.ule (now + (l.getD (i + (pre.length - pre.length) / 10) (rz SF)).snd.snd.snd.snd.snd.snd.snd.snd.snd.fst % BitVec.ofInt 64 16)) es → e.len ≤ 33554430) ∧ (∀ (s' : St) (z : Int), GErr q f (now + (l.getD (i + (pre.length - pre.length) / 10) (rz SF)).snd.snd.snd.snd.snd.snd.snd.snd.snd.fst % BitVec.ofInt 64 16) { src := (l.getD (i + (pre.length - pre.length) / 10) (rz SF)).fst, dst := (l.getD (i + (pre.length - pre.length) / 10) (rz SF)).snd.fst, proto := (l.getD (i + (pre.length - pre.length) / 10) (rz SF)).snd.snd.fst, id := (l.getD (i + (pre.length - pre.length) / 10) (rz SF)).snd.snd.snd.snd.fst } (8 * (↑(BitVec.toNat (l.getD (i + (pre.length - pre.length) / 10) (rz SF)).snd.snd.snd.snd.snd.snd.snd.fst) : Int)) (l.getD (i + (pre.length - pre.length) / 10) (rz SF)).snd.snd.snd.snd.snd.snd.snd.snd.fst (l.getD (i + (pre.length - pre.length) / 10) (rz SF)).snd.snd.snd.snd.snd.snd.fst (l.getD (i + (pre.length - pre.length) / 10) (rz SF)).snd.snd.snd.fst (stO mb clk (List.filter (fun e => !e.u.ule (now + (l.getD (i + (pre.length - pre.length) / 10) (rz SF)).snd.snd.snd.snd.snd.snd.snd.snd.snd.fst % BitVec.ofInt 64 16)) es) gs') s' z → bif ilt q (bif q == 0 then 0 else (↑s'.es.length : Int)) then False else bif inI ((bif q == 0 then 0 else (↑es.length : Int)) + 1) then bif bif false then true else ilt ((bif q == 0 then 0 else (↑es.length : Int)) + 1) (bif q == 0 then 0 else (↑s'.es.length : Int)) then False else bif inI ((↑i : Int) + 1) then a { i := i + 1, now := now + (l.getD (i + (pre.length - pre.length) / 10) (rz SF)).snd.snd.snd.snd.snd.snd.snd.snd.snd.fst % BitVec.ofInt 64 16, mb := s'.mb, clk := s'.clk, es := s'.es, gs := s'.gs } ∧ SV.w16 lf = ren (sig (List.length (mH pre l)) [1, 2]) (SV.w16 lf) ∧ SV.rs 0 pre.length 0 10 len cap = ren (sig (List.length (mH pre l)) [1, 2]) (SV.rs 0 pre.length 0 10 len cap) ∧ SV.i q = ren (sig (List.length (mH pre l)) [1, 2]) (SV.i q) ∧ SV.ptr 2 0 = ren (sig (List.length (mH pre l)) [1, 2]) (SV.ptr 2 0) ∧ SV.w64 (now + (l.getD (i + (pre.length - pre.length) / 10) (rz SF)).snd.snd.snd.snd.snd.snd.snd.snd.snd.fst % BitVec.ofInt 64 16) = ren (sig (List.length (mH pre l)) [1, 2]) (SV.w64 (now + (l.getD (i + (pre.length - pre.length) / 10) (rz SF)).snd.snd.snd.snd.snd.snd.snd.snd.snd.fst % BitVec.ofInt 64 16)) ∧ SV.i ((↑i : Int) + 1) = ren (sig (List.length (mH pre l)) [1, 2]) (SV.i (↑(i + 1) : Int)) ∧ (false = false ∧ Cont.recs none SF pre l = Cont.ren (sig (List.length (mH pre l)) [1, 2]) (Cont.recs none SF pre l)) ∧ (true = true ∧ Cont.res { mb := s'.mb, clk := s'.clk, es := s'.es, was := false, it := none, gs := s'.gs } = Cont.ren (sig (List.length (mH pre l)) [1, 2]) (Cont.res (stO s'.mb s'.clk s'.es s'.gs))) ∧ (true = true ∧ Cont.row [SV.i q, SV.w64 f, SV.mp 1] = Cont.ren (sig (List.length (mH pre l)) [1, 2]) (Cont.row [SV.i q, SV.w64 f, SV.mp 1])) ∧ True else False else False) ∧ ∀ (s' : St) (ps : List Pc), GMade q f (now + (l.getD (i + (pre.length - pre.length) / 10) (rz SF)).snd.snd.snd.snd.snd.snd.snd.snd.snd.fst % BitVec.ofInt 64 16) { src := (l.getD (i + (pre.length - pre.length) / 10) (rz SF)).fst, dst := (l.getD (i + (pre.length - pre.length) / 10) (rz SF)).snd.fst, proto := (l.getD (i + (pre.length - pre.length) / 10) (rz SF)).snd.snd.fst, id := (l.getD (i + (pre.length - pre.length) / 10) (rz SF)).snd.snd.snd.snd.fst } (8 * (↑(BitVec.toNat (l.getD (i + (pre.length - pre.length) / 10) (rz SF)).snd.snd.snd.snd.snd.snd.snd.fst) : Int)) (l.getD (i + (pre.length - pre.length) / 10) (rz SF)).snd.snd.snd.snd.snd.snd.snd.snd.fst (l.getD (i + (pre.length - pre.length) / 10) (rz SF)).snd.snd.snd.snd.snd.snd.fst (l.getD (i + (pre.length - pre.length) / 10) (rz SF)).snd.snd.snd.fst (stO mb clk (List.filter (fun e => !e.u.ule (now + (l.getD (i + (pre.length - pre.length) / 10) (rz SF)).snd.snd.snd.snd.snd.snd.snd.snd.snd.fst % BitVec.ofInt 64 16)) es) gs') s' ps → bif ilt q (bif q == 0 then 0 else (↑s'.es.length : Int)) then False else bif inI ((bif q == 0 then 0 else (↑es.length : Int)) + 1) then bif bif false then true else ilt ((bif q == 0 then 0 else (↑es.length : Int)) + 1) (bif q == 0 then 0 else (↑s'.es.length : Int)) then False else bif inI ((↑i : Int) + 1) then a { i := i + 1, now := now + (l.getD (i + (pre.length - pre.length) / 10) (rz SF)).snd.snd.snd.snd.snd.snd.snd.snd.snd.fst % BitVec.ofInt 64 16, mb := s'.mb, clk := s'.clk, es := s'.es, gs := s'.gs } ∧ SV.w16 lf = ren (sig (List.length (mH pre l)) [1, 2]) (SV.w16 lf) ∧ SV.rs 0 pre.length 0 10 len cap = ren (sig (List.length (mH pre l)) [1, 2]) (SV.rs 0 pre.length 0 10 len cap) ∧ SV.i q = ren (sig (List.length (mH pre l)) [1, 2]) (SV.i q) ∧ SV.ptr 2 0 = ren (sig (List.length (mH pre l)) [1, 2]) (SV.ptr 2 0) ∧ SV.w64 (now + (l.getD (i + (pre.length - pre.length) / 10) (rz SF)).snd.snd.snd.snd.snd.snd.snd.snd.snd.fst % BitVec.ofInt 64 16) = ren (sig (List.length (mH pre l)) [1, 2]) (SV.w64 (now + (l.getD (i + (pre.length - pre.length) / 10) (rz SF)).snd.snd.snd.snd.snd.snd.snd.snd.snd.fst % BitVec.ofInt 64 16)) ∧ SV.i ((↑i : Int) + 1) = ren (sig (List.length (mH pre l)) [1, 2]) (SV.i (↑(i + 1) : Int)) ∧ (false = false ∧ Cont.recs none SF pre l = Cont.ren (sig (List.length (mH pre l)) [1, 2]) (Cont.recs none SF pre l)) ∧ (true = true ∧ Cont.res { mb := s'.mb, clk := s'.clk, es := s'.es, was := false, it := none, gs := s'.gs } = Cont.ren (sig (List.length (mH pre l)) [1, 2]) (Cont.res (stO s'.mb s'.clk s'.es s'.gs))) ∧ (true = true ∧ Cont.row [SV.i q, SV.w64 f, SV.mp 1] = Cont.ren (sig (List.length (mH pre l)) [1, 2]) (Cont.row [SV.i q, SV.w64 f, SV.mp 1])) ∧ True else False else False else bif (List.length (l.getD (i + (pre.length - pre.length) / 10) (rz SF)).snd.snd.snd.snd.snd.snd.snd.snd.fst).ble 4294967296 then bif ilt q (bif q == 0 then 0 else (↑(List.filter (fun e => !e.u.ule (now + (l.getD (i + (pre.length - pre.length) / 10) (rz SF)).snd.snd.snd.snd.snd.snd.snd.snd.snd.fst % BitVec.ofInt 64 16)) es).length : Int)) then False else bif inI ((bif q == 0 then 0 else (↑es.length : Int)) + 1) then bif bif false then true else ilt ((bif q == 0 then 0 else (↑es.length : Int)) + 1) (bif q == 0 then 0 else (↑(List.filter (fun e => !e.u.ule (now + (l.getD (i + (pre.length - pre.length) / 10) (rz SF)).snd.snd.snd.snd.snd.snd.snd.snd.snd.fst % BitVec.ofInt 64 16)) es).length : Int)) then False else bif (l.getD (i + (pre.length - pre.length) / 10) (rz SF)).snd.snd.snd.snd.snd.snd.fst then False else bif bif false then true else bif true then bif false then true else (l.getD (i + (pre.length - pre.length) / 10) (rz SF)).snd.snd.snd.snd.snd.snd.snd.fst != BitVec.ofInt 16 0 else false then False else bif inI ((↑i : Int) + 1) then a { i := i + 1, now := now + (l.getD (i + (pre.length - pre.length) / 10) (rz SF)).snd.snd.snd.snd.snd.snd.snd.snd.snd.fst % BitVec.ofInt 64 16, mb := mb, clk := clk, es := List.filter (fun e => !e.u.ule (now + (l.getD (i + (pre.length - pre.length) / 10) (rz SF)).snd.snd.snd.snd.snd.snd.snd.snd.snd.fst % BitVec.ofInt 64 16)) es, gs := gs' } ∧ SV.w16 lf = ren (sig (List.length (mH pre l)) [1, 2]) (SV.w16 lf) ∧ SV.rs 0 pre.length 0 10 len cap = ren (sig (List.length (mH pre l)) [1, 2]) (SV.rs 0 pre.length 0 10 len cap) ∧ SV.i q = ren (sig (List.length (mH pre l)) [1, 2]) (SV.i q) ∧ SV.ptr 2 0 = ren (sig (List.length (mH pre l)) [1, 2]) (SV.ptr 2 0) ∧ SV.w64 (now + (l.getD (i + (pre.length - pre.length) / 10) (rz SF)).snd.snd.snd.snd.snd.snd.snd.snd.snd.fst % BitVec.ofInt 64 16) = ren (sig (List.length (mH pre l)) [1, 2]) (SV.w64 (now + (l.getD (i + (pre.length - pre.length) / 10) (rz SF)).snd.snd.snd.snd.snd.snd.snd.snd.snd.fst % BitVec.ofInt 64 16)) ∧ SV.i ((↑i : Int) + 1) = ren (sig (List.length (mH pre l)) [1, 2]) (SV.i (↑(i + 1) : Int)) ∧ (false = false ∧ Cont.recs none SF pre l = Cont.ren (sig (List.length (mH pre l)) [1, 2]) (Cont.recs none SF pre l)) ∧ (true = true ∧ Cont.res { mb := mb, clk := clk, es := List.filter (fun e => !e.u.ule (now + (l.getD (i + (pre.length - pre.length) / 10) (rz SF)).snd.snd.snd.snd.snd.snd.snd.snd.snd.fst % BitVec.ofInt 64 16)) es, was := false, it := none, gs := gs' } = Cont.ren (sig (List.length (mH pre l)) [1, 2]) (Cont.res (stO mb clk (List.filter (fun e => !e.u.ule (now + (l.getD (i + (pre.length - pre.length) / 10) (rz SF)).snd.snd.snd.snd.snd.snd.snd.snd.snd.fst % BitVec.ofInt 64 16)) es) gs'))) ∧ (true = true ∧ Cont.row [SV.i q, SV.w64 f, SV.mp 1] = Cont.ren (sig (List.length (mH pre l)) [1, 2]) (Cont.row [SV.i q, SV.w64 f, SV.mp 1])) ∧ True else False else False else False else False else False else False else False else 0 = 0 ∧ z ∧ SV.w16 lf = SV.w16 lf ∧ SV.ptr 2 0 = SV.ptr 2 0 ∧ SV.w64 now = SV.w64 now ∧ (false = false ∧ Cont.recs none SF pre l = Cont.recs none SF pre l) ∧ (true = true ∧ Cont.res (stO mb clk es gs) = Cont.res (stO mb clk es gs)) ∧ (true = true ∧ Cont.row [SV.i q, SV.w64 f, SV.mp 1] = Cont.row [SV.i q, SV.w64 f, SV.mp 1]) ∧ True) := by kernel_rfl
theorem v7 (pre : List Value) (l : List Sr) (len cap : Nat) (most : BitVec 8) (lf : BitVec 16) (q : Int) (f : BitVec 64) (Q : S7 → Prop) (K : SV → Mm → Prop) : (vf Try.prog E7 (L7 pre l len cap lf q f Q) 7 [.w8 most, .w16 lf, .rs 0 pre.length 0 10 len cap] (mH pre l) K) = (bif pre.length.beq pre.length && (len.ble l.length && (len.ble 140737488355328 && okSc l)) then bif hvB l len then K (SV.b true) (mH pre l) else bif inI ((↑most.toNat : Int).tmod 8 + 1) then bif bif false then true else ilt 32 ((↑most.toNat : Int).tmod 8 + 1) then K (SV.b false) (mH pre l) else bif bif false then true else (BitVec.setWidth 64 lf + BitVec.ofInt 64 1).ult (BitVec.ofInt 64 1) then K (SV.b false) (mH pre l) else bif bif false then true else (BitVec.ofInt 64 4294967296).ult (BitVec.setWidth 64 lf + BitVec.ofInt 64 1) then K (SV.b false) (mH pre l) else ∀ (x : Nat), loopOf Try.prog 7 0 = loopOf Try.prog 7 0 ∧ SV.w16 lf = SV.w16 lf ∧ SV.rs 0 pre.length 0 10 len cap = SV.rs 0 pre.length 0 10 len cap ∧ SV.i ((↑most.toNat : Int).tmod 8 + 1) = SV.i q ∧ SV.ptr (0 + 1 + 1) 0 = SV.ptr 2 0 ∧ SV.w64 (BitVec.ofInt 64 0) = SV.w64 0 ∧ SV.i 0 = SV.i (↑0 : Int) ∧ (false = false ∧ Cont.recs none SF pre l = Cont.recs none SF pre l) ∧ (true = true ∧ Cont.res { mb := x, clk := 0, es := [], was := false, it := none, gs := [] } = Cont.res (stO x 0 [] [])) ∧ (true = true ∧ Cont.row [SV.i ((↑most.toNat : Int).tmod 8 + 1), SV.w64 (BitVec.setWidth 64 lf + BitVec.ofInt 64 1), SV.mp (List.length (mH pre l))] = Cont.row [SV.i q, SV.w64 f, SV.mp 1]) ∧ (OkS (stO x 0 [] []) ∧ Nat.beq 0 0 = true) ∧ ∀ (now : BitVec 64) (mb' clk' : Nat) (es' gs' : List SetE), Q { i := len, now := now, mb := mb', clk := clk', es := es', gs := gs' } → bif bif false then true else q == 0 then K (SV.b false) [scrE pre l, { rw := true, c := Cont.res { mb := mb', clk := clk', es := es', was := false, it := none, gs := gs' } }, { rw := true, c := Cont.row [SV.i q, SV.w64 f, SV.mp 1] }, { rw := true, c := Cont.row [SV.w32 0, SV.w32 0, SV.w8 0, SV.w8 0, SV.w16 0, SV.b false, SV.b false, SV.w16 0, SV.s []] }] else bif (BitVec.ofInt 64 4611686018427387904).ule (now + BitVec.setWidth 64 lf + BitVec.ofInt 64 1) then K (SV.b false) [scrE pre l, { rw := true, c := Cont.res { mb := mb', clk := clk', es := es', was := false, it := none, gs := gs' } }, { rw := true, c := Cont.row [SV.i q, SV.w64 f, SV.mp 1] }, { rw := true, c := Cont.row [SV.w32 0, SV.w32 0, SV.w8 0, SV.w8 0, SV.w16 0, SV.b false, SV.b false, SV.w16 0, SV.s []] }] else OkS (stO mb' clk' es' gs') ∧ ∀ (gs' : List SetE), OkS (stO mb' clk' (List.filter (fun e => !e.u.ule (now + BitVec.setWidth 64 lf + BitVec.ofInt 64 1)) es') gs') → bif bif true then (bif q == 0 then 0 else (↑(List.filter (fun e => !e.u.ule (now + BitVec.setWidth 64 lf + BitVec.ofInt 64 1)) es').length : Int)) == 0 else false then K (SV.b (bif true then true else false)) [scrE pre l, { rw := true, c := Cont.res { mb := mb', clk := clk', es := List.filter (fun e => !e.u.ule (now + BitVec.setWidth 64 lf + BitVec.ofInt 64 1)) es', was := false, it := none, gs := gs' } }, { rw := true, c := Cont.row [SV.i q, SV.w64 f, SV.mp 1] }, { rw := true, c := Cont.row [SV.w32 0, SV.w32 0, SV.w8 0, SV.w8 0, SV.w16 0, SV.b false, SV.b false, SV.w16 0, SV.s (bts { data := #[120] })] }] else K (SV.b false) [scrE pre l, { rw := true, c := Cont.res { mb := mb', clk := clk', es := List.filter (fun e => !e.u.ule (now + BitVec.setWidth 64 lf + BitVec.ofInt 64 1)) es', was := false, it := none, gs := gs' } }, { rw := true, c := Cont.row [SV.i q, SV.w64 f, SV.mp 1] }, { rw := true, c := Cont.row [SV.w32 0, SV.w32 0, SV.w8 0, SV.w8 0, SV.w16 0, SV.b false, SV.b false, SV.w16 0, SV.s (bts { data := #[120] })] }] else False else False) := by kernel_rfl
theorem v7h (pre : List Value) (l : List Sr) (len cap : Nat) (most : BitVec 8) (lf : BitVec 16) (K : SV → Mm → Prop) : (vf Try.prog E7 noL 7 [.w8 most, .w16 lf, .rs 0 pre.length 0 10 len cap] (mH pre l) K) = (bif pre.length.beq pre.length && (len.ble l.length && (len.ble 140737488355328 && okSc l)) then bif hvB l len then K (SV.b true) (mH pre l) else bif inI ((↑most.toNat : Int).tmod 8 + 1) then bif bif false then true else ilt 32 ((↑most.toNat : Int).tmod 8 + 1) then K (SV.b false) (mH pre l) else bif bif false then true else (BitVec.setWidth 64 lf + BitVec.ofInt 64 1).ult (BitVec.ofInt 64 1) then K (SV.b false) (mH pre l) else bif bif false then true else (BitVec.ofInt 64 4294967296).ult (BitVec.setWidth 64 lf + BitVec.ofInt 64 1) then K (SV.b false) (mH pre l) else ∀ (x : Nat), loopOf Try.prog 7 0 = loopOf Try.prog 7 0 ∧ False else False else False) := by kernel_rfl
/-- Few sets, none of which waits beyond a life, none of which has more pieces than came. -/
structure Few (q : Int) (life now i : Nat) (s : St) : Prop where
  ok : OkS s
  len : ((s.es.length : Nat) : Int) ≤ q
  row : ∀ e ∈ s.es, e.u.toNat ≤ now + life ∧ e.len ≤ i
theorem few_sub {q : Int} {life now now' i i' : Nat} {s s' : St} (h : Few q life now i s) (hn : now ≤ now') (hi : i ≤ i') (hs : s'.es.Sublist s.es) (hk : OkS s') : Few q life now' i' s' :=
  ⟨hk, by have := hs.length_le; have := h.len; omega, fun e he => by obtain ⟨h1, h2⟩ := h.row e (hs.subset he); exact ⟨by omega, by omega⟩⟩
theorem few_start {q : Int} {life now : BitVec 64} {i : Nat} {n : Nm} {s s0 : St} (h : Start q life now n s s0) (hk : OkS s0) (hf : Few q life.toNat now.toNat i s) (ho : now.toNat + life.toNat < 18446744073709551616) : Few q life.toNat now.toNat i s0 ∧ s0.es.length ≤ s.es.length + 1 := by
  rcases h with rfl | ⟨h1, h2, x, rfl⟩
  · exact ⟨hf, Nat.le_succ _⟩
  · have e : (s.put (newE n s.clk x (now + life))).es = s.es ++ [newE n s.clk x (now + life)] := rfl
    have el : (s.put (newE n s.clk x (now + life))).es.length = s.es.length + 1 := by rw [e, List.length_append]; rfl
    have h2 : ¬ q ≤ ((s.es.length : Nat) : Int) := h2
    refine ⟨⟨hk, by omega, fun y hy => ?_⟩, by omega⟩
    rw [e] at hy
    rcases List.mem_append.1 hy with hy | hy
    · exact hf.row y hy
    · obtain rfl := List.mem_singleton.1 hy
      refine ⟨?_, Nat.zero_le _⟩
      show (now + life).toNat ≤ _
      rw [BitVec.toNat_add, Nat.mod_eq_of_lt ho]
      exact Nat.le_refl _
theorem addP_len {ps ps' : List Pc} {a : Int} {m : Tx} {b : Bool} {t : BitVec 8} {z : Int} (h : AddP ps a m b t ps' z) : ps'.length ≤ ps.length + 1 := by
  rcases h with ⟨-, rfl, -⟩ | ⟨-, h, -⟩
  · exact Nat.le_succ _
  · have := h.length_eq
    rw [List.length_append] at this
    have e : [(a, m, b, t, ())].length = 1 := rfl
    omega
theorem few_turn {q : Int} {life now : Nat} {i : Nat} {s0 s' : St} {pre post : List SetE} {e x : SetE} {ps : List Pc} (hf : Few q life now i s0) (hs : s0.es = pre ++ e :: post) (hu : Upd e x ps) (hl : ps.length ≤ e.ps.length + 1) (hk : OkS s') (he : s'.es = pre ++ x :: post) : Few q life now (i + 1) s' := by
  refine ⟨hk, ?_, fun y hy => ?_⟩
  · have := hf.len
    rw [hs] at this
    rw [he]
    simp only [List.length_append, List.length_cons] at this ⊢
    exact this
  · rw [he] at hy
    have hr := hf.row
    rw [hs] at hr
    rcases List.mem_append.1 hy with q | q
    · obtain ⟨h1, h2⟩ := hr y (List.mem_append_left _ q); exact ⟨h1, by omega⟩
    · rcases List.mem_cons.1 q with rfl | q
      · obtain ⟨h1, h2⟩ := hr e (List.mem_append_right _ (List.mem_cons_self ..))
        have g1 := ps_len hu.ok
        rw [hu.ps] at g1
        have g2 := ps_len (hf.ok.ok e (by rw [hs]; exact List.mem_append_right _ (List.mem_cons_self ..)))
        exact ⟨by rw [hu.u]; exact h1, by omega⟩
      · obtain ⟨h1, h2⟩ := hr y (List.mem_append_right _ (List.mem_cons_of_mem _ q)); exact ⟨h1, by omega⟩
theorem few_gone {q : Int} {life now : Nat} {i : Nat} {s0 s' : St} {pre post : List SetE} {e : SetE} (hf : Few q life now i s0) (hs : s0.es = pre ++ e :: post) (hk : OkS s') (he : s'.es = pre ++ post) : Few q life now (i + 1) s' :=
  few_sub hf (Nat.le_refl _) (Nat.le_succ _) (by rw [hs, he]; exact List.Sublist.append_left (List.sublist_cons_self ..) _) hk
theorem few_err {q : Int} {life now : BitVec 64} {i : Nat} {n : Nm} {a : Int} {m : Tx} {more : Bool} {ttl : BitVec 8} {s s' : St} {z : Int} (h : GErr q life now n a m more ttl s s' z) (hf : Few q life.toNat now.toNat i s) (ho : now.toNat + life.toNat < 18446744073709551616) : Few q life.toNat now.toNat (i + 1) s' ∧ s'.es.length ≤ s.es.length + 1 := by
  obtain ⟨hk, h | h | h⟩ := h
  · obtain ⟨-, rfl, -⟩ := h
    have := (sub_del (s := s) n).length_le
    exact ⟨few_sub hf (Nat.le_refl _) (Nat.le_succ _) (sub_del n) hk, by omega⟩
  · obtain ⟨-, -, -, rfl, -⟩ := h
    exact ⟨few_sub hf (Nat.le_refl _) (Nat.le_succ _) (List.Sublist.refl _) hk, by omega⟩
  · obtain ⟨-, s0, pre, e, post, x, ps, hst, hk0, hs, -, hu, hc⟩ := h
    obtain ⟨h0, hl⟩ := few_start hst hk0 hf ho
    rw [hs] at hl
    simp only [List.length_append, List.length_cons] at hl
    rcases hc with ⟨hA, -, rfl⟩ | ⟨hA, -, rfl, -⟩
    · refine ⟨few_gone h0 hs hk rfl, ?_⟩
      show (pre ++ post).length ≤ _
      rw [List.length_append]; omega
    · refine ⟨few_turn h0 hs hu (addP_len hA) hk rfl, ?_⟩
      show (pre ++ x :: post).length ≤ _
      simp only [List.length_append, List.length_cons]; omega
theorem few_made {q : Int} {life now : BitVec 64} {i : Nat} {n : Nm} {a : Int} {m : Tx} {more : Bool} {ttl : BitVec 8} {s s' : St} {ps : List Pc} (h : GMade q life now n a m more ttl s s' ps) (hf : Few q life.toNat now.toNat i s) (ho : now.toNat + life.toNat < 18446744073709551616) : Few q life.toNat now.toNat (i + 1) s' ∧ s'.es.length ≤ s.es.length + 1 := by
  obtain ⟨hk, -, s0, pre, e, post, x, hst, hk0, hs, -, hu, hA, -, rfl⟩ := h
  obtain ⟨h0, hl⟩ := few_start hst hk0 hf ho
  rw [hs] at hl
  simp only [List.length_append, List.length_cons] at hl
  refine ⟨few_gone h0 hs hk rfl, ?_⟩
  show (pre ++ post).length ≤ _
  rw [List.length_append]; omega
theorem isPc_no {mo : Bool} {o : BitVec 16} (h : isPc mo o = false) : mo = false ∧ o = BitVec.ofInt 16 0 := by
  unfold isPc at h
  cases mo
  · exact ⟨rfl, by simpa using h⟩
  · cases h
theorem wt_eq {q : Int} (hq : 1 ≤ q) (x : Int) : (bif q == 0 then 0 else x) = x := by
  rw [show (q == 0) = false from beq_eq_false_iff_ne.2 (by omega)]; rfl
structure H7 (l : List Sr) (len : Nat) (lf : BitVec 16) (q : Int) (f : BitVec 64) : Prop where
  hf : f.toNat = lf.toNat + 1
  hl : len ≤ 100
  hn : len ≤ l.length
  hw : ∀ i, i < len → stW (l.getD i (rz SF)) ≤ 32768
  h1 : 1 ≤ q
  h2 : q ≤ 8
structure P7 (q : Int) (f : BitVec 64) (len : Nat) (st : S7) : Prop where
  hi : st.i ≤ len
  now : st.now.toNat ≤ 15 * st.i
  few : Few q f.toNat st.now.toNat st.i st.s
theorem now_step (now n : BitVec 64) {i : Nat} (h : now.toNat ≤ 15 * i) (hi : i ≤ 100) : (now + n % BitVec.ofInt 64 16).toNat ≤ 15 * (i + 1) ∧ now.toNat ≤ (now + n % BitVec.ofInt 64 16).toNat := by
  have e : (BitVec.ofInt 64 16).toNat = 16 := by decide
  have h3 : (n % BitVec.ofInt 64 16).toNat = n.toNat % 16 := by rw [BitVec.toNat_umod, e]
  rw [BitVec.toNat_add, h3, Nat.mod_eq_of_lt (by omega)]
  omega
theorem round7 (pre : List Value) (l : List Sr) (len cap : Nat) (lf : BitVec 16) (q : Int) (f : BitVec 64) (now : BitVec 64) (i mb clk : Nat) (es gs : List SetE) (H : H7 l len lf q f) (hp : P7 q f len ⟨i, now, mb, clk, es, gs⟩) :
    frK 128 (i7 pre len cap lf q now i) fun fr => vround Try.prog E7 noL 7 0 fr (M7 pre l q f mb clk es gs) (Kp (mH pre l) 0 128 (sel7 i) (fun st => P7 q f len st ∧ len - st.i < len - i) (I7 pre len cap lf q) (Ms7 pre l q f) (i = len) (o7 lf now) (M7 pre l q f mb clk es gs)) := by
  refine of_eq (r7 pre l len cap lf q f now i mb clk es gs _ _) ?_
  obtain ⟨hi, hnow, hfew⟩ := hp
  obtain ⟨g1, g2, g3, g4, g5, g6⟩ := H
  have hi : i ≤ len := hi
  have hnow : now.toNat ≤ 15 * i := hnow
  have hfew : Few q f.toNat now.toNat i (stO mb clk es gs) := hfew
  have hlf := lf.isLt
  rw [show i + (pre.length - pre.length) / 10 = i by omega]
  cases hc : ilt (i : Int) (len : Int)
  · have := of_nilt hc
    exact ⟨rfl, by omega, rfl, rfl, rfl, ⟨rfl, rfl⟩, ⟨rfl, rfl⟩, ⟨rfl, rfl⟩, trivial⟩
  · have hi' := of_ilt hc
    have hr := rok_s pre (show i < l.length by omega)
    have hn : inR (i : Int) len = true := inR_iff.2 ⟨by omega, by omega⟩
    have hw : stW (l.getD i (rz SF)) ≤ 32768 := g4 i hi'
    generalize l.getD i (rz SF) = r at hw ⊢
    obtain ⟨k1, k2⟩ := now_step now r.snd.snd.snd.snd.snd.snd.snd.snd.snd.fst hnow (by omega)
    generalize hnw : now + r.snd.snd.snd.snd.snd.snd.snd.snd.snd.fst % BitVec.ofInt 64 16 = nw at k1 k2 ⊢
    simp only [wt_eq g5]
    have hq0 : (bif false then true else q == 0) = false := beq_eq_false_iff_ne.2 (by omega)
    have hlen : ((es.length : Nat) : Int) ≤ q := hfew.len
    have hfil : (es.filter fun e => !e.u.ule nw).length ≤ es.length := List.length_filter_le ..
    have fin : ∀ (mb' clk' : Nat) (es' gs' : List SetE), Few q f.toNat nw.toNat (i + 1) (stO mb' clk' es' gs') → es'.length ≤ es.length + 1 → ∀ {T : Prop}, (P7 q f len ⟨i + 1, nw, mb', clk', es', gs'⟩ ∧ len - (i + 1) < len - i → T) → bif ilt q ((es'.length : Nat) : Int) then False else bif inI (((es.length : Nat) : Int) + 1) then bif bif false then true else ilt (((es.length : Nat) : Int) + 1) ((es'.length : Nat) : Int) then False else bif inI ((i : Int) + 1) then T else False else False := fun mb' clk' es' gs' hk hle T hT => by
      have hl' : ((es'.length : Nat) : Int) ≤ q := hk.len
      exact bif_f (ilt_no (by omega)) (bif_of (inI_iff.2 (by omega)) (bif_f (ilt_no (by omega)) (bif_of (inI_iff.2 (by omega)) (hT ⟨⟨by show i + 1 ≤ len; omega, by show nw.toNat ≤ 15 * (i + 1); exact k1, hk⟩, by omega⟩))))
    refine bif_of hn (bif_of hr (bif_of hn (bif_of (and_t hr rfl) (bif_f hq0 ?_))))
    have hnu : (BitVec.ofInt 64 4611686018427387904).ule nw = false := by
      have e : (BitVec.ofInt 64 4611686018427387904).toNat = 4611686018427387904 := by decide
      rw [BitVec.ule, decide_eq_false_iff_not]
      omega
    refine bif_f hnu ⟨hfew.ok, fun gs' hg => ?_⟩
    have hfl : Few q f.toNat nw.toNat i (stO mb clk (es.filter fun e => !e.u.ule nw) gs') := few_sub hfew k2 (Nat.le_refl _) (List.filter_sublist ..) hg
    cases hpc : isPc r.snd.snd.snd.snd.snd.snd.fst r.snd.snd.snd.snd.snd.snd.snd.fst
    · obtain ⟨m1, m2⟩ := isPc_no hpc
      rw [m1, m2]
      have hl' : (((es.filter fun e => !e.u.ule nw).length : Nat) : Int) ≤ q := by omega
      refine bif_of (ble_of (Nat.le_trans hw (by decide))) (bif_f (ilt_no (by omega)) (bif_of (inI_iff.2 (by omega)) (bif_f (ilt_no (by omega)) (bif_f rfl (bif_f rfl (bif_of (inI_iff.2 (by omega)) ⟨⟨⟨by show i + 1 ≤ len; omega, k1, few_sub hfl (Nat.le_refl _) (Nat.le_succ _) (List.Sublist.refl _) hg⟩, by omega⟩, rfl, rfl, rfl, rfl, rfl, rfl, ⟨trivial, rfl⟩, ⟨trivial, rfl⟩, ⟨trivial, rfl⟩, trivial⟩))))))
    · refine ⟨⟨hg, Nat.le_trans hw (by decide), fun e he => Nat.le_trans (hfl.row e he).2 (by omega)⟩, fun s' z hE => ?_, fun s' ps hE => ?_⟩
      · obtain ⟨j1, j2⟩ := few_err hE hfl (by omega)
        have j2 : s'.es.length ≤ (es.filter fun e => !e.u.ule nw).length + 1 := j2
        refine fin s'.mb s'.clk s'.es s'.gs (by rw [st_eta j1.ok]; exact j1) (by omega) fun hd => ⟨hd, rfl, rfl, rfl, rfl, rfl, rfl, ⟨trivial, rfl⟩, ⟨trivial, rfl⟩, ⟨trivial, rfl⟩, trivial⟩
      · obtain ⟨j1, j2⟩ := few_made hE hfl (by omega)
        have j2 : s'.es.length ≤ (es.filter fun e => !e.u.ule nw).length + 1 := j2
        refine fin s'.mb s'.clk s'.es s'.gs (by rw [st_eta j1.ok]; exact j1) (by omega) fun hd => ⟨hd, rfl, rfl, rfl, rfl, rfl, rfl, ⟨trivial, rfl⟩, ⟨trivial, rfl⟩, ⟨trivial, rfl⟩, trivial⟩
end Go.Proofs.Ytggoncamiafclaa
