/-
  ip: what gather and DeleteFunc leave, as contracts. No statement is proved here.
-/
import Derived.Test.YtggoncamiafclabIpW
namespace Go.Proofs.Ytggoncamiafclab
open Go.RowKit
set_option linter.unusedVariables false
set_option linter.unusedSimpArgs false
set_option maxRecDepth 100000

/-- The sets, that of the name among them: it was there, or there was room. -/
def Start (most : Int) (life now : BitVec 64) (n : Nm) (s s0 : St) : Prop := s0 = s ∨ (s.get n = none ∧ ¬ most ≤ (s.len : Nat) ∧ ∃ x, s0 = s.put (newE n s.clk x (now + life)))
def GErr (most : Int) (life now : BitVec 64) (n : Nm) (a : Int) (m : Tx) (more : Bool) (ttl : BitVec 8) (s s' : St) (z : Int) : Prop :=
  OkS s' ∧ ((wrE a m more ≠ 0 ∧ s' = s.del n ∧ z = wrE a m more) ∨ (wrE a m more = 0 ∧ s.get n = none ∧ most ≤ (s.len : Nat) ∧ s' = s ∧ z = 6) ∨
    (wrE a m more = 0 ∧ ∃ s0 pre e post x ps, Start most life now n s s0 ∧ OkS s0 ∧ s0.es = pre ++ e :: post ∧ e.nm = n ∧ Upd e x ps ∧
      ((AddP e.ps a m more ttl ps z ∧ z ≠ 0 ∧ s' = { s0 with es := pre ++ post, gs := s0.gs ++ [x] }) ∨ (AddP e.ps a m more ttl ps 0 ∧ wholeP ps ps.length = false ∧ s' = s0.withE (pre ++ x :: post) ∧ z = 0))))
def GMade (most : Int) (life now : BitVec 64) (n : Nm) (a : Int) (m : Tx) (more : Bool) (ttl : BitVec 8) (s s' : St) (ps : List Pc) : Prop :=
  OkS s' ∧ wrE a m more = 0 ∧ ∃ s0 pre e post x, Start most life now n s s0 ∧ OkS s0 ∧ s0.es = pre ++ e :: post ∧ e.nm = n ∧ Upd e x ps ∧ AddP e.ps a m more ttl ps 0 ∧ wholeP ps ps.length = true ∧ s' = { s0 with es := pre ++ post, gs := s0.gs ++ [x] }
def cGa : List SV → Mm → (SV → Mm → Prop) → Prop
  | [.ptr 0 0, .agg [.w32 a, .w32 b, .w8 c, .w8 ttl, .w16 d, .b _, .b more, .w16 off, .s m], .w64 now], M, K => match M with
    | [⟨false, .row [.i most, .w64 life, .mp 1]⟩, ⟨true, .res s⟩, e2, e3, e4] => vsome ((e2.c.wf 5 && e3.c.wf 5) && e4.c.wf 5) ((OkS s ∧ m.length ≤ 4294967296 ∧ ∀ e ∈ s.es, e.len ≤ 33554430) ∧
        (∀ s' z, GErr most life now ⟨a, b, c, d⟩ (8 * ((off.toNat : Nat) : Int)) m more ttl s s' z → K (errT z) [⟨false, .row [.i most, .w64 life, .mp 1]⟩, ⟨true, .res s'⟩, e2, e3, e4]) ∧
        (∀ s' ps, GMade most life now ⟨a, b, c, d⟩ (8 * ((off.toNat : Nat) : Int)) m more ttl s s' ps → K (.tup [.agg [.w32 a, .w32 b, .w8 c, .w8 (pAt ps 0).2.2.2.1, .w16 d, .b false, .b false, .w16 0, .s (datW ps ps.length)], .b true, .i 0]) [⟨false, .row [.i most, .w64 life, .mp 1]⟩, ⟨true, .res s'⟩, e2, e3, e4]))
    | _ => False
  | _, _, _ => False
theorem ga_ok : COk Try.prog G 15 cGa := by
  intro args M K h
  unfold cGa at h
  split at h
  · rename_i a b c ttl d stay more off m now
    split at h
    · rename_i most life s e2 e3 e4
      obtain ⟨hw, ⟨hk, hm, hf⟩, hErr, hMade⟩ := vsome_iff.1 h
      simp only [Bool.and_eq_true] at hw
      obtain ⟨⟨w2, w3⟩, w4⟩ := hw
      refine g39 most life now s e2 e3 e4 a b c ttl d stay more off m K hk hm w2 w3 w4 hf (fun h1 h2 => ?_) (fun h1 h2 h3 => ?_) (fun h1 pre e post hs hn hq => ?_) (fun h1 h2 h3 x hx hq => ?_)
      · exact hErr _ _ ⟨h2, .inl ⟨h1, rfl, rfl⟩⟩
      · exact hErr _ _ ⟨hk, .inr (.inl ⟨h1, h2, h3, rfl, rfl⟩)⟩
      · exact tail_ok hk hs hn (by have := hf e (by rw [hs]; simp); omega) hq
          (fun x ps z hu hA hz hS => hErr _ _ ⟨hS, .inr (.inr ⟨h1, s, pre, e, post, x, ps, .inl rfl, hk, hs, hn, hu, .inl ⟨hA, hz, rfl⟩⟩)⟩)
          (fun x ps hu hA hW hS => hErr _ _ ⟨hS, .inr (.inr ⟨h1, s, pre, e, post, x, ps, .inl rfl, hk, hs, hn, hu, .inr ⟨hA, hW, rfl, rfl⟩⟩)⟩)
          (fun x ps hu hA hW hS => hMade _ _ ⟨hS, h1, s, pre, e, post, x, .inl rfl, hk, hs, hn, hu, hA, hW, rfl⟩)
      · have hk0 := hk.put (n := ⟨a, b, c, d⟩) (u := now + life) h2 hx
        have hst : Start most life now ⟨a, b, c, d⟩ s (s.put (newE ⟨a, b, c, d⟩ s.clk x (now + life))) := .inr ⟨h2, h3, x, rfl⟩
        have hs0 : (s.put (newE ⟨a, b, c, d⟩ s.clk x (now + life))).es = s.es ++ newE ⟨a, b, c, d⟩ s.clk x (now + life) :: [] := rfl
        exact tail_ok (e := newE ⟨a, b, c, d⟩ s.clk x (now + life)) hk0 hs0 rfl (by show 0 + 1 ≤ 33554431; decide) hq
          (fun y ps z hu hA hz hS => hErr _ _ ⟨hS, .inr (.inr ⟨h1, _, _, _, _, y, ps, hst, hk0, hs0, rfl, hu, .inl ⟨hA, hz, rfl⟩⟩)⟩)
          (fun y ps hu hA hW hS => hErr _ _ ⟨hS, .inr (.inr ⟨h1, _, _, _, _, y, ps, hst, hk0, hs0, rfl, hu, .inr ⟨hA, hW, rfl, rfl⟩⟩)⟩)
          (fun y ps hu hA hW hS => hMade _ _ ⟨hS, h1, _, _, _, _, y, hst, hk0, hs0, rfl, hu, hA, hW, rfl⟩)
    · exact h.elim
  · exact h.elim
def c37 : List SV → Mm → (SV → Mm → Prop) → Prop
  | [.mp 1, .fn f [.ptr 3 0]], M, K => match M with
    | [⟨false, .row [.i most, .w64 life, .mp 1]⟩, ⟨true, .res ⟨mb, clk, es, false, none, gs⟩⟩, e2, ⟨true, .row [.w64 now]⟩, e4] => vsome ((e2.c.wf 5 && e4.c.wf 5) && Nat.beq f 13) (OkS ⟨mb, clk, es, false, none, gs⟩ ∧
        ∀ gs', OkS ⟨mb, clk, es.filter fun e => !(e.u.ule now), false, none, gs'⟩ → K (.tup []) [⟨false, .row [.i most, .w64 life, .mp 1]⟩, ⟨true, .res ⟨mb, clk, es.filter fun e => !(e.u.ule now), false, none, gs'⟩⟩, e2, ⟨true, .row [.w64 now]⟩, e4])
    | _ => False
  | _, _, _ => False
theorem df_ok : COk Try.prog G 12 c37 := by
  intro args M K h
  unfold c37 at h
  split at h
  · rename_i f
    split at h
    · rename_i most life mb clk es gs e2 now e4
      obtain ⟨hw, hk, hK⟩ := vsome_iff.1 h
      simp only [Bool.and_eq_true] at hw
      obtain ⟨⟨w2, w4⟩, hf⟩ := hw
      obtain rfl := Nat.eq_of_beq_eq_true hf
      exact s37 most life now mb clk es gs e2 e4 K hk w2 w4 hK
    · exact h.elim
  · exact h.elim
end Go.Proofs.Ytggoncamiafclab
namespace Go.Proofs.Ytggoncamiafclab
open Go.RowKit
set_option linter.unusedVariables false
set_option linter.unusedSimpArgs false
set_option maxRecDepth 100000

def c36 (P : Program) : List SV → Mm → (SV → Mm → Prop) → Prop := fun args M K => vf P E0 noL 11 args M K
theorem none_ok : COk Try.prog G 11 (c36 Try.prog) := fun args M K h => vf_ok e0_ok mixed (noL_ok _ _ _ _) h
def ETk : Env := { G := G, T := (T0.add 14 (cPc isPc)).add 16 cCl, C := ((noC.add 11 (c36 Try.prog)).add 12 c37).add 15 cGa }
theorem etk_ok : EnvOk Try.prog ETk := { T := PT.add_ok (PT.add_ok t0_ok isPiece_ok) clone_ok, C := CT.add_ok (CT.add_ok (CT.add_ok (noC_ok _ _) none_ok) df_ok) ga_ok }
theorem v23 (most : Int) (life now : BitVec 64) (mb clk : Nat) (es gs : List SetE) (a b : BitVec 32) (c ttl : BitVec 8) (d : BitVec 16) (stay more : Bool) (off : BitVec 16) (m : Tx) (K : SV → Mm → Prop) : (vf Try.prog ETk noL 6 [.ptr 0 0, .agg [.w32 a, .w32 b, .w8 c, .w8 ttl, .w16 d, .b stay, .b more, .w16 off, .s m], .w64 now] (Mp most life mb clk es gs) K) = (bif bif false then true else most == 0 then K (SV.tup [SV.agg [SV.w32 0, SV.w32 0, SV.w8 0, SV.w8 0, SV.w16 0, SV.b false, SV.b false, SV.w16 0, SV.s []], SV.b false, SV.i 1]) [{ rw := false, c := Cont.row [SV.i most, SV.w64 life, SV.mp 1] }, { rw := true, c := Cont.res (stO mb clk es gs) }, { rw := true, c := Cont.row [SV.w32 a, SV.w32 b, SV.w8 c, SV.w8 ttl, SV.w16 d, SV.b stay, SV.b more, SV.w16 off, SV.s m] }, { rw := true, c := Cont.row [SV.w64 now] }, { rw := true, c := Cont.row [SV.w32 0, SV.w32 0, SV.w8 0, SV.w8 0, SV.w16 0, SV.b false, SV.b false, SV.w16 0, SV.s []] }] else bif (BitVec.ofInt 64 4611686018427387904).ule now then K (SV.tup [SV.agg [SV.w32 0, SV.w32 0, SV.w8 0, SV.w8 0, SV.w16 0, SV.b false, SV.b false, SV.w16 0, SV.s []], SV.b false, SV.i 2]) [{ rw := false, c := Cont.row [SV.i most, SV.w64 life, SV.mp 1] }, { rw := true, c := Cont.res (stO mb clk es gs) }, { rw := true, c := Cont.row [SV.w32 a, SV.w32 b, SV.w8 c, SV.w8 ttl, SV.w16 d, SV.b stay, SV.b more, SV.w16 off, SV.s m] }, { rw := true, c := Cont.row [SV.w64 now] }, { rw := true, c := Cont.row [SV.w32 0, SV.w32 0, SV.w8 0, SV.w8 0, SV.w16 0, SV.b false, SV.b false, SV.w16 0, SV.s []] }] else OkS { mb := mb, clk := clk, es := es, was := false, it := none, gs := gs } ∧ ∀ (gs' : List SetE), OkS { mb := mb, clk := clk, es := List.filter (fun e => !e.u.ule now) es, was := false, it := none, gs := gs' } → bif isPc more off then (OkS { mb := mb, clk := clk, es := List.filter (fun e => !e.u.ule now) es, was := false, it := none, gs := gs' } ∧ List.length m ≤ 4294967296 ∧ ∀ (e : SetE), e ∈ List.filter (fun e => !e.u.ule now) es → e.len ≤ 33554430) ∧ (∀ (s' : St) (z : Int), GErr most life now { src := a, dst := b, proto := c, id := d } (8 * (↑off.toNat : Int)) m more ttl { mb := mb, clk := clk, es := List.filter (fun e => !e.u.ule now) es, was := false, it := none, gs := gs' } s' z → K (SV.tup [SV.agg [SV.w32 0, SV.w32 0, SV.w8 0, SV.w8 0, SV.w16 0, SV.b false, SV.b false, SV.w16 0, SV.s []], SV.b false, SV.i z]) [{ rw := false, c := Cont.row [SV.i most, SV.w64 life, SV.mp 1] }, { rw := true, c := Cont.res s' }, { rw := true, c := Cont.row [SV.w32 a, SV.w32 b, SV.w8 c, SV.w8 ttl, SV.w16 d, SV.b stay, SV.b more, SV.w16 off, SV.s m] }, { rw := true, c := Cont.row [SV.w64 now] }, { rw := true, c := Cont.row [SV.w32 0, SV.w32 0, SV.w8 0, SV.w8 0, SV.w16 0, SV.b false, SV.b false, SV.w16 0, SV.s []] }]) ∧ ∀ (s' : St) (ps : List Pc), GMade most life now { src := a, dst := b, proto := c, id := d } (8 * (↑off.toNat : Int)) m more ttl { mb := mb, clk := clk, es := List.filter (fun e => !e.u.ule now) es, was := false, it := none, gs := gs' } s' ps → K (SV.tup [SV.agg [SV.w32 a, SV.w32 b, SV.w8 c, SV.w8 (pAt ps 0).snd.snd.snd.fst, SV.w16 d, SV.b false, SV.b false, SV.w16 0, SV.s (datW ps ps.length)], SV.b true, SV.i 0]) [{ rw := false, c := Cont.row [SV.i most, SV.w64 life, SV.mp 1] }, { rw := true, c := Cont.res s' }, { rw := true, c := Cont.row [SV.w32 a, SV.w32 b, SV.w8 c, SV.w8 ttl, SV.w16 d, SV.b stay, SV.b more, SV.w16 off, SV.s m] }, { rw := true, c := Cont.row [SV.w64 now] }, { rw := true, c := Cont.row [SV.w32 a, SV.w32 b, SV.w8 c, SV.w8 (pAt ps 0).snd.snd.snd.fst, SV.w16 d, SV.b false, SV.b false, SV.w16 0, SV.s (datW ps ps.length)] }] else bif (List.length m).ble 4294967296 then K (SV.tup [SV.agg [SV.w32 a, SV.w32 b, SV.w8 c, SV.w8 ttl, SV.w16 d, SV.b stay, SV.b more, SV.w16 off, SV.s m], SV.b true, SV.i 0]) [{ rw := false, c := Cont.row [SV.i most, SV.w64 life, SV.mp 1] }, { rw := true, c := Cont.res { mb := mb, clk := clk, es := List.filter (fun e => !e.u.ule now) es, was := false, it := none, gs := gs' } }, { rw := true, c := Cont.row ([SV.w32 a, SV.w32 b, SV.w8 c, SV.w8 ttl, SV.w16 d, SV.b stay, SV.b more, SV.w16 off, SV.s m].set 8 (SV.s m)) }, { rw := true, c := Cont.row [SV.w64 now] }, { rw := true, c := Cont.row [SV.w32 a, SV.w32 b, SV.w8 c, SV.w8 ttl, SV.w16 d, SV.b stay, SV.b more, SV.w16 off, SV.s m] }] else False) := by kernel_rfl
theorem v25 (most : Int) (life : BitVec 64) (mb clk : Nat) (es gs : List SetE) (K : SV → Mm → Prop) : (vf Try.prog ETk noL 7 [.ptr 0 0] (Mp most life mb clk es gs) K) = (bif bif false then true else most == 0 then K (SV.i 0) (Mp most life mb clk es gs) else K (SV.i (↑(stO mb clk es gs).len : Int)) (Mp most life mb clk es gs)) := by kernel_rfl
end Go.Proofs.Ytggoncamiafclab
