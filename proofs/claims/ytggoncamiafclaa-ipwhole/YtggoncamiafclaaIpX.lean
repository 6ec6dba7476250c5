/-
  ip: what gather and DeleteFunc leave, as contracts. No statement is proved here.
-/
import Derived.Test.YtggoncamiafclaaIpW
namespace Go.Proofs.Ytggoncamiafclaa
open Go.RowKit
set_option linter.unusedVariables false
set_option linter.unusedSimpArgs false
set_option maxRecDepth 100000
def Start (most : Int) (life now : BitVec 64) (n : Nm) (s s0 : St) : Prop := s0 = s ∨ (s.get n = none ∧ ¬ most ≤ (s.len : Nat) ∧ ∃ x, s0 = s.put (newE n s.clk x (now + life)))
def GErr (most : Int) (life now : BitVec 64) (n : Nm) (a : Int) (m : Tx) (more : Bool) (ttl : BitVec 8) (s s' : St) (z : Int) : Prop :=
 OkS s' ∧ ((wrE a m more ≠ 0 ∧ s' = s.del n ∧ z = wrE a m more) ∨ (wrE a m more = 0 ∧ s.get n = none ∧ most ≤ (s.len : Nat) ∧ s' = s ∧ z = 6) ∨
  (wrE a m more = 0 ∧ ∃ s0 pre e post x ps, Start most life now n s s0 ∧ OkS s0 ∧ s0.es = pre ++ e :: post ∧ e.nm = n ∧ Upd e x ps ∧
   ((AddP e.ps a m more ttl ps z ∧ z ≠ 0 ∧ s' = { s0 with es := pre ++ post, gs := s0.gs ++ [x] }) ∨ (AddP e.ps a m more ttl ps 0 ∧ wholeP ps ps.length = false ∧ s' = s0.withE (pre ++ x :: post) ∧ z = 0))))
def GMade (most : Int) (life now : BitVec 64) (n : Nm) (a : Int) (m : Tx) (more : Bool) (ttl : BitVec 8) (s s' : St) (ps : List Pc) : Prop :=
 OkS s' ∧ wrE a m more = 0 ∧ ∃ s0 pre e post x, Start most life now n s s0 ∧ OkS s0 ∧ s0.es = pre ++ e :: post ∧ e.nm = n ∧ Upd e x ps ∧ AddP e.ps a m more ttl ps 0 ∧ wholeP ps ps.length = true ∧ s' = { s0 with es := pre ++ post, gs := s0.gs ++ [x] }
def cGa : List SV → Mm → (SV → Mm → Prop) → Prop
 | [.ptr 0 0, .agg [.w32 a, .w32 b, .w8 c, .w8 ttl, .w16 d, .b _, .b more, .w16 off, .s m], .w64 now], M, K => match M with
  | [⟨false, .row [.i most, .w64 life, .mp 1]⟩, ⟨true, .res s⟩, e2, e3, e4] => vsome ((e2.c.wf 5 && e3.c.wf 5) && e4.c.wf 5) ((OkS s ∧ m.length ≤ 4294967296 ∧ ∀ e ∈ s.es, e.len ≤ 33554430) ∧
    (∀ s' z, GErr most life now ⟨a, b, c, d⟩ (8 * ((off.toNat : Nat) : Int)) m more ttl s s' z → K (errT z) [⟨false, .row [.i most, .w64 life, .mp 1]⟩, ⟨true, .res s'⟩, e2, e3, e4]) ∧
    (∀ s' ps, GMade most life now ⟨a, b, c, d⟩ (8 * ((off.toNat : Nat) : Int)) m more ttl s s' ps → K (.tup [.agg [.w32 a, .w32 b, .w8 c, .w8 (pAt ps 0).2.2.2.1, .w16 d, .b false, .b false, .w16 0, .s (datW ps ps.length)], .b true, .i 0]) [⟨false, .row [.i most, .w64 life, .mp 1]⟩, ⟨true, .res s'⟩, e2, e3, e4]))
  | _ => False
 | _, _, _ => False
theorem ga_ok : COk Try.prog G 39 cGa := by
 intro args M K h
 unfold cGa at h
 split at h
 ·rename_i a b c ttl d stay more off m now
  split at h
  ·rename_i most life s e2 e3 e4
   obtain ⟨hw, ⟨hk, hm, hf⟩, hErr, hMade⟩ := vsome_iff.1 h
   simp only [Bool.and_eq_true] at hw
   obtain ⟨⟨w2, w3⟩, w4⟩ := hw
   refine g39 most life now s e2 e3 e4 a b c ttl d stay more off m K hk hm w2 w3 w4 hf (fun h1 h2 => ?_) (fun h1 h2 h3 => ?_) (fun h1 pre e post hs hn hq => ?_) (fun h1 h2 h3 x hx hq => ?_)
   ·exact hErr _ _ ⟨h2, .inl ⟨h1, rfl, rfl⟩⟩
   ·exact hErr _ _ ⟨hk, .inr (.inl ⟨h1, h2, h3, rfl, rfl⟩)⟩
   ·exact tail_ok hk hs hn (by have := hf e (by rw [hs]; simp); omega) hq
     (fun x ps z hu hA hz hS => hErr _ _ ⟨hS, .inr (.inr ⟨h1, s, pre, e, post, x, ps, .inl rfl, hk, hs, hn, hu, .inl ⟨hA, hz, rfl⟩⟩)⟩)
     (fun x ps hu hA hW hS => hErr _ _ ⟨hS, .inr (.inr ⟨h1, s, pre, e, post, x, ps, .inl rfl, hk, hs, hn, hu, .inr ⟨hA, hW, rfl, rfl⟩⟩)⟩)
     (fun x ps hu hA hW hS => hMade _ _ ⟨hS, h1, s, pre, e, post, x, .inl rfl, hk, hs, hn, hu, hA, hW, rfl⟩)
   ·have hk0 := hk.put (n := ⟨a, b, c, d⟩) (u := now + life) h2 hx
    have hst : Start most life now ⟨a, b, c, d⟩ s (s.put (newE ⟨a, b, c, d⟩ s.clk x (now + life))) := .inr ⟨h2, h3, x, rfl⟩
    have hs0 : (s.put (newE ⟨a, b, c, d⟩ s.clk x (now + life))).es = s.es ++ newE ⟨a, b, c, d⟩ s.clk x (now + life) :: [] := rfl
    exact tail_ok (e := newE ⟨a, b, c, d⟩ s.clk x (now + life)) hk0 hs0 rfl (by show 0 + 1 ≤ 33554431; decide) hq
     (fun y ps z hu hA hz hS => hErr _ _ ⟨hS, .inr (.inr ⟨h1, _, _, _, _, y, ps, hst, hk0, hs0, rfl, hu, .inl ⟨hA, hz, rfl⟩⟩)⟩)
     (fun y ps hu hA hW hS => hErr _ _ ⟨hS, .inr (.inr ⟨h1, _, _, _, _, y, ps, hst, hk0, hs0, rfl, hu, .inr ⟨hA, hW, rfl, rfl⟩⟩)⟩)
     (fun y ps hu hA hW hS => hMade _ _ ⟨hS, h1, _, _, _, _, y, hst, hk0, hs0, rfl, hu, hA, hW, rfl⟩)
  ·exact h.elim
 ·exact h.elim
def c37 : List SV → Mm → (SV → Mm → Prop) → Prop
 | [.mp 1, .fn f [.ptr 3 0]], M, K => match M with
  | [⟨false, .row [.i most, .w64 life, .mp 1]⟩, ⟨true, .res ⟨mb, clk, es, false, none, gs⟩⟩, e2, ⟨true, .row [.w64 now]⟩, e4] => vsome ((e2.c.wf 5 && e4.c.wf 5) && Nat.beq f 38) (OkS ⟨mb, clk, es, false, none, gs⟩ ∧
    ∀ gs', OkS ⟨mb, clk, es.filter fun e => !(e.u.ule now), false, none, gs'⟩ → K (.tup []) [⟨false, .row [.i most, .w64 life, .mp 1]⟩, ⟨true, .res ⟨mb, clk, es.filter fun e => !(e.u.ule now), false, none, gs'⟩⟩, e2, ⟨true, .row [.w64 now]⟩, e4])
  | _ => False
 | _, _, _ => False
theorem df_ok : COk Try.prog G 37 c37 := by
 intro args M K h
 unfold c37 at h
 split at h
 ·rename_i f
  split at h
  ·rename_i most life mb clk es gs e2 now e4
   obtain ⟨hw, hk, hK⟩ := vsome_iff.1 h
   simp only [Bool.and_eq_true] at hw
   obtain ⟨⟨w2, w4⟩, hf⟩ := hw
   obtain rfl := Nat.eq_of_beq_eq_true hf
   exact s37 most life now mb clk es gs e2 e4 K hk w2 w4 hK
  ·exact h.elim
 ·exact h.elim
end Go.Proofs.Ytggoncamiafclaa
namespace Go.Proofs.Ytggoncamiafclaa
open Go.RowKit
set_option linter.unusedVariables false
set_option linter.unusedSimpArgs false
set_option maxRecDepth 100000
def c36 (P : Program) : List SV → Mm → (SV → Mm → Prop) → Prop := fun args M K => vf P E0 noL 36 args M K
theorem none_ok : COk Try.prog G 36 (c36 Try.prog) := fun args M K h => vf_ok e0_ok mixed (noL_ok _ _ _ _) h
def ETk : Env := { G := G, T := (T0.add 31 (cPc isPc)).add 29 cCl, C := ((noC.add 36 (c36 Try.prog)).add 37 c37).add 39 cGa }
theorem etk_ok : EnvOk Try.prog ETk := { T := PT.add_ok (PT.add_ok t0_ok isPiece_ok) clone_ok, C := CT.add_ok (CT.add_ok (CT.add_ok (noC_ok _ _) none_ok) df_ok) ga_ok }
theorem v23 (most : Int) (life now : BitVec 64) (mb clk : Nat) (es gs : List SetE) (a b : BitVec 32) (c ttl : BitVec 8) (d : BitVec 16) (stay more : Bool) (off : BitVec 16) (m : Tx) (K : SV → Mm → Prop) : (vf Try.prog ETk noL 23 [.ptr 0 0, .agg [.w32 a, .w32 b, .w8 c, .w8 ttl, .w16 d, .b stay, .b more, .w16 off, .s m], .w64 now] (Mp most life mb clk es gs) K) = (bif bif false then true else most == 0 then K (SV.tup [SV.agg [SV.w32 0, SV.w32 0, SV.w8 0, SV.w8 0, SV.w16 0, SV.b false, SV.b false, SV.w16 0, SV.s []], SV.b false, SV.i 1]) [{ rw := false, c := Cont.row [SV.i most, SV.w64 life, SV.mp 1] }, { rw := true, c := Cont.res (stO mb clk es gs) }, { rw := true, c := Cont.row [SV.w32 a, SV.w32 b, SV.w8 c, SV.w8 ttl, SV.w16 d, SV.b stay, SV.b more, SV.w16 off, SV.s m] }, { rw := true, c := Cont.row [SV.w64 now] }, { rw := true, c := Cont.row [SV.w32 0, SV.w32 0, SV.w8 0, SV.w8 0, SV.w16 0, SV.b false, SV.b false, SV.w16 0, SV.s []] }] else bif (BitVec.ofInt 64 4611686018427387904).ule now then K (SV.tup [SV.agg [SV.w32 0, SV.w32 0, SV.w8 0, SV.w8 0, SV.w16 0, SV.b false, SV.b false, SV.w16 0, SV.s []], SV.b false, SV.i 2]) [{ rw := false, c := Cont.row [SV.i most, SV.w64 life, SV.mp 1] }, { rw := true, c := Cont.res (stO mb clk es gs) }, { rw := true, c := Cont.row [SV.w32 a, SV.w32 b, SV.w8 c, SV.w8 ttl, SV.w16 d, SV.b stay, SV.b more, SV.w16 off, SV.s m] }, { rw := true, c := Cont.row [SV.w64 now] }, { rw := true, c := Cont.row [SV.w32 0, SV.w32 0, SV.w8 0, SV.w8 0, SV.w16 0, SV.b false, SV.b false, SV.w16 0, SV.s []] }] else OkS { mb := mb, clk := clk, es := es, was := false, it := none, gs := gs } ∧ ∀ (gs' : List SetE), OkS { mb := mb, clk := clk, es := List.filter (fun e => !e.u.ule now) es, was := false, it := none, gs := gs' } → bif isPc more off then (OkS { mb := mb, clk := clk, es := List.filter (fun e => !e.u.ule now) es, was := false, it := none, gs := gs' } ∧ List.length m ≤ 4294967296 ∧ ∀ (e : SetE), e ∈ List.filter (fun e => !e.u.ule now) es → e.len ≤ 33554430) ∧ (∀ (s' : St) (z : Int), GErr most life now { src := a, dst := b, proto := c, id := d } (8 * (↑off.toNat : Int)) m more ttl { mb := mb, clk := clk, es := List.filter (fun e => !e.u.ule now) es, was := false, it := none, gs := gs' } s' z → K (SV.tup [SV.agg [SV.w32 0, SV.w32 0, SV.w8 0, SV.w8 0, SV.w16 0, SV.b false, SV.b false, SV.w16 0, SV.s []], SV.b false, SV.i z]) [{ rw := false, c := Cont.row [SV.i most, SV.w64 life, SV.mp 1] }, { rw := true, c := Cont.res s' }, { rw := true, c := Cont.row [SV.w32 a, SV.w32 b, SV.w8 c, SV.w8 ttl, SV.w16 d, SV.b stay, SV.b more, SV.w16 off, SV.s m] }, { rw := true, c := Cont.row [SV.w64 now] }, { rw := true, c := Cont.row [SV.w32 0, SV.w32 0, SV.w8 0, SV.w8 0, SV.w16 0, SV.b false, SV.b false, SV.w16 0, SV.s []] }]) ∧ ∀ (s' : St) (ps : List Pc), GMade most life now { src := a, dst := b, proto := c, id := d } (8 * (↑off.toNat : Int)) m more ttl { mb := mb, clk := clk, es := List.filter (fun e => !e.u.ule now) es, was := false, it := none, gs := gs' } s' ps → K (SV.tup [SV.agg [SV.w32 a, SV.w32 b, SV.w8 c, SV.w8 (pAt ps 0).snd.snd.snd.fst, SV.w16 d, SV.b false, SV.b false, SV.w16 0, SV.s (datW ps ps.length)], SV.b true, SV.i 0]) [{ rw := false, c := Cont.row [SV.i most, SV.w64 life, SV.mp 1] }, { rw := true, c := Cont.res s' }, { rw := true, c := Cont.row [SV.w32 a, SV.w32 b, SV.w8 c, SV.w8 ttl, SV.w16 d, SV.b stay, SV.b more, SV.w16 off, SV.s m] }, { rw := true, c := Cont.row [SV.w64 now] }, { rw := true, c := Cont.row [SV.w32 a, SV.w32 b, SV.w8 c, SV.w8 (pAt ps 0).snd.snd.snd.fst, SV.w16 d, SV.b false, SV.b false, SV.w16 0, SV.s (datW ps ps.length)] }] else bif (List.length m).ble 4294967296 then K (SV.tup [SV.agg [SV.w32 a, SV.w32 b, SV.w8 c, SV.w8 ttl, SV.w16 d, SV.b stay, SV.b more, SV.w16 off, SV.s m], SV.b true, SV.i 0]) [{ rw := false, c := Cont.row [SV.i most, SV.w64 life, SV.mp 1] }, { rw := true, c := Cont.res { mb := mb, clk := clk, es := List.filter (fun e => !e.u.ule now) es, was := false, it := none, gs := gs' } }, { rw := true, c := Cont.row ([SV.w32 a, SV.w32 b, SV.w8 c, SV.w8 ttl, SV.w16 d, SV.b stay, SV.b more, SV.w16 off, SV.s m].set 8 (SV.s m)) }, { rw := true, c := Cont.row [SV.w64 now] }, { rw := true, c := Cont.row [SV.w32 a, SV.w32 b, SV.w8 c, SV.w8 ttl, SV.w16 d, SV.b stay, SV.b more, SV.w16 off, SV.s m] }] else False) := by kernel_rfl
theorem v25 (most : Int) (life : BitVec 64) (mb clk : Nat) (es gs : List SetE) (K : SV → Mm → Prop) : (vf Try.prog ETk noL 25 [.ptr 0 0] (Mp most life mb clk es gs) K) = (bif bif false then true else most == 0 then K (SV.i 0) (Mp most life mb clk es gs) else K (SV.i (↑(stO mb clk es gs).len : Int)) (Mp most life mb clk es gs)) := by kernel_rfl
end Go.Proofs.Ytggoncamiafclaa
namespace Go.Proofs.Ytggoncamiafclaa
open Go.RowKit
set_option linter.unusedVariables false
set_option linter.unusedSimpArgs false
set_option maxRecDepth 100000
def Ms (most : Int) (life : BitVec 64) (s : St) : Mm := [⟨false, .row [.i most, .w64 life, .mp 1]⟩, ⟨true, .res s⟩]
theorem spec_at {f : Nat} {xs : List SV} {M : Mm} {j k : Nat} {most : Int} {life : BitVec 64} {r0 : Bool} {s : St} {Q K : SV → Mm → Prop}
  (hj : M[j]? = some ⟨r0, .row [.i most, .w64 life, .mp k]⟩) (hk : M[k]? = some ⟨true, .res s⟩) (hS : Spec Try.prog G f (.ptr 0 0 :: xs) (Ms most life s) Q) (hx : SV.wf.wfs 0 xs = true)
  (hQ : ∀ r M1, Q r M1 → r.wf 0 = true ∧ ∃ s', M1[1]? = some ⟨true, .res s'⟩ ∧ K r (M.set k ⟨true, .res s'⟩)) : Spec Try.prog G f (.ptr j 0 :: xs) M K := by
 intro β w hR hwf
 have hne : k ≠ j := fun e => by subst e; rw [hk] at hj; cases hj
 have hrow : Holds w (β j) r0 [.int .i64 most, c64 life, .map (some (β k))] none := hR.all j _ hj rfl
 have hres := hR.all k _ hk rfl
 have hR0 : Rel G (fun i => if i = 0 then β j else β k) (Ms most life s) w := by
  refine ⟨fun i x hx hc => ?_, fun i i2 x y hx hy hij hr hxc hyc b hb hb' => ?_, fun g hg => absurd hg (by show ¬ g < 0; omega), Nat.zero_le _, fun i hi => absurd hi (by show ¬ i < 0; omega), fun i x hx => (by cases hx), fun i x hx => ?_⟩
  ·match i, hx with
   | 0, hx => cases hx; exact At.weak (r := r0) (c := .row [.i most, .w64 life, .mp k]) (β := β) hrow (fun q => by cases q)
   | 1, hx => cases hx; exact hres
  ·match i, i2, hx, hy with
   | 0, _, hx, _ => cases hx; cases hr
   | 1, 0, hx, hy => cases hx; cases hy; exact hR.dis k j _ _ hk hj hne rfl rfl rfl b hb hb'
   | 1, 1, _, _ => exact hij rfl
  ·match i, hx with
   | 0, hx => cases hx; rfl
   | 1, hx => cases hx; rfl
 have hargs : vals β (.ptr j 0 :: xs) = vals (fun i => if i = 0 then β j else β k) (.ptr 0 0 :: xs) := by
  show Value.pointer (some ⟨β j, 0, none⟩) :: vals β xs = Value.pointer (some ⟨β j, 0, none⟩) :: vals _ xs
  rw [vals_agree (n := 0) (β := (fun i => if i = 0 then β j else β k)) (β' := β) (fun k hk => absurd hk (by omega)) xs hx]
 rw [hargs]
 refine (hS _ w hR0 ?_).mono fun v w' hh => ?_
 ·show (true && SV.wf.wfs 2 xs) = true
  rw [wfs_mono (Nat.zero_le _) xs hx]; rfl
 obtain ⟨β1, M1, r, hE, hR1, ⟨hrw, rfl⟩, hQr⟩ := hh
 obtain ⟨hr0, s', hM1, hK⟩ := hQ r M1 hQr
 have hβ1 : β1 1 = β k := (hE.agree 1 (by show 1 < 2; omega)).trans rfl
 have hF : Fp (own (β k) (.res s)) w w' := hE.fp.mono fun i _ hi => by
  obtain ⟨q, x, hx, hr, ho⟩ := hi
  match q, hx with
  | 0, hx => cases hx; cases hr
  | 1, hx => cases hx; exact ho
 have hAt := hR1.all 1 _ hM1 rfl
 obtain ⟨g1, g2⟩ := hR.setR (c' := .res s') hk rfl hF rfl (fun i hi => by
  rcases hE.rws i ⟨1, _, hM1, rfl, (by rw [hβ1]; exact hi)⟩ with q | q
  ·obtain ⟨q2, x, hx, hr, ho⟩ := q
   match q2, hx with
   | 0, hx => cases hx; cases hr
   | 1, hx => cases hx; exact .inl ho
  ·exact .inr q) (fun _ => by
   have h1 : β1 1 = s'.mb ∧ RIn s'.objs w' := hAt
   exact ⟨hβ1.symm.trans h1.1, h1.2⟩)
 exact ⟨β, _, r, g2, g1, ⟨wf_mono (Nat.zero_le _) r hr0, val_agree (n := 0) (fun k hk => absurd hk (by omega)) r hr0⟩, hK⟩
def TakeP (most : Int) (life now : BitVec 64) (mb clk : Nat) (es gs : List SetE) (a b : BitVec 32) (c ttl : BitVec 8) (d : BitVec 16) (stay more : Bool) (off : BitVec 16) (m : Tx) (K1 : SV → St → Prop) : Prop :=
 bif bif false then true else most == 0 then K1 (errT 1) (stO mb clk es gs) else bif (BitVec.ofInt 64 4611686018427387904).ule now then K1 (errT 2) (stO mb clk es gs) else OkS (stO mb clk es gs) ∧ ∀ gs', OkS (stO mb clk (es.filter fun e => !(e.u.ule now)) gs') →
  bif isPc more off then (OkS (stO mb clk (es.filter fun e => !(e.u.ule now)) gs') ∧ m.length ≤ 4294967296 ∧ ∀ e, e ∈ (es.filter fun e => !(e.u.ule now)) → e.len ≤ 33554430) ∧
   (∀ s' z, GErr most life now ⟨a, b, c, d⟩ (8 * ((off.toNat : Nat) : Int)) m more ttl (stO mb clk (es.filter fun e => !(e.u.ule now)) gs') s' z → K1 (errT z) s') ∧
   (∀ s' ps, GMade most life now ⟨a, b, c, d⟩ (8 * ((off.toNat : Nat) : Int)) m more ttl (stO mb clk (es.filter fun e => !(e.u.ule now)) gs') s' ps → K1 (.tup [.agg [.w32 a, .w32 b, .w8 c, .w8 (pAt ps 0).2.2.2.1, .w16 d, .b false, .b false, .w16 0, .s (datW ps ps.length)], .b true, .i 0]) s')
  else bif Nat.ble m.length 4294967296 then K1 (.tup [.agg [.w32 a, .w32 b, .w8 c, .w8 ttl, .w16 d, .b stay, .b more, .w16 off, .s m], .b true, .i 0]) (stO mb clk (es.filter fun e => !(e.u.ule now)) gs') else False
theorem s23 (most : Int) (life now : BitVec 64) (mb clk : Nat) (es gs : List SetE) (a b : BitVec 32) (c ttl : BitVec 8) (d : BitVec 16) (stay more : Bool) (off : BitVec 16) (m : Tx) (K1 : SV → St → Prop) (h : TakeP most life now mb clk es gs a b c ttl d stay more off m K1) :
  Spec Try.prog G 23 [.ptr 0 0, .agg [.w32 a, .w32 b, .w8 c, .w8 ttl, .w16 d, .b stay, .b more, .w16 off, .s m], .w64 now] (Ms most life (stO mb clk es gs)) (fun r M1 => r.wf 0 = true ∧ ∃ s', M1[1]? = some ⟨true, .res s'⟩ ∧ (s'.was = false ∧ s'.it = none) ∧ K1 r s') := by
 refine vf_ok etk_ok mixed (noL_ok _ _ _ _) (of_eq (v23 most life now mb clk es gs a b c ttl d stay more off m _) ?_)
 unfold TakeP at h
 cases h0 : (bif false then true else most == 0) <;> rw [h0] at h
 ·cases h1 : (BitVec.ofInt 64 4611686018427387904).ule now <;> rw [h1] at h
  ·obtain ⟨h2, h3⟩ := h
   refine ⟨h2, fun gs' hg => ?_⟩
   have h4 := h3 gs' hg
   cases hp : isPc more off <;> rw [hp] at h4
   ·cases hl : Nat.ble m.length 4294967296 <;> rw [hl] at h4
    ·exact h4.elim
    ·rw [cond_false]
     refine bif_of rfl ?_
     exact ⟨rfl, _, rfl, ⟨rfl, rfl⟩, h4⟩
   ·obtain ⟨h5, h6, h7⟩ := h4
    exact ⟨h5, fun s' z hz => ⟨rfl, s', rfl, ⟨hz.1.map, hz.1.it⟩, h6 s' z hz⟩, fun s' ps hz => ⟨rfl, s', rfl, ⟨hz.1.map, hz.1.it⟩, h7 s' ps hz⟩⟩
  ·exact ⟨rfl, _, rfl, ⟨rfl, rfl⟩, h⟩
 ·exact ⟨rfl, _, rfl, ⟨rfl, rfl⟩, h⟩
def cTk : List SV → Mm → (SV → Mm → Prop) → Prop
 | [.ptr j 0, .agg [.w32 a, .w32 b, .w8 c, .w8 ttl, .w16 d, .b stay, .b more, .w16 off, .s m], .w64 now], M, K => match (M[j]? : Option Ent) with
  | some ⟨_, .row [.i most, .w64 life, .mp k]⟩ => match (M[k]? : Option Ent) with
   | some ⟨true, .res ⟨mb, clk, es, false, none, gs⟩⟩ => TakeP most life now mb clk es gs a b c ttl d stay more off m fun r s' => setK M k ⟨true, .res ⟨s'.mb, s'.clk, s'.es, false, none, s'.gs⟩⟩ fun M2 => K r M2
   | _ => False
  | _ => False
 | _, _, _ => False
theorem take_ok : COk Try.prog G 23 cTk := by
 intro args M K h
 unfold cTk at h
 split at h
 ·rename_i j a b c ttl d stay more off m now
  split at h
  ·rename_i r0 most life k hj
   split at h
   ·rename_i mb clk es gs hk
    refine spec_at hj hk (s23 most life now mb clk es gs a b c ttl d stay more off m _ h) rfl (fun r M1 hh => ?_)
    obtain ⟨h1, s', h2, ⟨h4, h5⟩, h3⟩ := hh
    rw [setK_eq] at h3
    have e : (⟨s'.mb, s'.clk, s'.es, false, none, s'.gs⟩ : St) = s' := by rw [← h4, ← h5]
    rw [e] at h3
    exact ⟨h1, s', h2, h3⟩
   ·exact h.elim
  ·exact h.elim
 ·exact h.elim
def cWt : List SV → Mm → (SV → Mm → Prop) → Prop
 | [.ptr j 0], M, K => match (M[j]? : Option Ent) with
  | some ⟨_, .row [.i most, .w64 life, .mp k]⟩ => match (M[k]? : Option Ent) with
   | some ⟨true, .res ⟨mb, clk, es, false, none, gs⟩⟩ => setK M k ⟨true, .res ⟨mb, clk, es, false, none, gs⟩⟩ fun M2 => K (.i (bif most == 0 then 0 else ((es.length : Nat) : Int))) M2
   | _ => False
  | _ => False
 | _, _, _ => False
theorem waits_ok : COk Try.prog G 25 cWt := by
 intro args M K h
 unfold cWt at h
 split at h
 ·rename_i j
  split at h
  ·rename_i r0 most life k hj
   split at h
   ·rename_i mb clk es gs hk
    rw [setK_eq] at h
    have hS : Spec Try.prog G 25 [.ptr 0 0] (Ms most life (stO mb clk es gs)) (fun r M1 => r = .i (bif most == 0 then 0 else ((es.length : Nat) : Int)) ∧ M1 = Ms most life (stO mb clk es gs)) := by
     refine vf_ok etk_ok mixed (noL_ok _ _ _ _) (of_eq (v25 most life mb clk es gs _) ?_)
     cases hm : (most == 0)
     ·exact ⟨rfl, rfl⟩
     ·exact ⟨rfl, rfl⟩
    refine spec_at hj hk hS rfl (fun r M1 hh => ?_)
    obtain ⟨rfl, rfl⟩ := hh
    exact ⟨rfl, _, rfl, h⟩
   ·exact h.elim
  ·exact h.elim
 ·exact h.elim
def cNw (P : Program) : List SV → Mm → (SV → Mm → Prop) → Prop := fun args M K => vf P EH noL 21 args M K
theorem new_ok : COk Try.prog G 21 (cNw Try.prog) := fun args M K h => vf_ok eh_ok mixed (noL_ok _ _ _ _) h
end Go.Proofs.Ytggoncamiafclaa
