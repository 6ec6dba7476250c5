/-
  ip: sets whose time has come. No statement is proved here.
-/
import Derived.Test.YtggoncamiafclabIpV
namespace Go.Proofs.Ytggoncamiafclab
open Go.RowKit
set_option linter.unusedVariables false
set_option linter.unusedSimpArgs false
set_option maxRecDepth 100000

def M38 (u : BitVec 64) (sl : Value) (now : BitVec 64) : Mm := [⟨false, .row [.w64 u, .v sl]⟩, ⟨false, .row [.w64 now]⟩]
theorem v38 (u : BitVec 64) (sl : Value) (now : BitVec 64) (a b : BitVec 32) (c : BitVec 8) (d : BitVec 16) (K : SV → Prop) : (vf Try.prog E0 noL 13 [.agg [.w32 a, .w32 b, .w8 c, .w16 d], .ptr 0 0, .ptr 1 0] (M38 u sl now) (fun r _ => K r)) = (K (SV.b (u.ule now))) := by kernel_rfl
def c38 : List SV → Mm → (SV → Mm → Prop) → Prop
  | [.agg [.w32 _, .w32 _, .w8 _, .w16 _], .v (.pointer (some ⟨b, 0, none⟩)), .ptr j 0], M, K => resAt M fun s => match (M[j]? : Option Ent) with
    | some ⟨_, .row [.w64 now]⟩ => (∃ e, e ∈ s.es ∧ e.sb = b) ∧ ∀ e, e ∈ s.es → e.sb = b → K (.b (e.u.ule now)) M
    | _ => False
  | _, _, _ => False
theorem c38_ok : COk Try.prog G 13 c38 := by
  intro args M K h
  unfold c38 at h
  split at h
  · rename_i a b c d bb j
    obtain ⟨s, hk, hw, hK⟩ := resAt_ok h
    split at hK
    · rename_i r now hj
      obtain ⟨⟨e, he, rfl⟩, hK⟩ := hK
      intro β w hR hwf
      obtain ⟨hb, hRi⟩ := hR.at_res hk
      have hh : Holds w e.sb true [c64 e.u, e.sl] none := by
        refine hRi.all (e.sb, .cells [c64 e.u, e.sl] none) ?_
        rw [res_objs hw]
        exact List.mem_cons_of_mem _ (List.mem_flatMap.2 ⟨e, List.mem_append_right _ he, List.mem_cons_self ..⟩)
      have hrow : Holds w (β j) r [c64 now] none := hR.all j _ hj rfl
      have noRw : ∀ (k : Nat) (x : Ent), (M38 e.u e.sl now)[k]? = some x → x.rw = false := fun k x hx => by
        match k, hx with
        | 0, hx => cases hx; rfl
        | 1, hx => cases hx; rfl
      have hR0 : Rel G (fun i => if i = 0 then e.sb else β j) (M38 e.u e.sl now) w := by
        refine ⟨fun k x hx hc => ?_, fun i j x y hx hy hij hr => (by rw [noRw i x hx] at hr; cases hr), fun g hg => absurd hg (by show ¬ g < 0; omega), Nat.zero_le _, fun k hk => absurd hk (by show ¬ k < 0; omega), fun k x hx => (by cases hx), fun k x hx => ?_⟩
        · match k, hx with
          | 0, hx => cases hx; exact At.weak (r := true) (c := .row [.w64 e.u, .v e.sl]) hh (fun q => by cases q)
          | 1, hx => cases hx; exact At.weak (r := r) (c := .row [.w64 now]) hrow (fun q => by cases q)
        · match k, hx with
          | 0, hx => cases hx; rfl
          | 1, hx => cases hx; rfl
      have hS : Spec Try.prog G 13 [.agg [.w32 a, .w32 b, .w8 c, .w16 d], .ptr 0 0, .ptr 1 0] (M38 e.u e.sl now) (fun r _ => r = .b (e.u.ule now)) := vf_ok e0_ok mixed (noL_ok _ _ _ _) (of_eq (v38 e.u e.sl now a b c d (fun r => r = .b (e.u.ule now))) rfl)
      refine (hS _ w hR0 rfl).mono fun v w' hh => ?_
      obtain ⟨β1, M1, r1, hE, hR1, ⟨-, rfl⟩, rfl⟩ := hh
      have hF : Fp0 w w' := hE.fp.mono fun i _ hi => by
        obtain ⟨k, x, hx, hr, -⟩ := hi
        rw [noRw k x hx] at hr; cases hr
      exact ⟨β, M, .b (e.u.ule now), Ext.step hF, hR.step hF, ⟨rfl, rfl⟩, hK e he rfl⟩
    · exact hK.elim
  · exact h.elim
def E37 : Env := { G := G, T := T0, C := noC.add 13 c38, H := hIt }
def Mi37 (most : Int) (life now : BitVec 64) (mb clk : Nat) (es gs : List SetE) (e2 e4 : Ent) (x : Nat) (seen : List Nat) : Mm := [⟨false, .row [.i most, .w64 life, .mp 1]⟩, ⟨true, .res (stO mb clk es gs)⟩, e2, ⟨true, .row [.w64 now]⟩, e4, ⟨true, .res (itO x mb clk seen)⟩]
theorem e37_ok : EnvOk Try.prog E37 := { T := t0_ok, C := CT.add_ok (noC_ok _ _) c38_ok, H := hIt_ok _ }
abbrev S37 := List SetE × List SetE × List Nat
def I37 : List (Nat × SV) := [(0, .mp 1), (1, .fn 13 [.ptr 3 0]), (7, .ptr 5 0)]
def sel37 (fr : List SV) (M : Mm) : Option (S37 × List Nat) := match (M[1]? : Option Ent), (M[5]? : Option Ent) with
  | some ⟨_, .res ⟨_, _, es, _, _, gs⟩⟩, some ⟨_, .res ⟨_, _, _, _, some (_, _, seen), _⟩⟩ => some ((es, gs, seen), [5])
  | _, _ => none
theorem r37 (most : Int) (life now : BitVec 64) (mb clk : Nat) (es0 gs0 es gs : List SetE) (e2 e4 : Ent) (x : Nat) (seen : List Nat) (A : S37 → Prop) (q : Prop) : (frK 19 I37 fun fr => vround Try.prog E37 noL 12 0 fr (Mi37 most life now mb clk es gs e2 e4 x seen) (Kp (Mq most life (stO mb clk es0 gs0) e2 ⟨true, .row [.w64 now]⟩ e4) 0 19 sel37 A (fun _ => I37) (fun i => Mi37 most life now mb clk i.1 i.2.1 e2 e4 x i.2.2) q [] (Mi37 most life now mb clk es gs e2 e4 x seen))) = ((mb = mb ∧ clk = clk ∧ ∀ (e : SetE), e ∈ es → e.born < clk) ∧ ((∀ (e : SetE), e ∈ es → e.born ∈ seen) → 0 = 0 ∧ q ∧ (false = false ∧ Cont.row [SV.i most, SV.w64 life, SV.mp 1] = Cont.row [SV.i most, SV.w64 life, SV.mp 1]) ∧ (true = true ∧ Cont.res (stO mb clk es gs) = Cont.res (stO mb clk es gs)) ∧ (e2.1 = e2.1 ∧ e2.2 = e2.2) ∧ bif Cont.wf (List.length (Mi37 most life now mb clk es gs e2 e4 x seen)) e2.2 then (true = true ∧ Cont.row [SV.w64 now] = Cont.row [SV.w64 now]) ∧ (e4.1 = e4.1 ∧ e4.2 = e4.2) ∧ bif Cont.wf (List.length (Mi37 most life now mb clk es gs e2 e4 x seen)) e4.2 then (true = true ∧ Cont.res (itO x mb clk seen) = Cont.res (itO x mb clk seen)) ∧ True else False else False) ∧ ∀ (e : SetE), e ∈ es → ¬e.born ∈ seen → (mb = mb ∧ clk = clk ∧ List.Pairwise (fun x1 x2 => x1 ≠ x2) (List.map (fun x => x.born) es) ∧ ∃ e_1 seen', e_1 ∈ es ∧ seen ++ [e.born] = seen' ++ [e_1.born]) ∧ ∀ (e_1 : SetE) (seen' : List Nat), e_1 ∈ es → seen ++ [e.born] = seen' ++ [e_1.born] → (∃ e, e ∈ es ∧ e.sb = e_1.sb) ∧ ∀ (e_2 : SetE), e_2 ∈ es → e_2.sb = e_1.sb → bif e_2.u.ule now then A (List.eraseP (isNm { src := e_1.nm.src, dst := e_1.nm.dst, proto := e_1.nm.proto, id := e_1.nm.id }) es, gs ++ ((stO mb clk es gs).get { src := e_1.nm.src, dst := e_1.nm.dst, proto := e_1.nm.proto, id := e_1.nm.id }).toList, seen ++ [e.born]) ∧ SV.mp 1 = ren (sig (List.length (Mq most life (stO mb clk es0 gs0) e2 { rw := true, c := Cont.row [SV.w64 now] } e4)) [5]) (SV.mp 1) ∧ SV.fn 13 [SV.ptr 3 0] = ren (sig (List.length (Mq most life (stO mb clk es0 gs0) e2 { rw := true, c := Cont.row [SV.w64 now] } e4)) [5]) (SV.fn 13 [SV.ptr 3 0]) ∧ SV.ptr 5 0 = ren (sig (List.length (Mq most life (stO mb clk es0 gs0) e2 { rw := true, c := Cont.row [SV.w64 now] } e4)) [5]) (SV.ptr 5 0) ∧ (false = false ∧ Cont.row [SV.i most, SV.w64 life, SV.mp 1] = Cont.ren (sig (List.length (Mq most life (stO mb clk es0 gs0) e2 { rw := true, c := Cont.row [SV.w64 now] } e4)) [5]) (Cont.row [SV.i most, SV.w64 life, SV.mp 1])) ∧ (true = true ∧ Cont.res ((stO mb clk es gs).del { src := e_1.nm.src, dst := e_1.nm.dst, proto := e_1.nm.proto, id := e_1.nm.id }) = Cont.ren (sig (List.length (Mq most life (stO mb clk es0 gs0) e2 { rw := true, c := Cont.row [SV.w64 now] } e4)) [5]) (Cont.res (stO mb clk (List.eraseP (isNm { src := e_1.nm.src, dst := e_1.nm.dst, proto := e_1.nm.proto, id := e_1.nm.id }) es) (gs ++ ((stO mb clk es gs).get { src := e_1.nm.src, dst := e_1.nm.dst, proto := e_1.nm.proto, id := e_1.nm.id }).toList)))) ∧ (e2.1 = e2.1 ∧ e2.2 = Cont.ren (sig (List.length (Mq most life (stO mb clk es0 gs0) e2 { rw := true, c := Cont.row [SV.w64 now] } e4)) [5]) e2.2) ∧ bif Cont.wf (List.length (Mi37 most life now mb clk (List.eraseP (isNm { src := e_1.nm.src, dst := e_1.nm.dst, proto := e_1.nm.proto, id := e_1.nm.id }) es) (gs ++ ((stO mb clk es gs).get { src := e_1.nm.src, dst := e_1.nm.dst, proto := e_1.nm.proto, id := e_1.nm.id }).toList) e2 e4 x (seen ++ [e.born]))) e2.2 && (e2.1 || Cont.wf (List.length (Mq most life (stO mb clk es0 gs0) e2 { rw := true, c := Cont.row [SV.w64 now] } e4)) e2.2) then (true = true ∧ Cont.row [SV.w64 now] = Cont.ren (sig (List.length (Mq most life (stO mb clk es0 gs0) e2 { rw := true, c := Cont.row [SV.w64 now] } e4)) [5]) (Cont.row [SV.w64 now])) ∧ (e4.1 = e4.1 ∧ e4.2 = Cont.ren (sig (List.length (Mq most life (stO mb clk es0 gs0) e2 { rw := true, c := Cont.row [SV.w64 now] } e4)) [5]) e4.2) ∧ bif Cont.wf (List.length (Mi37 most life now mb clk (List.eraseP (isNm { src := e_1.nm.src, dst := e_1.nm.dst, proto := e_1.nm.proto, id := e_1.nm.id }) es) (gs ++ ((stO mb clk es gs).get { src := e_1.nm.src, dst := e_1.nm.dst, proto := e_1.nm.proto, id := e_1.nm.id }).toList) e2 e4 x (seen ++ [e.born]))) e4.2 && (e4.1 || Cont.wf (List.length (Mq most life (stO mb clk es0 gs0) e2 { rw := true, c := Cont.row [SV.w64 now] } e4)) e4.2) then (true = true ∧ Cont.res (itO x mb clk (seen ++ [e.born])) = Cont.ren (sig (List.length (Mq most life (stO mb clk es0 gs0) e2 { rw := true, c := Cont.row [SV.w64 now] } e4)) [5]) (Cont.res (itO x mb clk (seen ++ [e.born])))) ∧ True else False else False else A (es, gs, seen ++ [e.born]) ∧ SV.mp 1 = ren (sig (List.length (Mq most life (stO mb clk es0 gs0) e2 { rw := true, c := Cont.row [SV.w64 now] } e4)) [5]) (SV.mp 1) ∧ SV.fn 13 [SV.ptr 3 0] = ren (sig (List.length (Mq most life (stO mb clk es0 gs0) e2 { rw := true, c := Cont.row [SV.w64 now] } e4)) [5]) (SV.fn 13 [SV.ptr 3 0]) ∧ SV.ptr 5 0 = ren (sig (List.length (Mq most life (stO mb clk es0 gs0) e2 { rw := true, c := Cont.row [SV.w64 now] } e4)) [5]) (SV.ptr 5 0) ∧ (false = false ∧ Cont.row [SV.i most, SV.w64 life, SV.mp 1] = Cont.ren (sig (List.length (Mq most life (stO mb clk es0 gs0) e2 { rw := true, c := Cont.row [SV.w64 now] } e4)) [5]) (Cont.row [SV.i most, SV.w64 life, SV.mp 1])) ∧ (true = true ∧ Cont.res (stO mb clk es gs) = Cont.ren (sig (List.length (Mq most life (stO mb clk es0 gs0) e2 { rw := true, c := Cont.row [SV.w64 now] } e4)) [5]) (Cont.res (stO mb clk es gs))) ∧ (e2.1 = e2.1 ∧ e2.2 = Cont.ren (sig (List.length (Mq most life (stO mb clk es0 gs0) e2 { rw := true, c := Cont.row [SV.w64 now] } e4)) [5]) e2.2) ∧ bif Cont.wf (List.length (Mi37 most life now mb clk es gs e2 e4 x (seen ++ [e.born]))) e2.2 && (e2.1 || Cont.wf (List.length (Mq most life (stO mb clk es0 gs0) e2 { rw := true, c := Cont.row [SV.w64 now] } e4)) e2.2) then (true = true ∧ Cont.row [SV.w64 now] = Cont.ren (sig (List.length (Mq most life (stO mb clk es0 gs0) e2 { rw := true, c := Cont.row [SV.w64 now] } e4)) [5]) (Cont.row [SV.w64 now])) ∧ (e4.1 = e4.1 ∧ e4.2 = Cont.ren (sig (List.length (Mq most life (stO mb clk es0 gs0) e2 { rw := true, c := Cont.row [SV.w64 now] } e4)) [5]) e4.2) ∧ bif Cont.wf (List.length (Mi37 most life now mb clk es gs e2 e4 x (seen ++ [e.born]))) e4.2 && (e4.1 || Cont.wf (List.length (Mq most life (stO mb clk es0 gs0) e2 { rw := true, c := Cont.row [SV.w64 now] } e4)) e4.2) then (true = true ∧ Cont.res (itO x mb clk (seen ++ [e.born])) = Cont.ren (sig (List.length (Mq most life (stO mb clk es0 gs0) e2 { rw := true, c := Cont.row [SV.w64 now] } e4)) [5]) (Cont.res (itO x mb clk (seen ++ [e.born])))) ∧ True else False else False) := by kernel_rfl
def L37 (most : Int) (life now : BitVec 64) (mb clk : Nat) (es gs : List SetE) (e2 e4 : Ent) (Q : List SetE → List SetE → Prop) : LT := noL.add 0 fun fr M K => match (M[5]? : Option Ent) with
  | some ⟨_, .res s⟩ => vLe (Mq most life (stO mb clk es gs) e2 ⟨true, .row [.w64 now]⟩ e4) fr M 19 I37 (Mi37 most life now mb clk es gs e2 e4 s.mb []) (∀ es' gs' seen, Q es' gs' → frK 19 [] fun fr1 => K .normal fr1 (Mi37 most life now mb clk es' gs' e2 e4 s.mb seen))
  | _ => False
theorem v37 (most : Int) (life now : BitVec 64) (mb clk : Nat) (es gs : List SetE) (e2 e4 : Ent) (Q : List SetE → List SetE → Prop) (K : SV → Mm → Prop) : (vf Try.prog E37 (L37 most life now mb clk es gs e2 e4 Q) 12 [.mp 1, .fn 13 [.ptr 3 0]] (Mq most life (stO mb clk es gs) e2 ⟨true, .row [.w64 now]⟩ e4) K) = (∀ (x : Nat), loopOf Try.prog 12 0 = loopOf Try.prog 12 0 ∧ SV.mp 1 = SV.mp 1 ∧ SV.fn 13 [SV.ptr 3 0] = SV.fn 13 [SV.ptr 3 0] ∧ SV.ptr (List.length (Mq most life (stO mb clk es gs) e2 { rw := true, c := Cont.row [SV.w64 now] } e4)) 0 = SV.ptr 5 0 ∧ (false = false ∧ Cont.row [SV.i most, SV.w64 life, SV.mp 1] = Cont.row [SV.i most, SV.w64 life, SV.mp 1]) ∧ (true = true ∧ Cont.res (stO mb clk es gs) = Cont.res (stO mb clk es gs)) ∧ (e2.1 = e2.1 ∧ e2.2 = e2.2) ∧ bif Cont.wf (List.length (Mi37 most life now mb clk es gs e2 e4 x [])) e2.2 then (true = true ∧ Cont.row [SV.w64 now] = Cont.row [SV.w64 now]) ∧ (e4.1 = e4.1 ∧ e4.2 = e4.2) ∧ bif Cont.wf (List.length (Mi37 most life now mb clk es gs e2 e4 x [])) e4.2 then (true = true ∧ Cont.res (itO x mb clk []) = Cont.res (itO x mb clk [])) ∧ ∀ (es' gs' : List SetE) (seen : List Nat), Q es' gs' → K (SV.tup []) (Mi37 most life now mb clk es' gs' e2 e4 x seen) else False else False) := by kernel_rfl
theorem inj_map {α β : Type} (f : α → β) : ∀ {l : List α}, (l.map f).Nodup → ∀ {a b : α}, a ∈ l → b ∈ l → f a = f b → a = b
  | [], _, _, _, h, _, _ => by cases h
  | x :: l, hn, a, b, ha, hb, hf => by
    rw [List.map_cons, List.nodup_cons] at hn
    rcases List.mem_cons.1 ha with h1 | h1
    · rcases List.mem_cons.1 hb with h2 | h2
      · rw [h1, h2]
      · exact absurd (List.mem_map.2 ⟨b, h2, by rw [← hf, h1]⟩) hn.1
    · rcases List.mem_cons.1 hb with h2 | h2
      · exact absurd (List.mem_map.2 ⟨a, h1, by rw [hf, h2]⟩) hn.1
      · exact inj_map f hn.2 h1 h2 hf
theorem count_lt {α : Type} {p q : α → Bool} : ∀ {l : List α} {e : α}, (∀ y, q y = true → p y = true) → e ∈ l → p e = true → q e = false → l.countP q < l.countP p
  | [], _, _, h, _, _ => by cases h
  | x :: l, e, hpq, he, h1, h2 => by
    have hle : l.countP q ≤ l.countP p := List.countP_mono_left fun y _ => hpq y
    rw [List.countP_cons, List.countP_cons]
    rcases List.mem_cons.1 he with rfl | he
    · rw [h1, h2]; simp; omega
    · have ih := count_lt hpq he h1 h2
      cases hq : q x
      · simp; omega
      · rw [hpq x hq]; simp; omega
def st37 (now : BitVec 64) (seen : List Nat) (e : SetE) : Bool := !(decide (e.born ∈ seen) && e.u.ule now)
theorem del_filter {es0 : List SetE} {now : BitVec 64} {seen : List Nat} {e : SetE} (hb : (es0.map (·.born)).Nodup) (hn : (es0.map (·.nm)).Nodup) (he : e ∈ es0) (hu : e.u.ule now = true) : (es0.filter (st37 now seen)).eraseP (isNm e.nm) = es0.filter (st37 now (seen ++ [e.born])) := by
  induction es0 with
  | nil => cases he
  | cons y l ih =>
    have hb' := hb; have hn' := hn
    rw [List.map_cons, List.nodup_cons] at hb' hn'
    rcases List.mem_cons.1 he with rfl | he
    · have hl : l.filter (st37 now seen) = l.filter (st37 now (seen ++ [e.born])) := List.filter_congr fun z hz => by
        have hne : z.born ≠ e.born := fun q => hb'.1 (List.mem_map.2 ⟨z, hz, q⟩)
        unfold st37; simp [hne]
      have h2 : st37 now (seen ++ [e.born]) e = false := by unfold st37; simp [hu]
      rw [List.filter_cons, List.filter_cons, h2]
      have hnot : (l.filter (st37 now seen)).eraseP (isNm e.nm) = l.filter (st37 now seen) := List.eraseP_of_forall_not fun z hz hq => hn'.1 (List.mem_map.2 ⟨z, (List.mem_filter.1 hz).1, (of_decide_eq_true hq).symm⟩)
      cases hs : st37 now seen e
      · simp only [Bool.false_eq_true, if_false]
        rw [hnot, hl]
      · simp only [if_true, Bool.false_eq_true, if_false]
        rw [List.eraseP_cons, show isNm e.nm e = true from decide_eq_true rfl]
        exact hl
    · have hne : y.born ≠ e.born := fun q => hb'.1 (List.mem_map.2 ⟨e, he, q.symm⟩)
      have hnn : isNm e.nm y = false := decide_eq_false fun q => hn'.1 (List.mem_map.2 ⟨e, he, q⟩)
      have hs : st37 now (seen ++ [e.born]) y = st37 now seen y := by unfold st37; simp [hne]
      rw [List.filter_cons, List.filter_cons, hs]
      cases hq : st37 now seen y
      · simp only [Bool.false_eq_true, if_false]
        exact ih hb'.2 hn'.2 he
      · simp only [if_true]
        rw [List.eraseP_cons, hnn]
        exact congrArg (y :: ·) (ih hb'.2 hn'.2 he)
theorem keep_filter {es0 : List SetE} {now : BitVec 64} {seen : List Nat} {e : SetE} (hb : (es0.map (·.born)).Nodup) (he : e ∈ es0) (hu : e.u.ule now = false) : es0.filter (st37 now seen) = es0.filter (st37 now (seen ++ [e.born])) := List.filter_congr fun z hz => by
  unfold st37
  by_cases q : z.born = e.born
  · obtain rfl := inj_map (·.born) hb hz he q
    simp [hu]
  · simp [q]
def p37 (mb clk : Nat) (es0 : List SetE) (now : BitVec 64) (i : S37) : Prop := OkS (stO mb clk i.1 i.2.1) ∧ i.1 = es0.filter (st37 now i.2.2)
theorem l37_ok (most : Int) (life now : BitVec 64) (mb clk : Nat) (es gs : List SetE) (e2 e4 : Ent) (hk : OkS (stO mb clk es gs)) (he2 : e2.c.wf 5 = true) (he4 : e4.c.wf 5 = true) : LOk Try.prog G (Mq most life (stO mb clk es gs) e2 ⟨true, .row [.w64 now]⟩ e4) 12 (L37 most life now mb clk es gs e2 e4 (fun es' gs' => OkS (stO mb clk es' gs') ∧ es' = es.filter fun e => !(e.u.ule now))) := by
  refine LT.add_ok (noL_ok _ _ _ _) fun fr M K h => ?_
  split at h
  · rename_i b s hs
    obtain ⟨hle, hK⟩ := vLe_ok h
    have w6 : ∀ {c : Cont}, c.wf 5 = true → c.wf 6 = true := fun {c} hc => cwf_mono (by omega) c hc
    have rn : ∀ {c : Cont}, c.wf 5 = true → c = c.ren (sig 5 [5]) := fun {c} hc => (cren_id (n := 5) (fun k hk => by unfold sig; rw [show Nat.blt k 5 = true by rw [Nat.blt_eq]; exact hk]; rfl) c hc).symm
    have two : ∀ {c : Ent}, c.c.wf 5 = true → (c.c.wf 6 && (c.rw || c.c.wf 5)) = true := fun {c} hc => by rw [w6 hc, hc, Bool.or_true]; rfl
    refine loop_pick e37_ok mixed (by show 0 ≤ 5; decide) (by kernel_rfl) (fun _ => I37) (fun i => Mi37 most life now mb clk i.1 i.2.1 e2 e4 s.mb i.2.2) (p37 mb clk es now) (fun i => i.1.countP (fun e => decide (e.born ∉ i.2.2))) (fun _ => sel37) (fun i => ∀ e, e ∈ i.1 → e.born ∈ i.2.2) (fun _ => []) (fun i => Mi37 most life now mb clk i.1 i.2.1 e2 e4 s.mb i.2.2) (es, gs, []) ⟨hk, (List.filter_eq_self.2 fun e _ => by unfold st37; simp).symm⟩ (fun _ => noL) (fun _ _ => noL_ok _ _ _ _) (fun i hp => ?_) hle (fun i hp hq => ?_)
    · obtain ⟨es', gs', seen⟩ := i
      obtain ⟨h1, h2⟩ := hp
      have h2 : es' = es.filter (st37 now seen) := h2
      refine of_eq (r37 most life now mb clk es gs es' gs' e2 e4 s.mb seen _ _) ⟨⟨rfl, rfl, h1.lt⟩, fun hq => ⟨rfl, hq, ⟨rfl, rfl⟩, ⟨rfl, rfl⟩, ⟨rfl, rfl⟩, bif_of (w6 he2) ⟨⟨rfl, rfl⟩, ⟨rfl, rfl⟩, bif_of (w6 he4) ⟨⟨rfl, rfl⟩, trivial⟩⟩⟩, fun e he hn => ⟨⟨rfl, rfl, h1.bns, e, seen, he, rfl⟩, fun e1 seen1 he1 hs1 => ⟨⟨e1, he1, rfl⟩, fun e3 he3 hsb => ?_⟩⟩⟩
      have hb1 : e.born = e1.born := by
        have := congrArg (fun l : List Nat => l.getLast?) hs1
        simpa using this
      obtain rfl : e = e1 := inj_map (·.born) h1.bns he he1 hb1
      obtain rfl : e3 = e := inj_map (·.sb) h1.sbE he3 he hsb
      have he0 : e3 ∈ es := by rw [h2] at he; exact (List.mem_filter.1 he).1
      have cnt : es'.countP (fun y => decide (y.born ∉ seen ++ [e3.born])) < es'.countP (fun y => decide (y.born ∉ seen)) := count_lt (e := e3) (fun y hy => decide_eq_true fun q => of_decide_eq_true hy (List.mem_append_left _ q)) he (decide_eq_true hn) (by simp)
      cases hu : e3.u.ule now
      · refine ⟨⟨⟨h1, by rw [h2]; exact keep_filter hk.bns he0 hu⟩, cnt⟩, rfl, rfl, rfl, ⟨rfl, rfl⟩, ⟨rfl, rfl⟩, ⟨rfl, rn he2⟩, bif_of (two he2) ⟨⟨rfl, rfl⟩, ⟨rfl, rn he4⟩, bif_of (two he4) ⟨⟨rfl, rfl⟩, trivial⟩⟩⟩
      · refine ⟨⟨⟨h1.del e3.nm, by show es'.eraseP (isNm e3.nm) = _; rw [h2]; exact del_filter hk.bns hk.nms he0 hu⟩, Nat.lt_of_le_of_lt ?_ cnt⟩, rfl, rfl, rfl, ⟨rfl, rfl⟩, ⟨rfl, rfl⟩, ⟨rfl, rn he2⟩, bif_of (two he2) ⟨⟨rfl, rfl⟩, ⟨rfl, rn he4⟩, bif_of (two he4) ⟨⟨rfl, rfl⟩, trivial⟩⟩⟩
        exact (List.eraseP_sublist (p := isNm e3.nm) (l := es')).countP_le
    · obtain ⟨es', gs', seen⟩ := i
      obtain ⟨h1, h2⟩ := hp
      have h2 : es' = es.filter (st37 now seen) := h2
      have := hK es' gs' seen ⟨h1, ?_⟩
      · rw [frK_eq] at this
        exact this
      · have hq : ∀ e, e ∈ es' → e.born ∈ seen := hq
        rw [h2] at hq ⊢
        refine List.filter_congr fun e he => ?_
        unfold st37
        cases hu : e.u.ule now
        · simp
        · cases hd : decide (e.born ∈ seen)
          · have hm : e ∈ es.filter (st37 now seen) := List.mem_filter.2 ⟨he, by unfold st37; rw [hd]; rfl⟩
            exact absurd (hq e hm) (of_decide_eq_false hd)
          · rfl
  · exact h.elim
theorem s37 (most : Int) (life now : BitVec 64) (mb clk : Nat) (es gs : List SetE) (e2 e4 : Ent) (K : SV → Mm → Prop) (hk : OkS (stO mb clk es gs)) (he2 : e2.c.wf 5 = true) (he4 : e4.c.wf 5 = true)
    (hK : ∀ gs', OkS (stO mb clk (es.filter fun e => !(e.u.ule now)) gs') → K (.tup []) (Mq most life (stO mb clk (es.filter fun e => !(e.u.ule now)) gs') e2 ⟨true, .row [.w64 now]⟩ e4)) :
    Spec Try.prog G 12 [.mp 1, .fn 13 [.ptr 3 0]] (Mq most life (stO mb clk es gs) e2 ⟨true, .row [.w64 now]⟩ e4) K := by
  have w6 : ∀ {c : Cont}, c.wf 5 = true → c.wf 6 = true := fun {c} hc => cwf_mono (by omega) c hc
  refine spec_cut (vf_ok e37_ok mixed (l37_ok most life now mb clk es gs e2 e4 hk he2 he4) (of_eq (v37 most life now mb clk es gs e2 e4 _ (fun r M1 => r = .tup [] ∧ ∃ es' gs' x seen, (OkS (stO mb clk es' gs') ∧ es' = es.filter fun e => !(e.u.ule now)) ∧ M1 = Mi37 most life now mb clk es' gs' e2 e4 x seen)) fun x => ⟨rfl, rfl, rfl, rfl, ⟨rfl, rfl⟩, ⟨rfl, rfl⟩, ⟨rfl, rfl⟩, bif_of (w6 he2) ⟨⟨rfl, rfl⟩, ⟨rfl, rfl⟩, bif_of (w6 he4) ⟨⟨rfl, rfl⟩, fun es' gs' seen hq => ⟨rfl, es', gs', x, seen, hq, rfl⟩⟩⟩⟩)) (fun r M1 hh => ?_)
  obtain ⟨rfl, es', gs', x, seen, ⟨h1, rfl⟩, rfl⟩ := hh
  refine ⟨rfl, fun e he => ?_, hK gs' h1⟩
  have he : e ∈ Mq most life (stO mb clk (es.filter fun e => !(e.u.ule now)) gs') e2 ⟨true, .row [.w64 now]⟩ e4 := he
  simp only [Mq, List.mem_cons, List.not_mem_nil, or_false] at he
  rcases he with rfl | rfl | rfl | rfl | rfl
  · rfl
  · rfl
  · exact he2
  · rfl
  · exact he4
end Go.Proofs.Ytggoncamiafclab
