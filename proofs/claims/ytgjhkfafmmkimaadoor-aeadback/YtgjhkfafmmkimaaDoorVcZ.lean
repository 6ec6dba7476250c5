/-
  A reckoner of conditions: the call of yield, and iterators that go on and on. No statement is proved here.
-/
import Derived.Test.YtgjhkfafmmkimaaDoorVcY
import Derived.RangeFuncLeaves
namespace Go.Proofs.YtgjhkfafmmkimaaDoor
open Go.RowKit
set_option linter.unusedVariables false
set_option linter.unusedSimpArgs false

theorem yield_run {P : Program} {o : Oper} {f x : Operand} {ts : Array TypeId} {l : Nat} {ρ : Operand → Value} {w : World} {fn : FuncId} {tmps : Array Value} {assign body : Code} (ho : o.op = .call { callee := .value f, args := #[x], argTypes := ts }) (hf : ρ f = .func (.yield l) #[] #[]) (h1 : (Instr.yield l #[ρ x]).run P w = .ok (.round l fn tmps assign body) w) : (execOp ρ o).run P w = .ok (.round l fn tmps assign body) w := by
  simp [execOp, ho, resolve, invoke, hf, go_sem, h1]
theorem yield_op {P : Program} {o : Oper} {f x : Operand} {ts : Array TypeId} {l m : Nat} {a : Act} {w : World} {K : Act → World → Prop} {Q : Exit → Act → World → Prop} {R : Ending → World → Prop} (ho : o.op = .call { callee := .value f, args := #[x], argTypes := ts }) (hf : a.eval f = .func (.yield l) #[] #[]) (hy : YieldAt (fen none) (m - 1) P l #[a.eval x] w R) (hR : ∀ e w', R e w' → ∃ v, e = .returned v ∧ K (a.put o.dst v) w') : o.wpIn (fen none) m P a w K Q := by
  obtain ⟨fn, tmps, assign, body, h1, h2⟩ := hy
  refine ⟨fun _ _ => trivial, ?_⟩
  have e : (Oper.semAt (fen none).round a.eval o).run P w = .ok (.round l fn tmps assign body) w := by
    show (execOp a.eval o).run P w = _
    exact yield_run ho hf h1
  rw [e]
  refine ⟨fun h => (by cases h), h2.mono fun e w' hr => ?_⟩
  obtain ⟨v, rfl, hk⟩ := hR e w' hr
  exact hk
section
variable {P : Program} {E : Env} {R : Option Nat} {m : Nat} {ds : List Deferred}
theorem vlistR_app (hE : EnvOk P E) {ops : List Oper} {K : List SV → Mm → Prop} (l2 : List Oper) : ∀ (l : List Oper) (fr : List SV) (M : Mm) (β : Nat → Nat) (a : Act) (w : World) (Q : Exit → Act → World → Prop), RelF β M.length fr (bare a) → a.defers = ds → Rel E.G β M w → vlist P E ops l fr M K → (∀ a' w', OutD ds E.G β M w K a' w' → wpListIn (fen R) m P ops.toArray Q l2 a' w') → wpListIn (fen R) m P ops.toArray Q (l ++ l2) a w := by
  intro l
  induction l with
  | nil => intro fr M β a w Q hF hds hR h hQ; exact hQ a w ⟨⟨β, fr, M, Ext.refl _ _ _, hF, hR, h⟩, hds⟩
  | cons o l ih =>
    intro fr M β a w Q hF hds hR h hQ
    have run : vstep P E o fr M (fun r M2 => putSK E.T ops fr o.dst r fun fr2 => vlist P E ops l fr2 M2 K) → ∀ K' : Act → World → Prop, (∀ a w, wpListIn (fen R) m P ops.toArray Q (l ++ l2) a w → K' a w) → o.wpIn (fen R) m P a w K' Q := by
      intro h K' hK'
      refine OpY.wpIn ⟨vstep_nd h, _, vstep_ok (a := bare a) hE hF hR h, fun v w' hv => hK' _ _ ?_⟩
      obtain ⟨β', M', r, h1, h2, h3, h4⟩ := hv
      rw [putSK_eq, putK_eq] at h4
      exact ih _ M' β' _ w' Q (by rw [bare_put]; exact put_ok (hF.mono h1.len h1.agree) o.dst h3) ((put_defers _ _ _).trans hds) h2 h4 fun a' w'' h5 => hQ a' w'' ⟨OutS.trans h1 h5.1, h5.2⟩
    show wpListIn (fen R) m P ops.toArray Q (o :: (l ++ l2)) a w
    refine wpListIn_step fun K' hK' => ?_
    unfold vlist at h
    split at h
    · rename_i hgd
      rw [if_pos (by simp [Region.wanted, hgd])]
      exact run h K' hK'
    · rename_i j want hgd
      split at h
      · rename_i t hg
        have hy : yielded ops.toArray a.tmps j = some t := gval_ok hF hg
        cases hw : t == want
        · rw [hw] at h
          simp only [cond_false] at h
          rw [if_neg (by simp only [Region.wanted, hgd, hy]; simpa using hw)]
          rw [putK_eq] at h
          exact ⟨fun _ _ => trivial, hK' _ _ (ih _ M β _ w Q (by rw [bare_put]; exact put_ok hF o.dst (.inr ⟨rfl, rfl⟩)) ((put_defers _ _ _).trans hds) hR h hQ)⟩
        · rw [hw] at h
          simp only [cond_true] at h
          rw [if_pos (by simp only [Region.wanted, hgd, hy]; simpa using hw)]
          exact run h K' hK'
      · cases hgs : gskip ops fr j <;> rw [hgs] at h
        · exact h.elim
        · simp only [cond_true] at h
          have hy : yielded ops.toArray a.tmps j = none := gskip_ok hF hgs
          rw [if_neg (by simp [Region.wanted, hgd, hy])]
          rw [putK_eq] at h
          exact ⟨fun _ _ => trivial, hK' _ _ (ih _ M β _ w Q (by rw [bare_put]; exact put_ok hF o.dst (.inr ⟨rfl, rfl⟩)) ((put_defers _ _ _).trans hds) hR h hQ)⟩
end
theorem Le.relF {B M M' : Mm} {fr fr' : List SV} {β βb : Nat → Nat} {a : Act} (hl : Le B fr M fr' M') (hF : RelF β M.length fr a) (hag : ∀ k, k < M'.length → βb k = β k) : RelF βb M'.length fr' a :=
  ⟨by rw [hl.len]; exact hF.size, fun t x hx => by
    rcases hl.at' t x hx with e | ⟨e1, e2⟩
    · exact .inl e
    · rcases hF.at' t x e1 with e | ⟨_, e3⟩
      · exact .inl e
      · exact .inr ⟨e2, by rw [val_agree hag x e2]; exact e3⟩, hF.defers⟩
/-- One round of an iterator 'for { X; if !yield(x) { return }; Z }'. -/
def vIter (P : Program) (E : Env) (ops ops1 ops2 : List Oper) (d : Option Tmp) (f x c : Operand) (X Z : Code) (Mb : Mm) (n l : Nat) (xk : SV) (Ik : List (Nat × SV)) (I1 : Bool → List (Nat × SV)) (Inext : List (Nat × SV)) : Prop :=
  frK n Ik fun fr => vcode P E noW (vdraw P E) X fr Mb fun e fr1 M1 => match e with
    | .normal => vlist P E ops ops1 fr1 M1 fun fr2 M2 => (ev fr2 f = .v (.func (.yield l) #[] #[]) ∧ ev fr2 x = xk) ∧
        (putK fr2 d (.b true) fun fr3 => vLe Mb fr3 M2 n (I1 true) Mb (frK n (I1 true) fun fr4 => vlist P E ops ops2 fr4 Mb fun fr5 M5 => match ev fr5 c with
          | .b false => vcode P E noW (vdraw P E) Z fr5 M5 fun e fr6 M6 => match e with
            | .normal => vLe Mb fr6 M6 n Inext Mb True
            | _ => False
          | _ => False)) ∧
        (putK fr2 d (.b false) fun fr3 => vLe Mb fr3 M2 n (I1 false) Mb (frK n (I1 false) fun fr4 => vlist P E ops ops2 fr4 Mb fun fr5 M5 => match ev fr5 c with
          | .b true => True
          | _ => False))
    | _ => False
theorem iter_loop {P : Program} {E : Env} (hE : EnvOk P E) (hm : P.follows .mixedOrders = true) {m l n b0 b1 rid N : Nat} {Mb : Mm} {βb : Nat → Nat} {xs : Nat → SV} {X Z : Code} {ops1 ops2 : List Oper} {yo : Oper} {f x c : Operand} {ts : Array TypeId} (I : Nat → List (Nat × SV)) (I1 : Nat → Bool → List (Nat × SV)) {J : Nat → World → Prop} {Jx : World → Prop}
    (hyo : yo.op = .call { callee := .value f, args := #[x], argTypes := ts }) (hyg : yo.guard = none) (hfx : globOk E.G.length [f, x] = true) (hxw : ∀ k, (xs k).wf 0 = true)
    (hro : ∀ (k : Nat) (e : Ent), Mb[k]? = some e → e.rw = false)
    (hJ : ∀ k A B, J k A → Fp0 A B → J k B) (hJb : ∀ k A, J k A → Rel E.G βb Mb A) (hJx : ∀ A, Jx A → Rel E.G βb Mb A)
    (hY : ∀ k A, k < N → J k A → YieldAt (fen none) (m - 1) P l #[val βb (xs k)] A fun e B => (e = .returned (.bool true) ∧ k + 1 < N ∧ J (k + 1) B) ∨ (e = .returned (.bool false) ∧ Jx B))
    (hround : ∀ k, k < N → vIter P E (ops1 ++ yo :: ops2) ops1 ops2 yo.dst f x c X Z Mb n l (xs k) (I k) (I1 k) (I (k + 1)))
    {Q : Exit → Act → World → Prop} (hQ : ∀ a A W, Jx A → Fp0 A W → a.defers = [] → Q .ret a W)
    {a : Act} {w : World} (hN : 0 < N) (h0 : J 0 w) (hF : RelF βb Mb.length (mkF n (I 0)) a) :
    (Code.block b0 (.loop (.seq (.block b1 (.seq X (.seq (.region rid (ops1 ++ yo :: ops2).toArray false) (.cond c .ret .skip)))) Z))).wpIn (fen none) m P Q a w := by
  have bareE : ∀ {a : Act}, a.defers = [] → bare a = a := fun {a} h => by cases a; cases h; rfl
  have fp0 : ∀ {β : Nat → Nat} {M : Mm} {w w' : World}, Ext βb Mb w β M w' → Fp0 w w' := fun hx => hx.fp.mono fun b _ hb => by
    obtain ⟨k, e, he, hr, -⟩ := hb
    rw [hro k e he] at hr; cases hr
  refine wpIn_block (wpIn_loop_ghost (fun r a w => ∃ k, r = N - k ∧ k < N ∧ J k w ∧ RelF βb Mb.length (mkF n (I k)) a) N ⟨0, rfl, hN, h0, hF⟩ ?_)
  rintro r a w ⟨k, rfl, hk, hJk, hFk⟩
  have hr := hround k hk
  unfold vIter at hr
  rw [frK_eq] at hr
  have hRk := hJb k w hJk
  refine wpIn_seq (wpIn_block (wpIn_seq ?_))
  have hX := vcodeR_ok (R := none) (m := m) (ds := []) hE hm (B := Mb) (W := noW) (fun _ _ _ _ h => h.elim) X _ Mb _ hr βb w βb a w (Ext.refl _ _ _) (by rw [bareE hFk.defers]; exact hFk) hFk.defers hRk
  refine Code.wpIn_mono (fun e a1 w1 hh => ?_) hX
  obtain ⟨⟨β1, fr1, M1, e1, f1, r1, k1⟩, d1⟩ := hh
  cases e with
  | normal =>
    refine wpIn_seq (wpIn_region_list ?_)
    have e1' : ((ops1 ++ yo :: ops2).toArray).toList = ops1 ++ yo :: ops2 := rfl
    rw [e1']
    refine vlistR_app (R := none) (m := m) (ds := []) hE (ops := ops1 ++ yo :: ops2) (yo :: ops2) ops1 fr1 M1 β1 a1 w1 _ f1 d1 r1 k1 fun a2 w2 hh => ?_
    obtain ⟨⟨β2, fr2, M2, e2, f2, r2, ⟨kf, kx⟩, kt, kn⟩, d2⟩ := hh
    rw [bareE d2] at f2
    have ex := e1.trans e2
    have hag : ∀ t, t < Mb.length → βb t = β2 t := fun t ht => (ex.agree t ht).symm
    have hJ2 : J k w2 := hJ k w w2 hJk (fp0 ex)
    -- the call of yield
    have ef : a2.eval f = .func (.yield l) #[] #[] := by
      have q := ev_ok f2 r2 (l := [f, x]) hfx f (by simp)
      rw [kf] at q
      exact (q.resolve_left (fun e => nomatch e)).2
    have exx : a2.eval x = val βb (xs k) := by
      have q := ev_ok f2 r2 (l := [f, x]) hfx x (by simp)
      rw [kx] at q
      have hne : xs k ≠ .any := fun e => by have := hxw k; rw [e] at this; cases this
      rw [(q.resolve_left hne).2]
      exact val_agree (fun t ht => absurd ht (Nat.not_lt_zero t)) (xs k) (hxw k)
    refine wpListIn_step fun K' hK' => ?_
    rw [if_pos (by simp [Region.wanted, hyg])]
    have hy := hY k w2 hk hJ2
    rw [← exx] at hy
    refine yield_op hyo ef hy fun e w3 hr3 => ?_
    rcases hr3 with ⟨rfl, hkN, hJ3⟩ | ⟨rfl, hx3⟩
    · refine ⟨_, rfl, hK' _ _ ?_⟩
      rw [putK_eq] at kt
      obtain ⟨hle, kt⟩ := vLe_ok kt
      rw [frK_eq] at kt
      have f3 : RelF βb Mb.length (mkF n (I1 k true)) (a2.put yo.dst (.bool true)) := hle.relF (put_ok f2 yo.dst (x := .b true) (.inr ⟨rfl, rfl⟩)) hag
      have d3 : (a2.put yo.dst (.bool true)).defers = [] := (put_defers _ _ _).trans d2
      refine vlistR_ok (R := none) (m := m) (ds := []) hE (ops := ops1 ++ yo :: ops2) ops2 _ Mb βb _ w3 _ (by rw [bareE d3]; exact f3) d3 (hJb _ _ hJ3) kt fun a5 w5 hh => ?_
      obtain ⟨⟨β5, fr5, M5, e5, f5, r5, k5⟩, d5⟩ := hh
      split at k5
      · rename_i hc
        have hc' : a5.eval c = .bool false := cond_ev f5 hc
        refine wpIn_cond_false hc' (wpIn_skip ?_)
        have hZ := vcodeR_ok (R := none) (m := m) (ds := []) hE hm (B := Mb) (W := noW) (fun _ _ _ _ h => h.elim) Z fr5 M5 _ k5 βb w3 β5 a5 w5 e5 f5 d5 r5
        refine Code.wpIn_mono (fun e a6 w6 hh => ?_) hZ
        obtain ⟨⟨β6, fr6, M6, e6, f6, r6, k6⟩, d6⟩ := hh
        cases e with
        | normal =>
          obtain ⟨hle6, -⟩ := vLe_ok k6
          rw [bareE d6] at f6
          exact ⟨N - (k + 1), by omega, k + 1, rfl, hkN, hJ _ _ _ hJ3 (fp0 e6), hle6.relF f6 fun t ht => (e6.agree t ht).symm⟩
        | exit j => exact k6.elim
        | goto j => exact k6.elim
        | ret => exact k6.elim
        | panic ch => exact k6.elim
        | outgrown => exact k6.elim
      · exact k5.elim
    · refine ⟨_, rfl, hK' _ _ ?_⟩
      rw [putK_eq] at kn
      obtain ⟨hle, kn⟩ := vLe_ok kn
      rw [frK_eq] at kn
      have f3 : RelF βb Mb.length (mkF n (I1 k false)) (a2.put yo.dst (.bool false)) := hle.relF (put_ok f2 yo.dst (x := .b false) (.inr ⟨rfl, rfl⟩)) hag
      have d3 : (a2.put yo.dst (.bool false)).defers = [] := (put_defers _ _ _).trans d2
      refine vlistR_ok (R := none) (m := m) (ds := []) hE (ops := ops1 ++ yo :: ops2) ops2 _ Mb βb _ w3 _ (by rw [bareE d3]; exact f3) d3 (hJx _ hx3) kn fun a5 w5 hh => ?_
      obtain ⟨⟨β5, fr5, M5, e5, f5, r5, k5⟩, d5⟩ := hh
      split at k5
      · rename_i hc
        have hc' : a5.eval c = .bool true := cond_ev f5 hc
        exact wpIn_cond_true hc' (wpIn_ret (hQ a5 w3 w5 hx3 (fp0 e5) d5))
      · exact k5.elim
  | exit j => exact k1.elim
  | goto j => exact k1.elim
  | ret => exact k1.elim
  | panic ch => exact k1.elim
  | outgrown => exact k1.elim
end Go.Proofs.YtgjhkfafmmkimaaDoor
namespace Go.Proofs.YtgjhkfafmmkimaaDoor
open Go.RowKit
set_option linter.unusedVariables false
set_option linter.unusedSimpArgs false

theorem yieldAt_depth {P : Program} {l m m' : Nat} {args : Array Value} {W : World} {R : Ending → World → Prop} (h : YieldAt (fen none) m P l args W R) : YieldAt (fen none) m' P l args W R := by
  obtain ⟨fn, tmps, assign, body, h1, h2, h3⟩ := h
  exact ⟨fn, tmps, assign, body, h1, h2, fun c cs _ => h3 c cs (room_wide _)⟩
theorem iter_fun {P : Program} {E : Env} (hE : EnvOk P E) (hm : P.follows .mixedOrders = true) {n b0 b1 rid N gf : Nat} {fn : Func} {Mb : Mm} {βb : Nat → Nat} {xs : Nat → SV} {R0 R1 X Z : Code} {ops1 ops2 : List Oper} {yo : Oper} {f x c : Operand} {ts : Array TypeId} {caps : List SV} (I : Nat → Nat → List (Nat × SV)) (I1 : Nat → Nat → Bool → List (Nat × SV))
    (hf : P.funcs[gf]? = some fn) (hb : fn.body = some (.seq R0 (.seq R1 (.block b0 (.loop (.seq (.block b1 (.seq X (.seq (.region rid (ops1 ++ yo :: ops2).toArray false) (.cond c .ret .skip)))) Z)))))) (hres : fn.results = #[])
    (hyo : yo.op = .call { callee := .value f, args := #[x], argTypes := ts }) (hyg : yo.guard = none) (hfx : globOk E.G.length [f, x] = true) (hxw : ∀ k, (xs k).wf 0 = true)
    (hro : ∀ (k : Nat) (e : Ent), Mb[k]? = some e → e.rw = false) (hcaps : SV.wf.wfs Mb.length caps = true)
    (hpre : ∀ l, padK (.v (.func (.yield l) #[] #[]) :: caps) fn.ntmps fun fr => vcode P E noW (vdraw P E) R0 fr Mb fun e fr1 M1 => match e with
      | .normal => vcode P E noW (vdraw P E) R1 fr1 M1 fun e fr2 M2 => match e with
        | .normal => vLe Mb fr2 M2 n (I l 0) Mb True
        | _ => False
      | _ => False)
    (hround : ∀ l k, k < N → vIter P E (ops1 ++ yo :: ops2) ops1 ops2 yo.dst f x c X Z Mb n l (xs k) (I l k) (I1 l k) (I l (k + 1))) :
    SeqLeft P gf (vals βb caps).toArray (fun k => val βb (xs k)) N (fun W => Rel E.G βb Mb W) := by
  intro l m J Jx W hJ hJb hJx hY hN h0
  have bareE : ∀ {a : Act}, a.defers = [] → bare a = a := fun {a} h => by cases a; cases h; rfl
  have fp0 : ∀ {β : Nat → Nat} {M : Mm} {w w' : World}, Ext βb Mb w β M w' → Fp0 w w' := fun hx => hx.fp.mono fun b _ hb => by
    obtain ⟨k, e, he, hr, -⟩ := hb
    rw [hro k e he] at hr; cases hr
  obtain ⟨hl, hp⟩ := padK_ok _ _ _ (hpre l)
  have hargs : SV.wf.wfs Mb.length (.v (.func (.yield l) #[] #[]) :: caps) = true := by simp [SV.wf.wfs, SV.wf, hcaps]
  have ev0 : (#[.func (.yield l) #[] #[]] ++ (vals βb caps).toArray : Array Value) = (vals βb (.v (.func (.yield l) #[] #[]) :: caps)).toArray := by simp [vals, val]
  rw [ev0]
  generalize (SV.v (.func (.yield l) #[] #[]) :: caps) = args at *
  refine callsIn_of_wp hf hb trivial ?_
  have hF : RelF βb Mb.length (args ++ List.replicate (fn.ntmps - args.length) .any) { tmps := (vals βb args).toArray ++ Array.replicate (fn.ntmps - (vals βb args).toArray.size) undef, defers := [] } := by
    refine ⟨by simp [vals_map], fun k x hx => ?_, rfl⟩
    rcases Nat.lt_or_ge k args.length with q | q
    · rw [List.getElem?_append_left q] at hx
      refine .inr ⟨wfs_all.1 hargs x (List.mem_of_getElem? hx), ?_⟩
      rw [Array.getD_eq_getD_getElem?, Array.getElem?_append_left (by simpa [vals_map] using q)]
      simp [vals_map, hx]
    · rw [List.getElem?_append_right q] at hx
      exact .inl (List.eq_of_mem_replicate (List.mem_of_getElem? hx))
  refine wpIn_seq (Code.wpIn_mono (fun e a1 w1 hh => ?_) (vcodeR_ok (R := none) (m := m) (ds := []) hE hm (B := Mb) (W := noW) (fun _ _ _ _ h => h.elim) R0 _ Mb _ hp βb W βb _ W (Ext.refl _ _ _) hF rfl (hJb 0 W h0)))
  obtain ⟨⟨β1, fr1, M1, e1, f1, r1, k1⟩, d1⟩ := hh
  cases e with
  | normal =>
    refine wpIn_seq (Code.wpIn_mono (fun e a2 w2 hh => ?_) (vcodeR_ok (R := none) (m := m) (ds := []) hE hm (B := Mb) (W := noW) (fun _ _ _ _ h => h.elim) R1 fr1 M1 _ k1 βb W β1 a1 w1 e1 f1 d1 r1))
    obtain ⟨⟨β2, fr2, M2, e2, f2, r2, k2⟩, d2⟩ := hh
    cases e with
    | normal =>
      obtain ⟨hle, -⟩ := vLe_ok k2
      rw [bareE d2] at f2
      refine iter_loop hE hm (m := m) (l := l) (βb := βb) (xs := xs) (N := N) (Jx := Jx) (J := J) (I l) (I1 l) hyo hyg hfx hxw hro hJ hJb hJx (fun k A hk hA => ?_) (hround l) (fun a A w3 hx hfp hd => ?_) hN (hJ 0 W w2 h0 (fp0 e2)) (hle.relF f2 fun t ht => (e2.agree t ht).symm)
      · exact yieldAt_depth (hY k A hk hA)
      · exact ⟨hd, _, results_none hres _ _ _, ⟨_, rfl⟩, A, hx, hfp⟩
    | exit j => exact k2.elim
    | goto j => exact k2.elim
    | ret => exact k2.elim
    | panic ch => exact k2.elim
    | outgrown => exact k2.elim
  | exit j => exact k1.elim
  | goto j => exact k1.elim
  | ret => exact k1.elim
  | panic ch => exact k1.elim
  | outgrown => exact k1.elim
/-- Some of the blocks, read alone. -/
theorem rel_view {G : Mm} {β βb : Nat → Nat} {M Mb : Mm} {W : World} (hR : Rel G β M W) (τ : Nat → Nat) (hG : G.length ≤ Mb.length) (hpre : ∀ k, k < G.length → Mb[k]? = G[k]?) (hg : ∀ g, g < G.length → βb g = g)
    (hv : ∀ (k : Nat) (e : Ent), Mb[k]? = some e → G.length ≤ k → e.rw = false ∧ e.c.wf 0 = true ∧ ∃ r, M[τ k]? = some ⟨r, e.c⟩ ∧ βb k = β (τ k)) : Rel G βb Mb W := by
  have low : ∀ (k : Nat) (e : Ent), Mb[k]? = some e → k < G.length → G[k]? = some e ∧ M[k]? = some e := fun k e he hk => by
    have h1 := (hpre k hk).symm.trans he
    exact ⟨h1, (hR.pre k hk).trans h1⟩
  have ro : ∀ (k : Nat) (e : Ent), Mb[k]? = some e → e.rw = false := fun k e he => by
    rcases Nat.lt_or_ge k G.length with q | q
    · exact (hR.ro k e (low k e he q).1).1
    · exact (hv k e he q).1
  refine ⟨fun k e he hc => ?_, fun i j x y hi hj hij hr _ _ => ?_, hg, hG, hpre, hR.ro, fun k e he => ?_⟩
  · rcases Nat.lt_or_ge k G.length with q | q
    · obtain ⟨h1, h2⟩ := low k e he q
      have h3 := hR.all k e h2 hc
      rw [hg k q]
      rw [hR.glob k q] at h3
      rw [cells_agree (β' := βb) (β := β) (fun t ht => (hg t ht).trans (hR.glob t ht).symm) _ (hR.ro k e h1).2]
      exact h3
    · obtain ⟨h1, h2, r, h3, h4⟩ := hv k e he q
      have h5 := hR.all _ _ h3 hc
      rw [h4, h1, cells_agree (β' := βb) (β := β) (n := 0) (fun t ht => absurd ht (Nat.not_lt_zero t)) _ h2]
      exact ⟨h5.lt, h5.cell, (fun h => nomatch h), h5.shp⟩
  · rw [ro i x hi] at hr; cases hr
  · rcases Nat.lt_or_ge k G.length with q | q
    · exact cwf_mono hG _ (hR.ro k e (low k e he q).1).2
    · exact cwf_mono (Nat.zero_le _) _ (hv k e he q).2.1
end Go.Proofs.YtgjhkfafmmkimaaDoor
namespace Go.Proofs.YtgjhkfafmmkimaaDoor
open Go.RowKit
set_option linter.unusedVariables false
set_option linter.unusedSimpArgs false

theorem range_fun {P : Program} {E : Env} (hE : EnvOk P E) (hm : P.follows .mixedOrders = true) {f gf n bid pt rt N nB : Nat} {fn : Func} {A1 A2 A3 Z assign body : Code} {g : Operand} {ι : Type} (Mi : ι → Mm) (p : Nat → ι → Prop) (px : ι → Prop) (sel : ι → List SV → Mm → Option (ι × List Nat)) (xs : Nat → SV) (I : List (Nat × SV)) {args caps : List SV} {M0 Mb : Mm} (i0 : ι) (r0 : SV)
    (hf : P.funcs[f]? = some fn) (hb : fn.body = some (.seq A1 (.seq A2 (.seq (.seq A3 (.block bid (.rangeFunc g #[pt] assign body))) (.seq Z .ret))))) (hname : (fn.name == "runtime.NumGoroutine") = false) (hres : fn.results = #[.tmp rt])
    (hro : ∀ (k : Nat) (e : Ent), M0[k]? = some e → e.rw = false)
    (hGB : E.G.length ≤ nB) (hN : 0 < N) (hp : p 0 i0) (hlen : ∀ i, nB ≤ (Mi i).length) (hlen0 : (Mi i0).length = nB) (hgone : ∀ i, noGone (Mi i) = true) (hxs : ∀ k, (xs k).wf 0 = true)
    (hpre : padK args fn.ntmps fun fr => vcode P E noW (vdraw P E) A1 fr M0 fun e fr1 M1 => match e with
      | .normal => vcode P E noW (vdraw P E) A2 fr1 M1 fun e fr2 M2 => match e with
        | .normal => vcode P E noW (vdraw P E) A3 fr2 M2 fun e fr3 M3 => match e with
          | .normal => vLe M0 fr3 M3 n I (Mi i0) True ∧ M3 = Mi i0
          | _ => False
        | _ => False
      | _ => False)
    (hg : ev (mkF n I) g = .fn gf caps) (hgl : globOk E.G.length [g] = true) (eg : ∀ args w, (callFunc gf args).run P w = .ok (.enter gf args) w)
    (hseq : ∀ β0, SeqLeft P gf (vals β0 caps).toArray (fun k => val β0 (xs k)) N (fun W => Rel E.G β0 Mb W))
    (hview : ∀ (β0 β : Nat → Nat) (i : ι) (W : World), Rel E.G β (Mi i) W → (∀ t, t < nB → β t = β0 t) → Rel E.G β0 Mb W)
    (hround : ∀ k i, k < N → p k i → vcode P E noW (vdraw P E) assign ((mkF n I).set pt (xs k)) (Mi i) (fun e fr1 M1 => match e with
      | .normal => noGone M1 = true ∧ vcode P E noW (vdraw P E) body fr1 M1 (Kround E.G.length nB bid (sel i) (fun i' => k + 1 < N ∧ p (k + 1) i') px Mi)
      | _ => False))
    (hpost : ∀ i, px i → vcode P E noW (vdraw P E) Z (mkF n I) (Mi i) fun e fr M => match e with
      | .normal => ev fr (.tmp rt) = r0
      | _ => False)
    (hr0 : r0.wf 0 = true) :
    Spec P E.G f args M0 (fun r M => r = r0 ∧ M = M0) := by
  intro β w hR hargs
  refine .inr ⟨enter_run hf hb hname _ _, (callsIn_wide (n := 0)).1 (callsIn_of_wp_marks (F := fen none) hf hb trivial ?_)⟩
  obtain ⟨hl, hpr⟩ := padK_ok _ _ _ hpre
  have hF : RelF β M0.length (args ++ List.replicate (fn.ntmps - args.length) .any) (bare { tmps := (vals β args).toArray ++ Array.replicate (fn.ntmps - (vals β args).toArray.size) undef, defers := [] }) := by
    refine ⟨by simp [vals_map, bare], fun k x hx => ?_, rfl⟩
    rcases Nat.lt_or_ge k args.length with q | q
    · rw [List.getElem?_append_left q] at hx
      refine .inr ⟨wfs_all.1 hargs x (List.mem_of_getElem? hx), ?_⟩
      show ((vals β args).toArray ++ Array.replicate (fn.ntmps - (vals β args).toArray.size) undef).getD k undef = _
      rw [Array.getD_eq_getD_getElem?, Array.getElem?_append_left (by simpa [vals_map] using q)]
      simp [vals_map, hx]
    · rw [List.getElem?_append_right q] at hx
      exact .inl (List.eq_of_mem_replicate (List.mem_of_getElem? hx))
  have norw : ∀ b, ¬ rwset β M0 b := fun b hb => by
    obtain ⟨k, e, he, hr, -⟩ := hb
    rw [hro k e he] at hr; cases hr
  refine wpIn_seq (Code.wpIn_mono (fun e a1 w1 hh => ?_) (vcodeR_ok (R := none) (m := 0) (ds := []) hE hm (B := M0) (W := noW) (fun _ _ _ _ h => h.elim) A1 _ M0 _ hpr β w β _ w (Ext.refl _ _ _) hF rfl hR))
  obtain ⟨⟨β1, fr1, M1, e1, f1, r1, k1⟩, d1⟩ := hh
  cases e with
  | normal =>
    refine wpIn_seq (Code.wpIn_mono (fun e a2 w2 hh => ?_) (vcodeR_ok (R := none) (m := 0) (ds := []) hE hm (B := M0) (W := noW) (fun _ _ _ _ h => h.elim) A2 fr1 M1 _ k1 β w β1 a1 w1 e1 f1 d1 r1))
    obtain ⟨⟨β2, fr2, M2, e2, f2, r2, k2⟩, d2⟩ := hh
    cases e with
    | normal =>
      refine wpIn_seq (wpIn_seq (Code.wpIn_mono (fun e a3 w3 hh => ?_) (vcodeR_ok (R := none) (m := 0) (ds := []) hE hm (B := M0) (W := noW) (fun _ _ _ _ h => h.elim) A3 fr2 M2 _ k2 β w β2 a2 w2 e2 f2 d2 r2)))
      obtain ⟨⟨β3, fr3, M3, e3, f3, r3, k3⟩, d3⟩ := hh
      cases e with
      | normal =>
        obtain ⟨hle, rfl⟩ := k3
        obtain ⟨hle, -⟩ := vLe_ok hle
        have hF3 : RelF β3 nB (mkF n I) (bare a3) := by
          have := hle.relF f3 fun t ht => rfl
          rw [hlen0] at this
          exact this
        have hge : a3.eval g = .func (.func gf) #[] (vals β3 caps).toArray := by
          have hF4 : RelF β3 (Mi i0).length (mkF n I) (bare a3) := by rw [hlen0]; exact hF3
          have q := ev_ok hF4 r3 (l := [g]) hgl g (by simp)
          rw [hg] at q
          exact (q.resolve_left (fun e => nomatch e)).2
        have hrw3 : ∀ b, rwset β3 (Mi i0) b → w.heap.size ≤ b := fun b hb => (e3.rws b hb).resolve_left (norw b)
        have fp3 : Fp0 w w3 := e3.fp.mono fun b _ hb => (norw b hb).elim
        refine wpIn_block (range_left hE hm Mi p px N nB sel xs hGB hN hp hlen hgone hxs hF3 r3 hge eg (hseq β3) (fun β' k i W hpi hRi hag => hview β3 β' i W hRi hag) (fun β' i W hpi hRi hag => hview β3 β' i W hRi hag) hround ?_)
        intro D β' i W hD hpx hRW hag hrws hfpW hDef
        show if bid = bid then _ else _
        rw [if_pos rfl]
        have hF5 : RelF β' (Mi i).length (mkF n I) (bare { a3 with defers := { target := .collected D, args := #[] } :: a3.defers }) := hF3.mono (hlen i) hag
        refine wpIn_seq (Code.wpIn_mono (fun e a4 w4 hh => ?_) (vcodeR_ok (R := none) (m := 0) (ds := [{ target := .collected D, args := #[] }]) hE hm (B := Mi i) (W := noW) (fun _ _ _ _ h => h.elim) Z (mkF n I) (Mi i) _ (hpost i hpx) β' W β' _ W (Ext.refl _ _ _) hF5 (by rw [d3]) hRW))
        obtain ⟨⟨β4, fr4, M4, e4, f4, r4, k4⟩, d4⟩ := hh
        cases e with
        | normal =>
          refine wpIn_ret ?_
          have hrwD : ¬ rwset β' (Mi i) D := fun hb => by
            rcases hrws D hb with q | q
            · have := noGone_lt (hgone i0) r3 q; omega
            · omega
          have hD4 : w4.heap[D]? = some (.deferred (some [])) := (e4.fp.block D (Array.getElem?_eq_some_iff.1 hDef).1 hrwD).trans hDef
          show LeavesInM (fen none) 0 P fn a4.tmps _ a4.defers .returning w4
          rw [d4]
          refine ⟨by simp, .inl ⟨D, _, rfl, run_takeDeferred hD4, ?_⟩⟩
          have hv : a4.tmps.getD rt undef = val β r0 := by
            have hne : r0 ≠ .any := fun e => by rw [e] at hr0; cases hr0
            replace k4 : fr4.getD rt .any = r0 := k4
            have hget : fr4[rt]? = some r0 := by
              rw [List.getD_eq_getElem?_getD] at k4
              cases hq : fr4[rt]? with
              | none => rw [hq] at k4; exact absurd k4.symm hne
              | some y => rw [hq] at k4; exact congrArg some k4
            have q := (f4.at' rt r0 hget).resolve_left hne
            have q2 : a4.tmps.getD rt undef = val β4 r0 := q.2
            rw [q2]
            exact val_agree (fun t ht => absurd ht (Nat.not_lt_zero t)) r0 hr0
          have fpW : Fp0 w W := fp3.trans hfpW fun t ht => .inr (hrw3 t ht)
          have fp4 : Fp0 w w4 := fpW.trans e4.fp fun t ht => .inr (by
            rcases hrws t ht with q | q
            · exact hrw3 t q
            · have := fp3.size; omega)
          have fp5 : Fp0 w (w4.putObj D (.deferred none)) := fp4.trans (T := fun k => k = D) ⟨rfl, rfl, rfl, by simp, fun k hk hb => World.putObj_heap_other (fun e => hb e)⟩ fun t ht => .inr (by have := fp3.size; omega)
          refine ⟨val β r0, ?_, _, rfl, β, M0, r0, Ext.step fp5, hR.step fp5, ⟨wf_mono (Nat.zero_le _) r0 hr0, rfl⟩, rfl, rfl⟩
          simp [results, hres]
          rw [← Array.getD_eq_getD_getElem?]
          exact hv
        | exit j => exact k4.elim
        | goto j => exact k4.elim
        | ret => exact k4.elim
        | panic ch => exact k4.elim
        | outgrown => exact k4.elim
      | exit j => exact k3.elim
      | goto j => exact k3.elim
      | ret => exact k3.elim
      | panic ch => exact k3.elim
      | outgrown => exact k3.elim
    | exit j => exact k2.elim
    | goto j => exact k2.elim
    | ret => exact k2.elim
    | panic ch => exact k2.elim
    | outgrown => exact k2.elim
  | exit j => exact k1.elim
  | goto j => exact k1.elim
  | ret => exact k1.elim
  | panic ch => exact k1.elim
  | outgrown => exact k1.elim
end Go.Proofs.YtgjhkfafmmkimaaDoor
