/-
  A reckoner of conditions: the call of yield, and iterators that go on and on. No statement is proved here.
-/
import Derived.Test.YtmalnjdacmlcdaaDoorVcY
namespace Go.Proofs.YtmalnjdacmlcdaaDoor
open Go.RowKit
set_option linter.unusedVariables false
set_option linter.unusedSimpArgs false

theorem yield_run {P : Program} {o : Oper} {f x : Operand} {ts : Array TypeId} {l : Nat} {ρ : Operand → Value} {w : World} {fn : FuncId} {tmps : Array Value} {assign body : Code} (ho : o.op = .call { callee := .value f, args := #[x], argTypes := ts }) (hf : ρ f = .func (.yield l) #[] #[]) (h1 : (Instr.yield l #[ρ x]).run P w = .ok (.round l fn tmps assign body) w) : (execOp ρ o).run P w = .ok (.round l fn tmps assign body) w := by
  simp [execOp, ho, resolve, invoke, hf, go_sem, h1]
theorem yield_op {P : Program} {o : Oper} {f x : Operand} {ts : Array TypeId} {l m : Nat} {a : Act} {w : World} {K : Act → World → Prop} {Q : Exit → Act → World → Prop} {R : Ending → World → Prop} (ho : o.op = .call { callee := .value f, args := #[x], argTypes := ts }) (hf : a.eval f = .func (.yield l) #[] #[]) (hy : YieldAt (fen none) (m - 1) P l #[a.eval x] w R) (hR : ∀ e w', R e w' → ∃ v, e = .returned v ∧ K (a.put o.dst v) w') : o.wpIn (fen none) m P a w K Q := by
  obtain ⟨fn, tmps, assign, body, h1, h2⟩ := hy
  refine ⟨fun _ _ => trivial, ?_⟩
  have e : (Oper.semAt (fen none).round a.eval o).run P w = .ok (.round l fn tmps assign body) w := by
    show (execOp a.eval o).run P w = _
    exact yield_run ho hf h1
  rw [e]
  refine ⟨fun h => (by cases h), h2.mono fun e w' hr => ?_⟩
  obtain ⟨v, rfl, hk⟩ := hR e w' hr
  exact hk
section
variable {P : Program} {E : Env} {R : Option Nat} {m : Nat} {ds : List Deferred}
theorem vlistR_app (hE : EnvOk P E) {ops : List Oper} {K : List SV → Mm → Prop} (l2 : List Oper) : ∀ (l : List Oper) (fr : List SV) (M : Mm) (β : Nat → Nat) (a : Act) (w : World) (Q : Exit → Act → World → Prop), RelF β M.length fr (bare a) → a.defers = ds → Rel E.G β M w → vlist P E ops l fr M K → (∀ a' w', OutD ds E.G β M w K a' w' → wpListIn (fen R) m P ops.toArray Q l2 a' w') → wpListIn (fen R) m P ops.toArray Q (l ++ l2) a w := by
  intro l
  induction l with
  | nil => intro fr M β a w Q hF hds hR h hQ; exact hQ a w ⟨⟨β, fr, M, Ext.refl _ _ _, hF, hR, h⟩, hds⟩
  | cons o l ih =>
    intro fr M β a w Q hF hds hR h hQ
    have run : vstep P E o fr M (fun r M2 => putK fr o.dst r fun fr2 => vlist P E ops l fr2 M2 K) → ∀ K' : Act → World → Prop, (∀ a w, wpListIn (fen R) m P ops.toArray Q (l ++ l2) a w → K' a w) → o.wpIn (fen R) m P a w K' Q := by
      intro h K' hK'
      refine OpY.wpIn ⟨vstep_nd h, _, vstep_ok (a := bare a) hE hF hR h, fun v w' hv => hK' _ _ ?_⟩
      obtain ⟨β', M', r, h1, h2, h3, h4⟩ := hv
      rw [putK_eq] at h4
      exact ih _ M' β' _ w' Q (by rw [bare_put]; exact put_ok (hF.mono h1.len h1.agree) o.dst h3) ((put_defers _ _ _).trans hds) h2 h4 fun a' w'' h5 => hQ a' w'' ⟨OutS.trans h1 h5.1, h5.2⟩
    show wpListIn (fen R) m P ops.toArray Q (o :: (l ++ l2)) a w
    refine wpListIn_step fun K' hK' => ?_
    unfold vlist at h
    split at h
    · rename_i hgd
      rw [if_pos (by simp [Region.wanted, hgd])]
      exact run h K' hK'
    · rename_i j want hgd
      split at h
      · rename_i t hg
        have hy : yielded ops.toArray a.tmps j = some t := gval_ok hF hg
        cases hw : t == want
        · rw [hw] at h
          simp only [cond_false] at h
          rw [if_neg (by simp only [Region.wanted, hgd, hy]; simpa using hw)]
          rw [putK_eq] at h
          exact ⟨fun _ _ => trivial, hK' _ _ (ih _ M β _ w Q (by rw [bare_put]; exact put_ok hF o.dst (.inr ⟨rfl, rfl⟩)) ((put_defers _ _ _).trans hds) hR h hQ)⟩
        · rw [hw] at h
          simp only [cond_true] at h
          rw [if_pos (by simp only [Region.wanted, hgd, hy]; simpa using hw)]
          exact run h K' hK'
      · cases hgs : gskip ops fr j <;> rw [hgs] at h
        · exact h.elim
        · simp only [cond_true] at h
          have hy : yielded ops.toArray a.tmps j = none := gskip_ok hF hgs
          rw [if_neg (by simp [Region.wanted, hgd, hy])]
          rw [putK_eq] at h
          exact ⟨fun _ _ => trivial, hK' _ _ (ih _ M β _ w Q (by rw [bare_put]; exact put_ok hF o.dst (.inr ⟨rfl, rfl⟩)) ((put_defers _ _ _).trans hds) hR h hQ)⟩
end
theorem Le.relF {B M M' : Mm} {fr fr' : List SV} {β βb : Nat → Nat} {a : Act} (hl : Le B fr M fr' M') (hF : RelF β M.length fr a) (hag : ∀ k, k < M'.length → βb k = β k) : RelF βb M'.length fr' a :=
  ⟨by rw [hl.len]; exact hF.size, fun t x hx => by
    rcases hl.at' t x hx with e | ⟨e1, e2⟩
    · exact .inl e
    · rcases hF.at' t x e1 with e | ⟨_, e3⟩
      · exact .inl e
      · exact .inr ⟨e2, by rw [val_agree hag x e2]; exact e3⟩, hF.defers⟩
/-- One round of an iterator 'for { X; if !yield(x) { return }; Z }'. -/
def vIter (P : Program) (E : Env) (ops ops1 ops2 : List Oper) (d : Option Tmp) (f x c : Operand) (X Z : Code) (Mb : Mm) (n l : Nat) (xk : SV) (Ik : List (Nat × SV)) (I1 : Bool → List (Nat × SV)) (Inext : List (Nat × SV)) : Prop :=
  frK n Ik fun fr => vcode P E noW (vdraw P E) X fr Mb fun e fr1 M1 => match e with
    | .normal => vlist P E ops ops1 fr1 M1 fun fr2 M2 => (ev fr2 f = .v (.func (.yield l) #[] #[]) ∧ ev fr2 x = xk) ∧
        (putK fr2 d (.b true) fun fr3 => vLe Mb fr3 M2 n (I1 true) Mb (frK n (I1 true) fun fr4 => vlist P E ops ops2 fr4 Mb fun fr5 M5 => match ev fr5 c with
          | .b false => vcode P E noW (vdraw P E) Z fr5 M5 fun e fr6 M6 => match e with
            | .normal => vLe Mb fr6 M6 n Inext Mb True
            | _ => False
          | _ => False)) ∧
        (putK fr2 d (.b false) fun fr3 => vLe Mb fr3 M2 n (I1 false) Mb (frK n (I1 false) fun fr4 => vlist P E ops ops2 fr4 Mb fun fr5 M5 => match ev fr5 c with
          | .b true => True
          | _ => False))
    | _ => False
theorem iter_loop {P : Program} {E : Env} (hE : EnvOk P E) (hm : P.follows .mixedOrders = true) {m l n b0 b1 rid N : Nat} {Mb : Mm} {βb : Nat → Nat} {xs : Nat → SV} {X Z : Code} {ops1 ops2 : List Oper} {yo : Oper} {f x c : Operand} {ts : Array TypeId} (I : Nat → List (Nat × SV)) (I1 : Nat → Bool → List (Nat × SV)) {J : Nat → World → Prop} {Jx : World → Prop}
    (hyo : yo.op = .call { callee := .value f, args := #[x], argTypes := ts }) (hyg : yo.guard = none) (hfx : globOk E.G.length [f, x] = true) (hxw : ∀ k, (xs k).wf 0 = true)
    (hro : ∀ (k : Nat) (e : Ent), Mb[k]? = some e → e.rw = false)
    (hJ : ∀ k A B, J k A → Fp0 A B → J k B) (hJb : ∀ k A, J k A → Rel E.G βb Mb A) (hJx : ∀ A, Jx A → Rel E.G βb Mb A)
    (hY : ∀ k A, k < N → J k A → YieldAt (fen none) (m - 1) P l #[val βb (xs k)] A fun e B => (e = .returned (.bool true) ∧ k + 1 < N ∧ J (k + 1) B) ∨ (e = .returned (.bool false) ∧ Jx B))
    (hround : ∀ k, k < N → vIter P E (ops1 ++ yo :: ops2) ops1 ops2 yo.dst f x c X Z Mb n l (xs k) (I k) (I1 k) (I (k + 1)))
    {Q : Exit → Act → World → Prop} (hQ : ∀ a A W, Jx A → Fp0 A W → a.defers = [] → Q .ret a W)
    {a : Act} {w : World} (hN : 0 < N) (h0 : J 0 w) (hF : RelF βb Mb.length (mkF n (I 0)) a) :
    (Code.block b0 (.loop (.seq (.block b1 (.seq X (.seq (.region rid (ops1 ++ yo :: ops2).toArray false) (.cond c .ret .skip)))) Z))).wpIn (fen none) m P Q a w := by
  have bareE : ∀ {a : Act}, a.defers = [] → bare a = a := fun {a} h => by cases a; cases h; rfl
  have fp0 : ∀ {β : Nat → Nat} {M : Mm} {w w' : World}, Ext βb Mb w β M w' → Fp0 w w' := fun hx => hx.fp.mono fun b _ hb => by
    obtain ⟨k, e, he, hr, -⟩ := hb
    rw [hro k e he] at hr; cases hr
  refine wpIn_block (wpIn_loop_ghost (fun r a w => ∃ k, r = N - k ∧ k < N ∧ J k w ∧ RelF βb Mb.length (mkF n (I k)) a) N ⟨0, rfl, hN, h0, hF⟩ ?_)
  rintro r a w ⟨k, rfl, hk, hJk, hFk⟩
  have hr := hround k hk
  unfold vIter at hr
  rw [frK_eq] at hr
  have hRk := hJb k w hJk
  refine wpIn_seq (wpIn_block (wpIn_seq ?_))
  have hX := vcodeR_ok (R := none) (m := m) (ds := []) hE hm (B := Mb) (W := noW) (fun _ _ _ _ h => h.elim) X _ Mb _ hr βb w βb a w (Ext.refl _ _ _) (by rw [bareE hFk.defers]; exact hFk) hFk.defers hRk
  refine Code.wpIn_mono (fun e a1 w1 hh => ?_) hX
  obtain ⟨⟨β1, fr1, M1, e1, f1, r1, k1⟩, d1⟩ := hh
  cases e with
  | normal =>
    refine wpIn_seq (wpIn_region_list ?_)
    have e1' : ((ops1 ++ yo :: ops2).toArray).toList = ops1 ++ yo :: ops2 := rfl
    rw [e1']
    refine vlistR_app (R := none) (m := m) (ds := []) hE (ops := ops1 ++ yo :: ops2) (yo :: ops2) ops1 fr1 M1 β1 a1 w1 _ f1 d1 r1 k1 fun a2 w2 hh => ?_
    obtain ⟨⟨β2, fr2, M2, e2, f2, r2, ⟨kf, kx⟩, kt, kn⟩, d2⟩ := hh
    rw [bareE d2] at f2
    have ex := e1.trans e2
    have hag : ∀ t, t < Mb.length → βb t = β2 t := fun t ht => (ex.agree t ht).symm
    have hJ2 : J k w2 := hJ k w w2 hJk (fp0 ex)
    -- the call of yield
    have ef : a2.eval f = .func (.yield l) #[] #[] := by
      have q := ev_ok f2 r2 (l := [f, x]) hfx f (by simp)
      rw [kf] at q
      exact (q.resolve_left (fun e => nomatch e)).2
    have exx : a2.eval x = val βb (xs k) := by
      have q := ev_ok f2 r2 (l := [f, x]) hfx x (by simp)
      rw [kx] at q
      have hne : xs k ≠ .any := fun e => by have := hxw k; rw [e] at this; cases this
      rw [(q.resolve_left hne).2]
      exact val_agree (fun t ht => absurd ht (Nat.not_lt_zero t)) (xs k) (hxw k)
    refine wpListIn_step fun K' hK' => ?_
    rw [if_pos (by simp [Region.wanted, hyg])]
    have hy := hY k w2 hk hJ2
    rw [← exx] at hy
    refine yield_op hyo ef hy fun e w3 hr3 => ?_
    rcases hr3 with ⟨rfl, hkN, hJ3⟩ | ⟨rfl, hx3⟩
    · refine ⟨_, rfl, hK' _ _ ?_⟩
      rw [putK_eq] at kt
      obtain ⟨hle, kt⟩ := vLe_ok kt
      rw [frK_eq] at kt
      have f3 : RelF βb Mb.length (mkF n (I1 k true)) (a2.put yo.dst (.bool true)) := hle.relF (put_ok f2 yo.dst (x := .b true) (.inr ⟨rfl, rfl⟩)) hag
      have d3 : (a2.put yo.dst (.bool true)).defers = [] := (put_defers _ _ _).trans d2
      refine vlistR_ok (R := none) (m := m) (ds := []) hE (ops := ops1 ++ yo :: ops2) ops2 _ Mb βb _ w3 _ (by rw [bareE d3]; exact f3) d3 (hJb _ _ hJ3) kt fun a5 w5 hh => ?_
      obtain ⟨⟨β5, fr5, M5, e5, f5, r5, k5⟩, d5⟩ := hh
      split at k5
      · rename_i hc
        have hc' : a5.eval c = .bool false := cond_ev f5 hc
        refine wpIn_cond_false hc' (wpIn_skip ?_)
        have hZ := vcodeR_ok (R := none) (m := m) (ds := []) hE hm (B := Mb) (W := noW) (fun _ _ _ _ h => h.elim) Z fr5 M5 _ k5 βb w3 β5 a5 w5 e5 f5 d5 r5
        refine Code.wpIn_mono (fun e a6 w6 hh => ?_) hZ
        obtain ⟨⟨β6, fr6, M6, e6, f6, r6, k6⟩, d6⟩ := hh
        cases e with
        | normal =>
          obtain ⟨hle6, -⟩ := vLe_ok k6
          rw [bareE d6] at f6
          exact ⟨N - (k + 1), by omega, k + 1, rfl, hkN, hJ _ _ _ hJ3 (fp0 e6), hle6.relF f6 fun t ht => (e6.agree t ht).symm⟩
        | exit j => exact k6.elim
        | goto j => exact k6.elim
        | ret => exact k6.elim
        | panic ch => exact k6.elim
        | outgrown => exact k6.elim
      · exact k5.elim
    · refine ⟨_, rfl, hK' _ _ ?_⟩
      rw [putK_eq] at kn
      obtain ⟨hle, kn⟩ := vLe_ok kn
      rw [frK_eq] at kn
      have f3 : RelF βb Mb.length (mkF n (I1 k false)) (a2.put yo.dst (.bool false)) := hle.relF (put_ok f2 yo.dst (x := .b false) (.inr ⟨rfl, rfl⟩)) hag
      have d3 : (a2.put yo.dst (.bool false)).defers = [] := (put_defers _ _ _).trans d2
      refine vlistR_ok (R := none) (m := m) (ds := []) hE (ops := ops1 ++ yo :: ops2) ops2 _ Mb βb _ w3 _ (by rw [bareE d3]; exact f3) d3 (hJx _ hx3) kn fun a5 w5 hh => ?_
      obtain ⟨⟨β5, fr5, M5, e5, f5, r5, k5⟩, d5⟩ := hh
      split at k5
      · rename_i hc
        have hc' : a5.eval c = .bool true := cond_ev f5 hc
        exact wpIn_cond_true hc' (wpIn_ret (hQ a5 w3 w5 hx3 (fp0 e5) d5))
      · exact k5.elim
  | exit j => exact k1.elim
  | goto j => exact k1.elim
  | ret => exact k1.elim
  | panic ch => exact k1.elim
  | outgrown => exact k1.elim
end Go.Proofs.YtmalnjdacmlcdaaDoor
