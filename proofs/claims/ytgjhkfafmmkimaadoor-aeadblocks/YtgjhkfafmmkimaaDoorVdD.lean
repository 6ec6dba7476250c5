/-
  A reckoner of conditions: iterators that go through something, and end. No statement is proved here.
-/
import Derived.Test.YtgjhkfafmmkimaaDoorVdC
namespace Go.Proofs.YtgjhkfafmmkimaaDoor
open Go.RowKit
set_option linter.unusedVariables false
set_option linter.unusedSimpArgs false

/-- One round of an iterator 'for C; c0 { X; if !yield(x) { return }; Z }'. -/
def vIterA (P : Program) (E : Env) (ops ops1 ops2 : List Oper) (d : Option Tmp) (f x c c0 : Operand) (C X Z : Code) (Mb : Mm) (n l : Nat) (xk : SV) (Ik : List (Nat × SV)) (I1 : Bool → List (Nat × SV)) (Inext : List (Nat × SV)) : Prop :=
  frK n Ik fun fr => vcode P E noW (vdraw P E) C fr Mb fun e fr0 M0 => match e with
    | .normal => (match ev fr0 c0 with
      | .b t => t = true ∧ vcode P E noW (vdraw P E) X fr0 M0 fun e fr1 M1 => match e with
        | .normal => vlist P E ops ops1 fr1 M1 fun fr2 M2 => (ev fr2 f = .v (.func (.yield l) #[] #[]) ∧ ev fr2 x = xk) ∧
            (putK fr2 d (.b true) fun fr3 => vLe Mb fr3 M2 n (I1 true) Mb (frK n (I1 true) fun fr4 => vlist P E ops ops2 fr4 Mb fun fr5 M5 => match ev fr5 c with
              | .b false => vcode P E noW (vdraw P E) Z fr5 M5 fun e fr6 M6 => match e with
                | .normal => vLe Mb fr6 M6 n Inext Mb True
                | _ => False
              | _ => False)) ∧
            (putK fr2 d (.b false) fun fr3 => vLe Mb fr3 M2 n (I1 false) Mb (frK n (I1 false) fun fr4 => vlist P E ops ops2 fr4 Mb fun fr5 M5 => match ev fr5 c with
              | .b true => True
              | _ => False))
        | _ => False
      | _ => False)
    | _ => False
/-- Its end. -/
def vIterE (P : Program) (E : Env) (c0 : Operand) (C : Code) (Mb : Mm) (n : Nat) (Ik : List (Nat × SV)) : Prop :=
  frK n Ik fun fr => vcode P E noW (vdraw P E) C fr Mb fun e fr0 M0 => match e with
    | .normal => (match ev fr0 c0 with
      | .b t => t = false
      | _ => False)
    | _ => False
theorem iterA_loop {P : Program} {E : Env} (hE : EnvOk P E) (hm : P.follows .mixedOrders = true) {m l n b0 b1 rid N : Nat} {Mb : Mm} {βb : Nat → Nat} {xs : Nat → SV} {C X Z : Code} {ops1 ops2 : List Oper} {yo : Oper} {f x c c0 : Operand} {ts : Array TypeId} (I : Nat → List (Nat × SV)) (I1 : Nat → Bool → List (Nat × SV)) {J : Nat → World → Prop} {Jx : World → Prop}
    (hyo : yo.op = .call { callee := .value f, args := #[x], argTypes := ts }) (hyg : yo.guard = none) (hfx : globOk E.G.length [f, x] = true) (hxw : ∀ k, (xs k).wf Mb.length = true)
    (hro : ∀ (k : Nat) (e : Ent), Mb[k]? = some e → e.rw = false)
    (hJ : ∀ k A B, J k A → Fp0 A B → J k B) (hJb : ∀ k A, J k A → Rel E.G βb Mb A) (hJx : ∀ A, Jx A → Rel E.G βb Mb A)
    (hY : ∀ k A, k < N → J k A → YieldAt (fen none) (m - 1) P l #[val βb (xs k)] A fun e B => (e = .returned (.bool true) ∧ J (k + 1) B) ∨ (e = .returned (.bool false) ∧ Jx B))
    (hround : ∀ k, k < N → vIterA P E (ops1 ++ yo :: ops2) ops1 ops2 yo.dst f x c c0 C X Z Mb n l (xs k) (I k) (I1 k) (I (k + 1)))
    (hend : vIterE P E c0 C Mb n (I N))
    {Q : Exit → Act → World → Prop} (hQ : ∀ a A W, Jx A → Fp0 A W → a.defers = [] → Q .ret a W) (hQn : ∀ a A W, J N A → Fp0 A W → a.defers = [] → Q .normal a W)
    {a : Act} {w : World} (h0 : J 0 w) (hF : RelF βb Mb.length (mkF n (I 0)) a) :
    (Code.block b0 (.loop (.seq (.seq C (.cond c0 .skip (.exit b0))) (.seq (.block b1 (.seq X (.seq (.region rid (ops1 ++ yo :: ops2).toArray false) (.cond c .ret .skip)))) Z)))).wpIn (fen none) m P Q a w := by
  have bareE : ∀ {a : Act}, a.defers = [] → bare a = a := fun {a} h => by cases a; cases h; rfl
  have fp0 : ∀ {β : Nat → Nat} {M : Mm} {w w' : World}, Ext βb Mb w β M w' → Fp0 w w' := fun hx => hx.fp.mono fun b _ hb => by
    obtain ⟨k, e, he, hr, -⟩ := hb
    rw [hro k e he] at hr; cases hr
  refine wpIn_block (wpIn_loop_ghost (fun r a w => ∃ k, r = N - k ∧ k ≤ N ∧ J k w ∧ RelF βb Mb.length (mkF n (I k)) a) N ⟨0, rfl, Nat.zero_le _, h0, hF⟩ ?_)
  rintro r a w ⟨k, rfl, hk, hJk, hFk⟩
  have hRk := hJb k w hJk
  rcases Nat.lt_or_ge k N with hkN | hkN
  · have hr := hround k hkN
    unfold vIterA at hr
    rw [frK_eq] at hr
    refine wpIn_seq (wpIn_seq ?_)
    have hC := vcodeR_ok (R := none) (m := m) (ds := []) hE hm (B := Mb) (W := noW) (fun _ _ _ _ h => h.elim) C _ Mb _ hr βb w βb a w (Ext.refl _ _ _) (by rw [bareE hFk.defers]; exact hFk) hFk.defers hRk
    refine Code.wpIn_mono (fun e a0 w0 hh => ?_) hC
    obtain ⟨⟨β0, fr0, M0, e0, f0, r0, k0⟩, d0⟩ := hh
    cases e with
    | normal =>
      replace k0 : (match ev fr0 c0 with
        | .b t => t = true ∧ vcode P E noW (vdraw P E) X fr0 M0 fun e fr1 M1 => match e with
          | .normal => vlist P E (ops1 ++ yo :: ops2) ops1 fr1 M1 fun fr2 M2 => (ev fr2 f = .v (.func (.yield l) #[] #[]) ∧ ev fr2 x = xs k) ∧
              (putK fr2 yo.dst (.b true) fun fr3 => vLe Mb fr3 M2 n (I1 k true) Mb (frK n (I1 k true) fun fr4 => vlist P E (ops1 ++ yo :: ops2) ops2 fr4 Mb fun fr5 M5 => match ev fr5 c with
                | .b false => vcode P E noW (vdraw P E) Z fr5 M5 fun e fr6 M6 => match e with
                  | .normal => vLe Mb fr6 M6 n (I (k + 1)) Mb True
                  | _ => False
                | _ => False)) ∧
              (putK fr2 yo.dst (.b false) fun fr3 => vLe Mb fr3 M2 n (I1 k false) Mb (frK n (I1 k false) fun fr4 => vlist P E (ops1 ++ yo :: ops2) ops2 fr4 Mb fun fr5 M5 => match ev fr5 c with
                | .b true => True
                | _ => False))
          | _ => False
        | _ => False) := k0
      split at k0
      · rename_i t hc0
        obtain ⟨rfl, k0⟩ := k0
        refine wpIn_cond_true (cond_ev f0 hc0) (wpIn_skip ?_)
        refine wpIn_seq (wpIn_block (wpIn_seq ?_))
        have hX := vcodeR_ok (R := none) (m := m) (ds := []) hE hm (B := Mb) (W := noW) (fun _ _ _ _ h => h.elim) X fr0 M0 _ k0 βb w β0 a0 w0 e0 f0 d0 r0
        refine Code.wpIn_mono (fun e a1 w1 hh => ?_) hX
        obtain ⟨⟨β1, fr1, M1, e1, f1, r1, k1⟩, d1⟩ := hh
        cases e with
        | normal =>
          refine wpIn_seq (wpIn_region_list ?_)
          have e1' : ((ops1 ++ yo :: ops2).toArray).toList = ops1 ++ yo :: ops2 := rfl
          rw [e1']
          refine vlistR_app (R := none) (m := m) (ds := []) hE (ops := ops1 ++ yo :: ops2) (yo :: ops2) ops1 fr1 M1 β1 a1 w1 _ f1 d1 r1 k1 fun a2 w2 hh => ?_
          obtain ⟨⟨β2, fr2, M2, e2, f2, r2, ⟨kf, kx⟩, kt, kn⟩, d2⟩ := hh
          rw [bareE d2] at f2
          have ex := e1.trans e2
          have hag : ∀ t, t < Mb.length → βb t = β2 t := fun t ht => (ex.agree t ht).symm
          have hJ2 : J k w2 := hJ k w w2 hJk (fp0 ex)
          have ef : a2.eval f = .func (.yield l) #[] #[] := by
            have q := ev_ok f2 r2 (l := [f, x]) hfx f (by simp)
            rw [kf] at q
            exact (q.resolve_left (fun e => nomatch e)).2
          have exx : a2.eval x = val βb (xs k) := by
            have q := ev_ok f2 r2 (l := [f, x]) hfx x (by simp)
            rw [kx] at q
            have hne : xs k ≠ .any := fun e => by have := hxw k; rw [e] at this; cases this
            rw [(q.resolve_left hne).2]
            exact val_agree (fun t ht => ex.agree t ht) (xs k) (hxw k)
          refine wpListIn_step fun K' hK' => ?_
          rw [if_pos (by simp [Region.wanted, hyg])]
          have hy := hY k w2 hkN hJ2
          rw [← exx] at hy
          refine yield_op hyo ef hy fun e w3 hr3 => ?_
          rcases hr3 with ⟨rfl, hJ3⟩ | ⟨rfl, hx3⟩
          · refine ⟨_, rfl, hK' _ _ ?_⟩
            rw [putK_eq] at kt
            obtain ⟨hle, kt⟩ := vLe_ok kt
            rw [frK_eq] at kt
            have f3 : RelF βb Mb.length (mkF n (I1 k true)) (a2.put yo.dst (.bool true)) := hle.relF (put_ok f2 yo.dst (x := .b true) (.inr ⟨rfl, rfl⟩)) hag
            have d3 : (a2.put yo.dst (.bool true)).defers = [] := (put_defers _ _ _).trans d2
            refine vlistR_ok (R := none) (m := m) (ds := []) hE (ops := ops1 ++ yo :: ops2) ops2 _ Mb βb _ w3 _ (by rw [bareE d3]; exact f3) d3 (hJb _ _ hJ3) kt fun a5 w5 hh => ?_
            obtain ⟨⟨β5, fr5, M5, e5, f5, r5, k5⟩, d5⟩ := hh
            split at k5
            · rename_i hc
              have hc' : a5.eval c = .bool false := cond_ev f5 hc
              refine wpIn_cond_false hc' (wpIn_skip ?_)
              have hZ := vcodeR_ok (R := none) (m := m) (ds := []) hE hm (B := Mb) (W := noW) (fun _ _ _ _ h => h.elim) Z fr5 M5 _ k5 βb w3 β5 a5 w5 e5 f5 d5 r5
              refine Code.wpIn_mono (fun e a6 w6 hh => ?_) hZ
              obtain ⟨⟨β6, fr6, M6, e6, f6, r6, k6⟩, d6⟩ := hh
              cases e with
              | normal =>
                obtain ⟨hle6, -⟩ := vLe_ok k6
                rw [bareE d6] at f6
                exact ⟨N - (k + 1), by omega, k + 1, rfl, hkN, hJ _ _ _ hJ3 (fp0 e6), hle6.relF f6 fun t ht => (e6.agree t ht).symm⟩
              | exit j => exact k6.elim
              | goto j => exact k6.elim
              | ret => exact k6.elim
              | panic ch => exact k6.elim
              | outgrown => exact k6.elim
            · exact k5.elim
          · refine ⟨_, rfl, hK' _ _ ?_⟩
            rw [putK_eq] at kn
            obtain ⟨hle, kn⟩ := vLe_ok kn
            rw [frK_eq] at kn
            have f3 : RelF βb Mb.length (mkF n (I1 k false)) (a2.put yo.dst (.bool false)) := hle.relF (put_ok f2 yo.dst (x := .b false) (.inr ⟨rfl, rfl⟩)) hag
            have d3 : (a2.put yo.dst (.bool false)).defers = [] := (put_defers _ _ _).trans d2
            refine vlistR_ok (R := none) (m := m) (ds := []) hE (ops := ops1 ++ yo :: ops2) ops2 _ Mb βb _ w3 _ (by rw [bareE d3]; exact f3) d3 (hJx _ hx3) kn fun a5 w5 hh => ?_
            obtain ⟨⟨β5, fr5, M5, e5, f5, r5, k5⟩, d5⟩ := hh
            split at k5
            · rename_i hc
              have hc' : a5.eval c = .bool true := cond_ev f5 hc
              exact wpIn_cond_true hc' (wpIn_ret (hQ a5 w3 w5 hx3 (fp0 e5) d5))
            · exact k5.elim
        | exit j => exact k1.elim
        | goto j => exact k1.elim
        | ret => exact k1.elim
        | panic ch => exact k1.elim
        | outgrown => exact k1.elim
      · exact k0.elim
    | exit j => exact k0.elim
    | goto j => exact k0.elim
    | ret => exact k0.elim
    | panic ch => exact k0.elim
    | outgrown => exact k0.elim
  · obtain rfl : k = N := by omega
    have hr := hend
    unfold vIterE at hr
    rw [frK_eq] at hr
    refine wpIn_seq (wpIn_seq ?_)
    have hC := vcodeR_ok (R := none) (m := m) (ds := []) hE hm (B := Mb) (W := noW) (fun _ _ _ _ h => h.elim) C _ Mb _ hr βb w βb a w (Ext.refl _ _ _) (by rw [bareE hFk.defers]; exact hFk) hFk.defers hRk
    refine Code.wpIn_mono (fun e a0 w0 hh => ?_) hC
    obtain ⟨⟨β0, fr0, M0, e0, f0, r0, k0⟩, d0⟩ := hh
    cases e with
    | normal =>
      replace k0 : (match ev fr0 c0 with
        | .b t => t = false
        | _ => False) := k0
      split at k0
      · rename_i t hc0
        subst k0
        refine wpIn_cond_false (cond_ev f0 hc0) (wpIn_exit ?_)
        show if b0 = b0 then _ else _
        rw [if_pos rfl]
        exact hQn a0 w w0 hJk (fp0 e0) d0
      · exact k0.elim
    | exit j => exact k0.elim
    | goto j => exact k0.elim
    | ret => exact k0.elim
    | panic ch => exact k0.elim
    | outgrown => exact k0.elim
theorem iterA_fun {P : Program} {E : Env} (hE : EnvOk P E) (hm : P.follows .mixedOrders = true) {n b0 b1 rid N gf : Nat} {fn : Func} {Mb : Mm} {βb : Nat → Nat} {xs : Nat → SV} {R0 C X Z : Code} {ops1 ops2 : List Oper} {yo : Oper} {f x c c0 : Operand} {ts : Array TypeId} {caps : List SV} (I : Nat → Nat → List (Nat × SV)) (I1 : Nat → Nat → Bool → List (Nat × SV))
    (hf : P.funcs[gf]? = some fn) (hb : fn.body = some (.seq R0 (.block b0 (.loop (.seq (.seq C (.cond c0 .skip (.exit b0))) (.seq (.block b1 (.seq X (.seq (.region rid (ops1 ++ yo :: ops2).toArray false) (.cond c .ret .skip)))) Z)))))) (hres : fn.results = #[])
    (hyo : yo.op = .call { callee := .value f, args := #[x], argTypes := ts }) (hyg : yo.guard = none) (hfx : globOk E.G.length [f, x] = true) (hxw : ∀ k, (xs k).wf Mb.length = true)
    (hro : ∀ (k : Nat) (e : Ent), Mb[k]? = some e → e.rw = false) (hcaps : SV.wf.wfs Mb.length caps = true)
    (hpre : ∀ l, padK (.v (.func (.yield l) #[] #[]) :: caps) fn.ntmps fun fr => vcode P E noW (vdraw P E) R0 fr Mb fun e fr1 M1 => match e with
      | .normal => vLe Mb fr1 M1 n (I l 0) Mb True
      | _ => False)
    (hround : ∀ l k, k < N → vIterA P E (ops1 ++ yo :: ops2) ops1 ops2 yo.dst f x c c0 C X Z Mb n l (xs k) (I l k) (I1 l k) (I l (k + 1)))
    (hend : ∀ l, vIterE P E c0 C Mb n (I l N)) :
    SeqAll P gf (vals βb caps).toArray (fun k => val βb (xs k)) N (fun W => Rel E.G βb Mb W) := by
  intro l m J Jx W hJ hJb hJx hY h0
  have bareE : ∀ {a : Act}, a.defers = [] → bare a = a := fun {a} h => by cases a; cases h; rfl
  have fp0 : ∀ {β : Nat → Nat} {M : Mm} {w w' : World}, Ext βb Mb w β M w' → Fp0 w w' := fun hx => hx.fp.mono fun b _ hb => by
    obtain ⟨k, e, he, hr, -⟩ := hb
    rw [hro k e he] at hr; cases hr
  obtain ⟨hl, hp⟩ := padK_ok _ _ _ (hpre l)
  have hargs : SV.wf.wfs Mb.length (.v (.func (.yield l) #[] #[]) :: caps) = true := by simp [SV.wf.wfs, SV.wf, hcaps]
  have ev0 : (#[.func (.yield l) #[] #[]] ++ (vals βb caps).toArray : Array Value) = (vals βb (.v (.func (.yield l) #[] #[]) :: caps)).toArray := by simp [vals, val]
  rw [ev0]
  generalize (SV.v (.func (.yield l) #[] #[]) :: caps) = args at *
  refine callsIn_of_wp hf hb trivial ?_
  have hF : RelF βb Mb.length (args ++ List.replicate (fn.ntmps - args.length) .any) { tmps := (vals βb args).toArray ++ Array.replicate (fn.ntmps - (vals βb args).toArray.size) undef, defers := [] } := by
    refine ⟨by simp [vals_map], fun k x hx => ?_, rfl⟩
    rcases Nat.lt_or_ge k args.length with q | q
    · rw [List.getElem?_append_left q] at hx
      refine .inr ⟨wfs_all.1 hargs x (List.mem_of_getElem? hx), ?_⟩
      rw [Array.getD_eq_getD_getElem?, Array.getElem?_append_left (by simpa [vals_map] using q)]
      simp [vals_map, hx]
    · rw [List.getElem?_append_right q] at hx
      exact .inl (List.eq_of_mem_replicate (List.mem_of_getElem? hx))
  refine wpIn_seq (Code.wpIn_mono (fun e a1 w1 hh => ?_) (vcodeR_ok (R := none) (m := m) (ds := []) hE hm (B := Mb) (W := noW) (fun _ _ _ _ h => h.elim) R0 _ Mb _ hp βb W βb _ W (Ext.refl _ _ _) hF rfl (hJb 0 W h0)))
  obtain ⟨⟨β1, fr1, M1, e1, f1, r1, k1⟩, d1⟩ := hh
  cases e with
  | normal =>
    obtain ⟨hle, -⟩ := vLe_ok k1
    rw [bareE d1] at f1
    refine iterA_loop hE hm (m := m) (l := l) (βb := βb) (xs := xs) (N := N) (Jx := Jx) (J := J) (I l) (I1 l) hyo hyg hfx hxw hro hJ hJb hJx (fun k A hk hA => ?_) (hround l) (hend l) (fun a A w3 hx hfp hd => ?_) (fun a A w3 hx hfp hd => ?_) (hJ 0 W w1 h0 (fp0 e1)) (hle.relF f1 fun t ht => (e1.agree t ht).symm)
    · exact yieldAt_depth (hY k A hk hA)
    · exact ⟨hd, _, results_none hres _ _ _, ⟨_, rfl⟩, .inr ⟨A, hx, hfp⟩⟩
    · exact ⟨hd, _, results_none hres _ _ _, ⟨_, rfl⟩, .inl ⟨A, hx, hfp⟩⟩
  | exit j => exact k1.elim
  | goto j => exact k1.elim
  | ret => exact k1.elim
  | panic ch => exact k1.elim
  | outgrown => exact k1.elim
/-- Some of the blocks, read alone; those that are '.gone' are but pointed to. -/
theorem rel_view2 {G : Mm} {β βb : Nat → Nat} {M Mb : Mm} {W : World} (hR : Rel G β M W) (τ : Nat → Nat) (hG : G.length ≤ Mb.length) (hpre : ∀ k, k < G.length → Mb[k]? = G[k]?) (hg : ∀ g, g < G.length → βb g = g) (hτ : ∀ k, k < Mb.length → βb k = β (τ k))
    (hv : ∀ (k : Nat) (e : Ent), Mb[k]? = some e → G.length ≤ k → e.rw = false ∧ e.c.wf Mb.length = true ∧ (e.c.here = true → ∃ r, M[τ k]? = some ⟨r, e.c.ren τ⟩)) : Rel G βb Mb W := by
  have low : ∀ (k : Nat) (e : Ent), Mb[k]? = some e → k < G.length → G[k]? = some e ∧ M[k]? = some e := fun k e he hk => by
    have h1 := (hpre k hk).symm.trans he
    exact ⟨h1, (hR.pre k hk).trans h1⟩
  have ro : ∀ (k : Nat) (e : Ent), Mb[k]? = some e → e.rw = false := fun k e he => by
    rcases Nat.lt_or_ge k G.length with q | q
    · exact (hR.ro k e (low k e he q).1).1
    · exact (hv k e he q).1
  refine ⟨fun k e he hc => ?_, fun i j x y hi hj hij hr _ _ => ?_, hg, hG, hpre, hR.ro, fun k e he => ?_⟩
  · rcases Nat.lt_or_ge k G.length with q | q
    · obtain ⟨h1, h2⟩ := low k e he q
      have h3 := hR.all k e h2 hc
      rw [hg k q]
      rw [hR.glob k q] at h3
      rw [cells_agree (β' := βb) (β := β) (fun t ht => (hg t ht).trans (hR.glob t ht).symm) _ (hR.ro k e h1).2]
      exact h3
    · obtain ⟨h1, h2, h3⟩ := hv k e he q
      obtain ⟨r, h3⟩ := h3 hc
      have h5 := hR.all _ _ h3 (by rw [here_ren]; exact hc)
      rw [cells_ren, shp_ren] at h5
      rw [hτ k (lt_of_get he), h1, cells_agree (β' := βb) (β := fun t => β (τ t)) (n := Mb.length) hτ _ h2]
      exact ⟨h5.lt, h5.cell, (fun h => nomatch h), h5.shp⟩
  · rw [ro i x hi] at hr; cases hr
  · rcases Nat.lt_or_ge k G.length with q | q
    · exact cwf_mono hG _ (hR.ro k e (low k e he q).1).2
    · exact (hv k e he q).2.1
end Go.Proofs.YtgjhkfafmmkimaaDoor
namespace Go.Proofs.YtgjhkfafmmkimaaDoor
open Go.RowKit
set_option linter.unusedVariables false
set_option linter.unusedSimpArgs false

/-- At most n rounds of a loop; inner loops by L. -/
def vUn (P : Program) (E : Env) (L : LT) (f id : Nat) : Nat → List SV → Mm → Ko → Prop
  | 0, _, _, _ => False
  | n + 1, fr, M, K => vround P E L f id fr M fun e fr' M' => match e with
    | .normal => vUn P E L f id n fr' M' K
    | .exit j => bif Nat.beq j id then K .normal fr' M' else False
    | .ret => K .ret fr' M'
    | _ => False
theorem un_ok {P : Program} {E : Env} (hE : EnvOk P E) (hm : P.follows .mixedOrders = true) {B : Mm} {f id : Nat} {L : LT} (hL : LOk P E.G B f L) (hl : isLoop id (loopOf P f id) = true) (n : Nat) : ∀ fr M K, vUn P E L f id n fr M K → Wp P E.G B (loopOf P f id) fr M K := by
  intro fr M K h
  have hc : loopOf P f id = .block id (.loop (body (loopOf P f id))) := by
    unfold isLoop at hl
    split at hl
    · rename_i j c he
      obtain rfl := Nat.eq_of_beq_eq_true hl
      rw [he]; rfl
    · cases hl
  rw [hc]
  refine Wp.loop (fun m fr M => vUn P E L f id m fr M K) n h ?_
  intro m fr M hJ
  cases m with
  | zero => exact hJ.elim
  | succ m =>
    refine (vcode_ok hE (wd_of hE hm hL) _ _ _ _ hJ).mono fun e fr' M' hk => ?_
    cases e with
    | normal => exact ⟨m, Nat.lt_succ_self m, hk⟩
    | exit j =>
      replace hk : bif Nat.beq j id then K .normal fr' M' else False := hk
      cases hb : Nat.beq j id <;> rw [hb] at hk
      · exact hk.elim
      · exact ⟨Nat.eq_of_beq_eq_true hb, hk⟩
    | ret => exact hk
    | goto l => exact hk.elim
    | panic ch => exact hk.elim
    | outgrown => exact hk.elim
/-- A loop that is gone through at most n times, laid into a table. -/
theorem LT.un_ok {P : Program} {E : Env} (hE : EnvOk P E) (hm : P.follows .mixedOrders = true) {B : Mm} {f id : Nat} {L L0 : LT} (hL0 : LOk P E.G B f L0) (hL : LOk P E.G B f L) (hl : isLoop id (loopOf P f id) = true) (n : Nat) : LOk P E.G B f (L0.add id (vUn P E L f id n)) := LT.add_ok hL0 (Proofs.YtgjhkfafmmkimaaDoor.un_ok hE hm hL hl n)
end Go.Proofs.YtgjhkfafmmkimaaDoor
namespace Go.Proofs.YtgjhkfafmmkimaaDoor
open Go.RowKit
set_option linter.unusedVariables false
set_option linter.unusedSimpArgs false

theorem loop_nextL {P : Program} {E : Env} (hE : EnvOk P E) (hm : P.follows .mixedOrders = true) {B : Mm} {f id : Nat} (hG : E.G.length ≤ B.length) (hl : isLoop id (loopOf P f id) = true) {n : Nat} {o : List (Nat × SV)} {M1 : Mm} {ι : Type} {L : ι → LT} (hL : ∀ i, LOk P E.G B f (L i)) (I : ι → List (Nat × SV)) (Mi : ι → Mm) (p : ι → Prop) (μ : ι → Nat) (next : ι → ι) (i0 : ι) (hp : p i0)
    (hround : ∀ i, p i → frK n (I i) fun fr => vround P E (L i) f id fr (Mi i) (Kn B id n (p (next i) ∧ μ (next i) < μ i) (I (next i)) (Mi (next i)) o M1)) : ∀ fr M K, vLoop B n (I i0) (Mi i0) o M1 fr M K → Wp P E.G B (loopOf P f id) fr M K := by
  intro fr M K h
  obtain ⟨h0, hK⟩ := vLoop_ok h
  have hc : loopOf P f id = .block id (.loop (body (loopOf P f id))) := by
    unfold isLoop at hl
    split at hl
    · rename_i j c he
      obtain rfl := Nat.eq_of_beq_eq_true hl
      rw [he]; rfl
    · cases hl
  refine Wp.le hG h0 ?_
  rw [hc]
  refine Wp.loop (fun m fr M => ∃ i, p i ∧ μ i = m ∧ fr = mkF n (I i) ∧ M = Mi i) (μ i0) ⟨i0, hp, rfl, rfl, rfl⟩ ?_
  rintro m fr M ⟨i, hpi, rfl, rfl, rfl⟩
  have h := hround i hpi
  rw [frK_eq] at h
  refine Wp.post hG ((vcode_ok hE (wd_of hE hm (hL i)) _ _ _ _ h).mono fun e fr' M' hk => ?_)
  cases e with
  | normal => obtain ⟨h1, h2⟩ := hk; exact ⟨_, _, (vLe_ok h2).1, _, h1.2, next i, h1.1, rfl, rfl, rfl⟩
  | exit j => obtain ⟨h1, h2⟩ := hk; exact ⟨_, _, (vLe_ok h2).1, h1, hK⟩
  | ret => exact hk.elim
  | goto l => exact hk.elim
  | panic ch => exact hk.elim
  | outgrown => exact hk.elim
end Go.Proofs.YtgjhkfafmmkimaaDoor
namespace Go.Proofs.YtgjhkfafmmkimaaDoor
open Go.RowKit
set_option linter.unusedVariables false
set_option linter.unusedSimpArgs false

theorem Spec.selE {P : Program} {G M : Mm} {f : Nat} {args : List SV} {ι : Type} {p : ι → Prop} {r' : ι → SV} {M' : ι → Mm} {rs : ι → List Nat} (hG : G.length ≤ M.length) (hr : ∀ i, isAny (r' i) = false) (hS : Spec P G f args M (fun r M1 => ∃ i, p i ∧ vLeR M [r] M1 1 [(0, r' i)] (M' i) (rs i) True)) : Spec P G f args M (fun r M1 => ∃ i, p i ∧ r = r' i ∧ M1 = M' i) := by
  intro β w hR hw
  refine (hS β w hR hw).mono fun v w' hh => ?_
  obtain ⟨β1, M1, r, hE, hR1, ⟨hwf, rfl⟩, i, hp, hK⟩ := hh
  obtain ⟨hl, -⟩ := vLeR_ok hK
  have hF : RelF β1 M1.length [r] { tmps := #[val β1 r], defers := [] } := by
    refine ⟨rfl, fun k x hx => ?_, rfl⟩
    cases k with
    | zero => obtain rfl := Option.some.inj hx; exact .inr ⟨hwf, rfl⟩
    | succ k => cases hx
  obtain ⟨h1, h2, h3⟩ := hl.go hG hE hF hR1
  have h4 := h2.at' 0 (r' i) rfl
  rcases h4 with e | ⟨e1, e2⟩
  · have := hr i; rw [e] at this; cases this
  · exact ⟨_, M' i, r' i, h1, h3, ⟨e1, e2⟩, i, hp, rfl, rfl⟩
end Go.Proofs.YtgjhkfafmmkimaaDoor
