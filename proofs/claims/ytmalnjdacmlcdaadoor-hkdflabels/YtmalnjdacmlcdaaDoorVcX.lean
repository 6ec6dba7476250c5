/-
  A reckoner of conditions: code that stands in a round's frame (the body of a range over a function), or in a plain one, behind a fence that lets everything in. No statement is proved here.
-/
import Derived.Test.YtmalnjdacmlcdaaDoorVcU
import Derived.Sort.LoopGhostIn
namespace Go.Proofs.YtmalnjdacmlcdaaDoor
open Go.RowKit
set_option linter.unusedVariables false
set_option linter.unusedSimpArgs false

/-- An activation, its deferred calls aside. -/
def bare (a : Act) : Act := { a with defers := [] }
theorem bare_put (a : Act) (d : Option Tmp) (v : Value) : bare (a.put d v) = (bare a).put d v := by cases d <;> rfl
theorem put_defers (a : Act) (d : Option Tmp) (v : Value) : (a.put d v).defers = a.defers := by cases d <;> rfl
theorem OpY.bare {P : Program} {x : Oper} {a : Act} {w : World} {K : Act → World → Prop} (h : OpY P x (bare a) w K) : OpY P x a w (fun a' w' => K (Proofs.YtmalnjdacmlcdaaDoor.bare a') w' ∧ a'.defers = a.defers) := by
  obtain ⟨h0, Rr, h1, h2⟩ := h
  exact ⟨h0, Rr, h1, fun v w' hv => ⟨by rw [bare_put]; exact h2 v w' hv, put_defers _ _ _⟩⟩
theorem RegI.bare {P : Program} {l : List Oper} {a : Act} {w : World} {Kf : Act → World → Prop} (h : RegI P l (bare a) w Kf) : RegI P l a w (fun a' w' => Kf (Proofs.YtmalnjdacmlcdaaDoor.bare a') w' ∧ a'.defers = a.defers) := by
  obtain ⟨I, h0, hs, he⟩ := h
  refine ⟨fun f a' w' => I f (Proofs.YtmalnjdacmlcdaaDoor.bare a') w' ∧ a'.defers = a.defers, ⟨h0, rfl⟩, fun f a' w' i x hI hf hx hd => ?_, fun f a' w' hI hall => ⟨he f _ w' hI.1 hall, hI.2⟩⟩
  obtain ⟨q1, q2⟩ := hs f _ w' i x hI.1 hf hx hd
  exact ⟨q1, q2.bare.mono fun a2 w2 q => ⟨q.1, q.2.trans hI.2⟩⟩
/-- What stands behind code, whatever calls are deferred. -/
def OutD (ds : List Deferred) (nG : Mm) (β : Nat → Nat) (M : Mm) (w : World) (K : List SV → Mm → Prop) (a' : Act) (w' : World) : Prop := OutS nG β M w K (bare a') w' ∧ a'.defers = ds
section
variable {P : Program} {E : Env} {R : Option Nat} {m : Nat} {ds : List Deferred}
theorem vlistR_ok (hE : EnvOk P E) {ops : List Oper} {K : List SV → Mm → Prop} : ∀ (l : List Oper) (fr : List SV) (M : Mm) (β : Nat → Nat) (a : Act) (w : World) (Q : Exit → Act → World → Prop), RelF β M.length fr (bare a) → a.defers = ds → Rel E.G β M w → vlist P E ops l fr M K → (∀ a' w', OutD ds E.G β M w K a' w' → Q .normal a' w') → wpListIn (fen R) m P ops.toArray Q l a w := by
  intro l
  induction l with
  | nil => intro fr M β a w Q hF hds hR h hQ; exact hQ a w ⟨⟨β, fr, M, Ext.refl _ _ _, hF, hR, h⟩, hds⟩
  | cons o l ih =>
    intro fr M β a w Q hF hds hR h hQ
    have run : vstep P E o fr M (fun r M2 => putK fr o.dst r fun fr2 => vlist P E ops l fr2 M2 K) → ∀ K' : Act → World → Prop, (∀ a w, wpListIn (fen R) m P ops.toArray Q l a w → K' a w) → o.wpIn (fen R) m P a w K' Q := by
      intro h K' hK'
      refine OpY.wpIn ⟨vstep_nd h, _, vstep_ok (a := bare a) hE hF hR h, fun v w' hv => hK' _ _ ?_⟩
      obtain ⟨β', M', r, h1, h2, h3, h4⟩ := hv
      rw [putK_eq] at h4
      exact ih _ M' β' _ w' Q (by rw [bare_put]; exact put_ok (hF.mono h1.len h1.agree) o.dst h3) ((put_defers _ _ _).trans hds) h2 h4 fun a' w'' h5 => hQ a' w'' ⟨OutS.trans h1 h5.1, h5.2⟩
    refine wpListIn_step fun K' hK' => ?_
    unfold vlist at h
    split at h
    · rename_i hgd
      rw [if_pos (by simp [Region.wanted, hgd])]
      exact run h K' hK'
    · rename_i j want hgd
      split at h
      · rename_i t hg
        have hy : yielded ops.toArray a.tmps j = some t := gval_ok hF hg
        cases hw : t == want
        · rw [hw] at h
          simp only [cond_false] at h
          rw [if_neg (by simp only [Region.wanted, hgd, hy]; simpa using hw)]
          rw [putK_eq] at h
          exact ⟨fun _ _ => trivial, hK' _ _ (ih _ M β _ w Q (by rw [bare_put]; exact put_ok hF o.dst (.inr ⟨rfl, rfl⟩)) ((put_defers _ _ _).trans hds) hR h hQ)⟩
        · rw [hw] at h
          simp only [cond_true] at h
          rw [if_pos (by simp only [Region.wanted, hgd, hy]; simpa using hw)]
          exact run h K' hK'
      · cases hgs : gskip ops fr j <;> rw [hgs] at h
        · exact h.elim
        · simp only [cond_true] at h
          have hy : yielded ops.toArray a.tmps j = none := gskip_ok hF hgs
          rw [if_neg (by simp [Region.wanted, hgd, hy])]
          rw [putK_eq] at h
          exact ⟨fun _ _ => trivial, hK' _ _ (ih _ M β _ w Q (by rw [bare_put]; exact put_ok hF o.dst (.inr ⟨rfl, rfl⟩)) ((put_defers _ _ _).trans hds) hR h hQ)⟩
/-- Code in such a frame leads from the frame fr and the blocks M to K. -/
def WpR (R : Option Nat) (m : Nat) (ds : List Deferred) (P : Program) (nG B : Mm) (c : Code) (fr : List SV) (M : Mm) (K : Ko) : Prop := ∀ β0 w0 β a w, Ext β0 B w0 β M w → RelF β M.length fr (bare a) → a.defers = ds → Rel nG β M w → c.wpIn (fen R) m P (fun e a' w' => OutD ds nG β0 B w0 (K e) a' w') a w
theorem WpR.mono {nG B : Mm} {c : Code} {fr : List SV} {M : Mm} {K K' : Ko} (h : WpR R m ds P nG B c fr M K) (hK : ∀ e fr' M', K e fr' M' → K' e fr' M') : WpR R m ds P nG B c fr M K' := fun β0 w0 β a w hx hF hd hR =>
  Code.wpIn_mono (fun e a' w' ⟨⟨β', fr', M', h1, h2, h3, h4⟩, h5⟩ => ⟨⟨β', fr', M', h1, h2, h3, hK _ _ _ h4⟩, h5⟩) (h β0 w0 β a w hx hF hd hR)
/-- A plain frame is one of these. -/
theorem Wp.wpR {nG B : Mm} {c : Code} {fr : List SV} {M : Mm} {K : Ko} (h : Wp P nG B c fr M K) : WpR none m [] P nG B c fr M K := fun β0 w0 β a w hx hF hd hR => by
  have e : bare a = a := by cases a; cases hd; rfl
  rw [e] at hF
  refine Code.wpIn_mono (fun e a' w' hh => ?_) (wpIn_wide.2 (h β0 w0 β a w hx hF hR))
  obtain ⟨β', fr', M', h1, h2, h3, h4⟩ := hh
  have e' : bare a' = a' := by have := h2.defers; cases a'; cases this; rfl
  exact ⟨⟨β', fr', M', h1, by rw [e']; exact h2, h3, h4⟩, h2.defers⟩
theorem WpR.wp {nG B : Mm} {c : Code} {fr : List SV} {M : Mm} {K : Ko} (h : WpR none m [] P nG B c fr M K) : Wp P nG B c fr M K := fun β0 w0 β a w hx hF hR => by
  have e : bare a = a := by have := hF.defers; cases a; cases this; rfl
  refine Code.wp_mono (fun e a' w' hh => ?_) (wpIn_wide.1 (h β0 w0 β a w hx (by rw [e]; exact hF) hF.defers hR))
  obtain ⟨⟨β', fr', M', h1, h2, h3, h4⟩, h5⟩ := hh
  have e' : bare a' = a' := by cases a'; cases h5; rfl
  exact ⟨β', fr', M', h1, by rw [e'] at h2; exact h2, h3, h4⟩
theorem vdrawN_okR' (hE : EnvOk P E) (hm : P.follows .mixedOrders = true) (R : Option Nat) (m : Nat) {n rid : Nat} {ops : List Oper} {fr : List SV} {M : Mm} {K : List SV → Mm → Prop} (h : vdrawN P E ops n fr M K) (β0 : Nat → Nat) (a0 : Act) (w0 : World) (hF0 : RelF β0 M.length fr (bare a0)) (hR0 : Rel E.G β0 M w0) : (Code.region rid ops.toArray true).wpIn (fen R) m P (fun e a' w' => e = .normal ∧ OutS E.G β0 M w0 K (bare a') w' ∧ a'.defers = a0.defers) a0 w0 := by
  obtain ⟨hlow, ⟨l, o, rfl⟩, hreg⟩ := vdrawN_reg hE h
  obtain ⟨I, h0, hs, he⟩ := (hreg β0 (bare a0) w0 hF0 hR0).bare
  exact wpIn_region_inv l o hm hlow I h0 hs (fun f a w hI hall => ⟨rfl, he f a w hI (by simpa using hall)⟩)
theorem vcodeR_ok (hE : EnvOk P E) (hm : P.follows .mixedOrders = true) {B : Mm} {W : Code → List SV → Mm → Ko → Prop} (hW : ∀ c fr M K, W c fr M K → WpR R m ds P E.G B c fr M K) : ∀ (c : Code) (fr : List SV) (M : Mm) (K : Ko), vcode P E W (vdraw P E) c fr M K → WpR R m ds P E.G B c fr M K := by
  intro c
  induction c with
  | skip => intro fr M K h β0 w0 β a w hx hF hd hR; exact wpIn_skip ⟨⟨β, fr, M, hx, hF, hR, h⟩, hd⟩
  | region id ops d =>
    intro fr M K h β0 w0 β a w hx hF hd hR
    cases d
    · refine wpIn_region_list ?_
      have := vlistR_ok (R := R) (m := m) (ds := ds) hE (ops := ops.toList) ops.toList fr M β a w (fun e a' w' => OutD ds E.G β0 B w0 (K e) a' w') hF hd hR h (fun a' w' h => ⟨OutS.trans hx h.1, h.2⟩)
      simpa using this
    · have := vdrawN_okR' hE hm R m (rid := id) h β a w hF hR
      refine Code.wpIn_mono (fun e a' w' hh => ?_) (by simpa using this)
      obtain ⟨rfl, ⟨β', fr', M', h1, h2, h3, h4⟩, h5⟩ := hh
      exact ⟨⟨β', fr', M', hx.trans h1, h2, h3, h4⟩, h5.trans hd⟩
  | seq x y ihx ihy =>
    intro fr M K h β0 w0 β a w hx hF hd hR
    refine wpIn_seq (Code.wpIn_mono (fun e a' w' hh => ?_) (ihx fr M _ h β0 w0 β a w hx hF hd hR))
    obtain ⟨⟨β', fr', M', h1, h2, h3, h4⟩, h5⟩ := hh
    cases e with
    | normal => exact ihy fr' M' K h4 β0 w0 β' a' w' h1 h2 h5 h3
    | exit id => exact ⟨⟨β', fr', M', h1, h2, h3, h4⟩, h5⟩
    | goto l => exact ⟨⟨β', fr', M', h1, h2, h3, h4⟩, h5⟩
    | ret => exact ⟨⟨β', fr', M', h1, h2, h3, h4⟩, h5⟩
    | panic ch => exact ⟨⟨β', fr', M', h1, h2, h3, h4⟩, h5⟩
    | outgrown => exact ⟨⟨β', fr', M', h1, h2, h3, h4⟩, h5⟩
  | cond c x y ihx ihy =>
    intro fr M K h β0 w0 β a w hx hF hd hR
    simp only [vcode] at h
    split at h
    · rename_i t hc
      refine wpIn_cond (cond_ev hF hc) ?_
      cases t
      · exact ihy fr M K h β0 w0 β a w hx hF hd hR
      · exact ihx fr M K h β0 w0 β a w hx hF hd hR
    · exact h.elim
  | block id c ih =>
    intro fr M K h β0 w0 β a w hx hF hd hR
    by_cases hl : ∃ c', c = .loop c'
    · obtain ⟨c', rfl⟩ := hl
      exact hW _ fr M K h β0 w0 β a w hx hF hd hR
    · have hv : vcode P E W (vdraw P E) (.block id c) fr M K = vcode P E W (vdraw P E) c fr M (fun e fr2 M2 => match e with
          | .exit j => bif Nat.beq j id then K .normal fr2 M2 else K (.exit j) fr2 M2
          | e => K e fr2 M2) := by
        cases c <;> first | rfl | exact absurd ⟨_, rfl⟩ hl
      rw [hv] at h
      refine wpIn_block (Code.wpIn_mono (fun e a' w' hh => ?_) (ih fr M _ h β0 w0 β a w hx hF hd hR))
      obtain ⟨⟨β', fr', M', h1, h2, h3, h4⟩, h5⟩ := hh
      cases e with
      | normal => exact ⟨⟨β', fr', M', h1, h2, h3, h4⟩, h5⟩
      | exit j =>
        show if j = id then _ else _
        split
        · rename_i e
          subst e
          simp only [Nat.beq_refl, cond_true] at h4
          exact ⟨⟨β', fr', M', h1, h2, h3, h4⟩, h5⟩
        · rename_i e
          have : Nat.beq j id = false := by
            cases hb : Nat.beq j id
            · rfl
            · exact absurd (Nat.eq_of_beq_eq_true hb) e
          simp only [this, cond_false] at h4
          exact ⟨⟨β', fr', M', h1, h2, h3, h4⟩, h5⟩
      | goto l => exact ⟨⟨β', fr', M', h1, h2, h3, h4⟩, h5⟩
      | ret => exact ⟨⟨β', fr', M', h1, h2, h3, h4⟩, h5⟩
      | panic ch => exact ⟨⟨β', fr', M', h1, h2, h3, h4⟩, h5⟩
      | outgrown => exact ⟨⟨β', fr', M', h1, h2, h3, h4⟩, h5⟩
  | exit id => intro fr M K h β0 w0 β a w hx hF hd hR; exact wpIn_exit ⟨⟨β, fr, M, hx, hF, hR, h⟩, hd⟩
  | ret => intro fr M K h β0 w0 β a w hx hF hd hR; exact wpIn_ret ⟨⟨β, fr, M, hx, hF, hR, h⟩, hd⟩
  | loop c ih => intro fr M K h; exact h.elim
  | rangeFunc f p x y => intro fr M K h; exact h.elim
  | scope c ih => intro fr M K h; exact h.elim
  | label l => intro fr M K h; exact h.elim
  | goto l => intro fr M K h; exact h.elim
  | refuse s => intro fr M K h; exact h.elim
/-- A loop in such a frame, by what holds ahead of each round. -/
theorem WpR.loop {nG B : Mm} {id : Nat} {c : Code} {fr : List SV} {M : Mm} {K : Ko} (J : Nat → List SV → Mm → Prop) (n0 : Nat) (h0 : J n0 fr M)
    (hround : ∀ n fr M, J n fr M → WpR R m ds P nG B c fr M (fun e fr' M' => match e with
      | .normal => ∃ n', n' < n ∧ J n' fr' M'
      | .exit j => j = id ∧ K .normal fr' M'
      | .ret => K .ret fr' M'
      | _ => False)) : WpR R m ds P nG B (.block id (.loop c)) fr M K := by
  intro β0 w0 β a w hx hF hd hR
  refine wpIn_block (wpIn_loop_ghost (fun n a w => ∃ β fr M, Ext β0 B w0 β M w ∧ RelF β M.length fr (bare a) ∧ a.defers = ds ∧ Rel nG β M w ∧ J n fr M) n0 ⟨β, fr, M, hx, hF, hd, hR, h0⟩ ?_)
  rintro n a w ⟨β, fr, M, hx, hF, hd, hR, hJ⟩
  refine Code.wpIn_mono (fun e a' w' hh => ?_) (hround n fr M hJ β0 w0 β a w hx hF hd hR)
  obtain ⟨⟨β', fr', M', h1, h2, h3, h4⟩, h5⟩ := hh
  cases e with
  | normal =>
    obtain ⟨n', hn, hJ'⟩ := h4
    exact ⟨n', hn, β', fr', M', h1, h2, h5, h3, hJ'⟩
  | exit j =>
    obtain ⟨rfl, h4⟩ := h4
    show if j = j then _ else _
    rw [if_pos rfl]
    exact ⟨⟨β', fr', M', h1, h2, h3, h4⟩, h5⟩
  | ret => exact ⟨⟨β', fr', M', h1, h2, h3, h4⟩, h5⟩
  | goto l => exact h4.elim
  | panic ch => exact h4.elim
  | outgrown => exact h4.elim
end
end Go.Proofs.YtmalnjdacmlcdaaDoor
