/-
  A reckoner of conditions: loops; what is known less. No statement is proved here.
-/
import Derived.Test.YtkjfecdpakhggaaVcR
namespace Go.Proofs.Ytkjfecdpakhggaa
open Go.RowKit
set_option linter.unusedVariables false
set_option linter.unusedSimpArgs false

/-- A frame of n slots of which these are known. -/
def mkF (n : Nat) (l : List (Nat × SV)) : List SV := l.foldl (fun fr x => fr.set x.1 x.2) (List.replicate n .any)
def mkK : List SV → List (Nat × SV) → (List SV → Prop) → Prop
  | fr, [], K => K fr
  | fr, (t, x) :: l, K => setK fr t x fun fr2 => mkK fr2 l K
def frK (n : Nat) (l : List (Nat × SV)) (K : List SV → Prop) : Prop := repK n fun fr => mkK fr l K
theorem mkK_eq : ∀ (l : List (Nat × SV)) (fr : List SV) (K : List SV → Prop), mkK fr l K = K (l.foldl (fun fr x => fr.set x.1 x.2) fr)
  | [], fr, K => rfl
  | (t, x) :: l, fr, K => by rw [mkK, setK_eq, mkK_eq l]; rfl
theorem frK_eq (n : Nat) (l : List (Nat × SV)) (K : List SV → Prop) : frK n l K = K (mkF n l) := by rw [frK, repK_eq, mkK_eq]; rfl
/-- Less is known: slots that are unknown, blocks behind that are no more told of. -/
structure Le (B : Mm) (fr : List SV) (M : Mm) (fr' : List SV) (M' : Mm) : Prop where
  len : fr'.length = fr.length
  at' : ∀ (t : Nat) (x : SV), fr'[t]? = some x → x = .any ∨ (fr[t]? = some x ∧ x.wf M'.length = true)
  mem : ∃ X, M = M' ++ X
  wf : ∀ (k : Nat) (e : Ent), M'[k]? = some e → e.c.wf M'.length = true
  base : B.length ≤ M'.length
theorem Wp.le {P : Program} {nG B : Mm} {c : Code} {fr fr' : List SV} {M M' : Mm} {K : Ko} (hG : nG.length ≤ B.length) (hl : Le B fr M fr' M') (h : Wp P nG B c fr' M' K) : Wp P nG B c fr M K := by
  intro β0 w0 β a w hx hF hR
  obtain ⟨X, hX⟩ := hl.mem
  have pre : ∀ (k : Nat) (e : Ent), M'[k]? = some e → M[k]? = some e := fun k e he => by rw [hX, List.getElem?_append_left (lt_of_get he)]; exact he
  have back : ∀ (k : Nat) (e : Ent), k < M'.length → M[k]? = some e → M'[k]? = some e := fun k e hk he => by rw [hX, List.getElem?_append_left hk] at he; exact he
  have hlen : M'.length ≤ M.length := by rw [hX]; simp
  refine h β0 w0 β a w ⟨hx.agree, hl.base, fun b hb => ?_, hx.fp, fun k e he => ?_, fun k e hk he => hx.new k e hk (pre k e he)⟩ ⟨by rw [hl.len]; exact hF.size, fun t x hx' => ?_, hF.defers⟩ ⟨fun k e he hc => hR.all k e (pre k e he) hc, fun i j x y hi hj hij hr hxc hyc => hR.dis i j x y (pre i x hi) (pre j y hj) hij hr hxc hyc, hR.glob, Nat.le_trans hG hl.base, fun k hk => ?_, hR.ro, hl.wf⟩
  · obtain ⟨k, e, he, hr, hb⟩ := hb
    exact hx.rws _ ⟨k, e, pre k e he, hr, hb⟩
  · obtain ⟨d, h1, h2⟩ := hx.keep k e he
    exact ⟨d, back k _ (Nat.lt_of_lt_of_le (lt_of_get he) hl.base) h1, h2⟩
  · rcases hl.at' t x hx' with e | ⟨e1, e2⟩
    · exact .inl e
    · rcases hF.at' t x e1 with e | e
      · exact .inl e
      · exact .inr ⟨e2, e.2⟩
  · have hk' : k < M'.length := by have := hl.base; omega
    have h1 := hR.pre k hk
    have h2 : M'[k]? = some M'[k] := List.getElem?_eq_getElem hk'
    rw [← h1, pre k _ h2, h2]
/-- A loop, by what holds ahead of each round. -/
theorem Wp.loop {P : Program} {nG B : Mm} {id : Nat} {c : Code} {fr : List SV} {M : Mm} {K : Ko} (J : Nat → List SV → Mm → Prop) (n0 : Nat) (h0 : J n0 fr M)
    (hround : ∀ n fr M, J n fr M → Wp P nG B c fr M (fun e fr' M' => match e with
      | .normal => ∃ n', n' < n ∧ J n' fr' M'
      | .exit j => j = id ∧ K .normal fr' M'
      | .ret => K .ret fr' M'
      | _ => False)) : Wp P nG B (.block id (.loop c)) fr M K := by
  intro β0 w0 β a w hx hF hR
  refine wp_block (wp_loop_ghost (fun n a w => ∃ β fr M, Ext β0 B w0 β M w ∧ RelF β M.length fr a ∧ Rel nG β M w ∧ J n fr M) n0 ⟨β, fr, M, hx, hF, hR, h0⟩ ?_)
  rintro n a w ⟨β, fr, M, hx, hF, hR, hJ⟩
  refine Code.wp_mono (fun e a' w' hh => ?_) (hround n fr M hJ β0 w0 β a w hx hF hR)
  obtain ⟨β', fr', M', h1, h2, h3, h4⟩ := hh
  cases e with
  | normal =>
    obtain ⟨n', hn, hJ'⟩ := h4
    exact ⟨n', hn, β', fr', M', h1, h2, h3, hJ'⟩
  | exit j =>
    obtain ⟨rfl, h4⟩ := h4
    show if j = j then _ else _
    rw [if_pos rfl]
    exact ⟨β', fr', M', h1, h2, h3, h4⟩
  | ret => exact ⟨β', fr', M', h1, h2, h3, h4⟩
  | goto l => exact h4.elim
  | panic ch => exact h4.elim
  | outgrown => exact h4.elim
/-- The loop that stands in a block of that name. -/
def loopIn (id : Nat) : Code → Option Code
  | .seq a b => match loopIn id a with
    | some c => some c
    | none => loopIn id b
  | .cond _ a b => match loopIn id a with
    | some c => some c
    | none => loopIn id b
  | .block j c => bif Nat.beq j id then some (.block j c) else loopIn id c
  | .loop c => loopIn id c
  | .rangeFunc _ _ _ c => loopIn id c
  | .scope c => loopIn id c
  | _ => none
def loopOf (P : Program) (f id : Nat) : Code := match P.funcs[f]? with
  | some fn => match fn.body with
    | some c => (loopIn id c).getD .skip
    | none => .skip
  | none => .skip
/-- What is said of a function's loops. -/
abbrev LT := Nat → List SV → Mm → Ko → Prop
def Wl (P : Program) (f : Nat) (L : LT) (c : Code) (fr : List SV) (M : Mm) (K : Ko) : Prop := match c with
  | .block id c => .block id c = loopOf P f id ∧ L id fr M K
  | _ => False
def LOk (P : Program) (nG B : Mm) (f : Nat) (L : LT) : Prop := ∀ id fr M K, L id fr M K → Wp P nG B (loopOf P f id) fr M K
theorem wd_of {P : Program} {E : Env} (hE : EnvOk P E) (hm : P.follows .mixedOrders = true) {B : Mm} {f : Nat} {L : LT} (hL : LOk P E.G B f L) : WD P E.G B (Wl P f L) (vdraw P E) := by
  refine ⟨fun c fr M K h => ?_, fun id ops fr M K h => vdraw_ok hE hm h⟩
  unfold Wl at h
  split at h
  · rw [h.1]; exact hL _ fr M K h.2
  · exact h.elim
/-- A function's conditions, its loops and regions as told. -/
def vf (P : Program) (E : Env) (L : LT) (f : Nat) (args : List SV) (M : Mm) (K : SV → Mm → Prop) : Prop := vfun P E (Wl P f L) (vdraw P E) f args M K
theorem vf_ok {P : Program} {E : Env} (hE : EnvOk P E) (hm : P.follows .mixedOrders = true) {f : Nat} {L : LT} {args : List SV} {M : Mm} {K : SV → Mm → Prop} (hL : LOk P E.G M f L) (h : vf P E L f args M K) : Spec P E.G f args M K := vfun_ok hE (wd_of hE hm hL) h
def noL : LT := fun _ _ _ _ => False
theorem noL_ok (P : Program) (nG B : Mm) (f : Nat) : LOk P nG B f noL := fun _ _ _ _ h => h.elim
/-- One round of a loop. -/
def body (c : Code) : Code := match c with
  | .block _ (.loop c) => c
  | _ => .skip
def vround (P : Program) (E : Env) (L : LT) (f id : Nat) (fr : List SV) (M : Mm) (K : Ko) : Prop := vcode P E (Wl P f L) (vdraw P E) (body (loopOf P f id)) fr M K
def isLoop (id : Nat) (c : Code) : Bool := match c with
  | .block j (.loop _) => Nat.beq j id
  | _ => false
theorem loop_of {P : Program} {E : Env} (hE : EnvOk P E) (hm : P.follows .mixedOrders = true) {B : Mm} {f id : Nat} {L : LT} (hL : LOk P E.G B f L) (hG : E.G.length ≤ B.length) (hl : isLoop id (loopOf P f id) = true) {fr : List SV} {M : Mm} {K : Ko} {ι : Type} (I : ι → List SV) (Mi : ι → Mm) (μ : ι → Nat) (i0 : ι) (h0 : Le B fr M (I i0) (Mi i0))
    (hround : ∀ i, vround P E L f id (I i) (Mi i) (fun e fr' M' => match e with
      | .normal => ∃ i', μ i' < μ i ∧ Le B fr' M' (I i') (Mi i')
      | .exit j => j = id ∧ K .normal fr' M'
      | .ret => K .ret fr' M'
      | _ => False)) : Wp P E.G B (loopOf P f id) fr M K := by
  have hc : loopOf P f id = .block id (.loop (body (loopOf P f id))) := by
    unfold isLoop at hl
    split at hl
    · rename_i j c he
      obtain rfl := Nat.eq_of_beq_eq_true hl
      rw [he]; rfl
    · cases hl
  rw [hc]
  refine Wp.loop (fun n fr M => ∃ i, μ i = n ∧ Le B fr M (I i) (Mi i)) (μ i0) ⟨i0, rfl, h0⟩ ?_
  rintro n fr M ⟨i, rfl, hle⟩
  refine Wp.le hG hle ?_
  refine (vcode_ok hE (wd_of hE hm hL) _ _ _ _ (hround i)).mono fun e fr' M' h => ?_
  cases e with
  | normal =>
    obtain ⟨i', h1, h2⟩ := h
    exact ⟨μ i', h1, i', rfl, h2⟩
  | exit j => exact h
  | ret => exact h
  | goto l => exact h
  | panic ch => exact h
  | outgrown => exact h
end Go.Proofs.Ytkjfecdpakhggaa
