/-
  A reckoner of conditions: loops that are gone through round by round, where it is known how often. No statement is proved here.
-/
import Derived.Test.YtkjfecdpakhggaaVcV
namespace Go.Proofs.Ytkjfecdpakhggaa
open Go.RowKit
set_option linter.unusedVariables false
set_option linter.unusedSimpArgs false

/-- At most n rounds of a loop; inner loops by L. -/
def vUn (P : Program) (E : Env) (L : LT) (f id : Nat) : Nat → List SV → Mm → Ko → Prop
  | 0, _, _, _ => False
  | n + 1, fr, M, K => vround P E L f id fr M fun e fr' M' => match e with
    | .normal => vUn P E L f id n fr' M' K
    | .exit j => bif Nat.beq j id then K .normal fr' M' else False
    | .ret => K .ret fr' M'
    | _ => False
theorem un_ok {P : Program} {E : Env} (hE : EnvOk P E) (hm : P.follows .mixedOrders = true) {B : Mm} {f id : Nat} {L : LT} (hL : LOk P E.G B f L) (hl : isLoop id (loopOf P f id) = true) (n : Nat) : ∀ fr M K, vUn P E L f id n fr M K → Wp P E.G B (loopOf P f id) fr M K := by
  intro fr M K h
  have hc : loopOf P f id = .block id (.loop (body (loopOf P f id))) := by
    unfold isLoop at hl
    split at hl
    · rename_i j c he
      obtain rfl := Nat.eq_of_beq_eq_true hl
      rw [he]; rfl
    · cases hl
  rw [hc]
  refine Wp.loop (fun m fr M => vUn P E L f id m fr M K) n h ?_
  intro m fr M hJ
  cases m with
  | zero => exact hJ.elim
  | succ m =>
    refine (vcode_ok hE (wd_of hE hm hL) _ _ _ _ hJ).mono fun e fr' M' hk => ?_
    cases e with
    | normal => exact ⟨m, Nat.lt_succ_self m, hk⟩
    | exit j =>
      replace hk : bif Nat.beq j id then K .normal fr' M' else False := hk
      cases hb : Nat.beq j id <;> rw [hb] at hk
      · exact hk.elim
      · exact ⟨Nat.eq_of_beq_eq_true hb, hk⟩
    | ret => exact hk
    | goto l => exact hk.elim
    | panic ch => exact hk.elim
    | outgrown => exact hk.elim
/-- A loop that is gone through at most n times, laid into a table. -/
theorem LT.un_ok {P : Program} {E : Env} (hE : EnvOk P E) (hm : P.follows .mixedOrders = true) {B : Mm} {f id : Nat} {L L0 : LT} (hL0 : LOk P E.G B f L0) (hL : LOk P E.G B f L) (hl : isLoop id (loopOf P f id) = true) (n : Nat) : LOk P E.G B f (L0.add id (vUn P E L f id n)) := LT.add_ok hL0 (Proofs.Ytkjfecdpakhggaa.un_ok hE hm hL hl n)
end Go.Proofs.Ytkjfecdpakhggaa
namespace Go.Proofs.Ytkjfecdpakhggaa
open Go.RowKit
set_option linter.unusedVariables false
set_option linter.unusedSimpArgs false

theorem loop_nextL {P : Program} {E : Env} (hE : EnvOk P E) (hm : P.follows .mixedOrders = true) {B : Mm} {f id : Nat} (hG : E.G.length ≤ B.length) (hl : isLoop id (loopOf P f id) = true) {n : Nat} {o : List (Nat × SV)} {M1 : Mm} {ι : Type} {L : ι → LT} (hL : ∀ i, LOk P E.G B f (L i)) (I : ι → List (Nat × SV)) (Mi : ι → Mm) (p : ι → Prop) (μ : ι → Nat) (next : ι → ι) (i0 : ι) (hp : p i0)
    (hround : ∀ i, p i → frK n (I i) fun fr => vround P E (L i) f id fr (Mi i) (Kn B id n (p (next i) ∧ μ (next i) < μ i) (I (next i)) (Mi (next i)) o M1)) : ∀ fr M K, vLoop B n (I i0) (Mi i0) o M1 fr M K → Wp P E.G B (loopOf P f id) fr M K := by
  intro fr M K h
  obtain ⟨h0, hK⟩ := vLoop_ok h
  have hc : loopOf P f id = .block id (.loop (body (loopOf P f id))) := by
    unfold isLoop at hl
    split at hl
    · rename_i j c he
      obtain rfl := Nat.eq_of_beq_eq_true hl
      rw [he]; rfl
    · cases hl
  refine Wp.le hG h0 ?_
  rw [hc]
  refine Wp.loop (fun m fr M => ∃ i, p i ∧ μ i = m ∧ fr = mkF n (I i) ∧ M = Mi i) (μ i0) ⟨i0, hp, rfl, rfl, rfl⟩ ?_
  rintro m fr M ⟨i, hpi, rfl, rfl, rfl⟩
  have h := hround i hpi
  rw [frK_eq] at h
  refine Wp.post hG ((vcode_ok hE (wd_of hE hm (hL i)) _ _ _ _ h).mono fun e fr' M' hk => ?_)
  cases e with
  | normal => obtain ⟨h1, h2⟩ := hk; exact ⟨_, _, (vLe_ok h2).1, _, h1.2, next i, h1.1, rfl, rfl, rfl⟩
  | exit j => obtain ⟨h1, h2⟩ := hk; exact ⟨_, _, (vLe_ok h2).1, h1, hK⟩
  | ret => exact hk.elim
  | goto l => exact hk.elim
  | panic ch => exact hk.elim
  | outgrown => exact hk.elim
end Go.Proofs.Ytkjfecdpakhggaa
namespace Go.Proofs.Ytkjfecdpakhggaa
open Go.RowKit
set_option linter.unusedVariables false
set_option linter.unusedSimpArgs false

theorem Spec.selE {P : Program} {G M : Mm} {f : Nat} {args : List SV} {ι : Type} {p : ι → Prop} {r' : ι → SV} {M' : ι → Mm} {rs : ι → List Nat} (hG : G.length ≤ M.length) (hr : ∀ i, isAny (r' i) = false) (hS : Spec P G f args M (fun r M1 => ∃ i, p i ∧ vLeR M [r] M1 1 [(0, r' i)] (M' i) (rs i) True)) : Spec P G f args M (fun r M1 => ∃ i, p i ∧ r = r' i ∧ M1 = M' i) := by
  intro β w hR hw
  refine (hS β w hR hw).mono fun v w' hh => ?_
  obtain ⟨β1, M1, r, hE, hR1, ⟨hwf, rfl⟩, i, hp, hK⟩ := hh
  obtain ⟨hl, -⟩ := vLeR_ok hK
  have hF : RelF β1 M1.length [r] { tmps := #[val β1 r], defers := [] } := by
    refine ⟨rfl, fun k x hx => ?_, rfl⟩
    cases k with
    | zero => obtain rfl := Option.some.inj hx; exact .inr ⟨hwf, rfl⟩
    | succ k => cases hx
  obtain ⟨h1, h2, h3⟩ := hl.go hG hE hF hR1
  have h4 := h2.at' 0 (r' i) rfl
  rcases h4 with e | ⟨e1, e2⟩
  · have := hr i; rw [e] at this; cases this
  · exact ⟨_, M' i, r' i, h1, h3, ⟨e1, e2⟩, i, hp, rfl, rfl⟩
end Go.Proofs.Ytkjfecdpakhggaa
