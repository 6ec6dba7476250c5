/-
  A reckoner of conditions: loops that are gone through round by round, where it is known how often. No statement is proved here.
-/
import Derived.Test.YtmeipcgkhgagpaaVcW
namespace Go.Proofs.Ytmeipcgkhgagpaa
open Go.RowKit
set_option linter.unusedVariables false
set_option linter.unusedSimpArgs false

/-- At most n rounds of a loop; inner loops by L. -/
def vUn (P : Program) (E : Env) (L : LT) (f id : Nat) : Nat → List SV → Mm → Ko → Prop
  | 0, _, _, _ => False
  | n + 1, fr, M, K => vround P E L f id fr M fun e fr' M' => match e with
    | .normal => vUn P E L f id n fr' M' K
    | .exit j => bif Nat.beq j id then K .normal fr' M' else False
    | .ret => K .ret fr' M'
    | _ => False
theorem un_ok {P : Program} {E : Env} (hE : EnvOk P E) (hm : P.follows .mixedOrders = true) {B : Mm} {f id : Nat} {L : LT} (hL : LOk P E.G B f L) (hl : isLoop id (loopOf P f id) = true) (n : Nat) : ∀ fr M K, vUn P E L f id n fr M K → Wp P E.G B (loopOf P f id) fr M K := by
  intro fr M K h
  have hc : loopOf P f id = .block id (.loop (body (loopOf P f id))) := by
    unfold isLoop at hl
    split at hl
    · rename_i j c he
      obtain rfl := Nat.eq_of_beq_eq_true hl
      rw [he]; rfl
    · cases hl
  rw [hc]
  refine Wp.loop (fun m fr M => vUn P E L f id m fr M K) n h ?_
  intro m fr M hJ
  cases m with
  | zero => exact hJ.elim
  | succ m =>
    refine (vcode_ok hE (wd_of hE hm hL) _ _ _ _ hJ).mono fun e fr' M' hk => ?_
    cases e with
    | normal => exact ⟨m, Nat.lt_succ_self m, hk⟩
    | exit j =>
      replace hk : bif Nat.beq j id then K .normal fr' M' else False := hk
      cases hb : Nat.beq j id <;> rw [hb] at hk
      · exact hk.elim
      · exact ⟨Nat.eq_of_beq_eq_true hb, hk⟩
    | ret => exact hk
    | goto l => exact hk.elim
    | panic ch => exact hk.elim
    | outgrown => exact hk.elim
/-- A loop that is gone through at most n times, laid into a table. -/
theorem LT.un_ok {P : Program} {E : Env} (hE : EnvOk P E) (hm : P.follows .mixedOrders = true) {B : Mm} {f id : Nat} {L L0 : LT} (hL0 : LOk P E.G B f L0) (hL : LOk P E.G B f L) (hl : isLoop id (loopOf P f id) = true) (n : Nat) : LOk P E.G B f (L0.add id (vUn P E L f id n)) := LT.add_ok hL0 (Proofs.Ytmeipcgkhgagpaa.un_ok hE hm hL hl n)
end Go.Proofs.Ytmeipcgkhgagpaa
