/-
  A reckoner of conditions: loops in which the function may be left; words that are worked out on the way. No statement is proved here.
-/
import Derived.Test.YtmeipcgkhgagpaaVcV
namespace Go.Proofs.Ytmeipcgkhgagpaa
open Go.RowKit
set_option linter.unusedVariables false
set_option linter.unusedSimpArgs false

/-- What a round of a loop leads to: the next state, the end where q holds, or the function is left. -/
def Kt (B : Mm) (id n : Nat) (a : Prop) (i' : List (Nat × SV)) (M' : Mm) (q : Prop) (o : List (Nat × SV)) (M1 : Mm) (z : Prop) (ro : List (Nat × SV)) (Mr : Mm) : Ko := fun e fr2 M2 => match e with
  | .normal => a ∧ vLe B fr2 M2 n i' M' True
  | .exit j => j = id ∧ q ∧ vLe B fr2 M2 n o M1 True
  | .ret => z ∧ vLe B fr2 M2 n ro Mr True
  | _ => False
/-- What is said of such a loop. -/
def vLoopR (B : Mm) (n : Nat) (i0 : List (Nat × SV)) (M0 : Mm) (q : Prop) (o : List (Nat × SV)) (M1 : Mm) (z : Prop) (ro : List (Nat × SV)) (Mr : Mm) (fr : List SV) (M : Mm) (K : Ko) : Prop := vLe B fr M n i0 M0 ((q → frK n o fun fr1 => K .normal fr1 M1) ∧ (z → frK n ro fun fr1 => K .ret fr1 Mr))
theorem loop_ret {P : Program} {E : Env} (hE : EnvOk P E) (hm : P.follows .mixedOrders = true) {B : Mm} {f id : Nat} {L : LT} (hL : LOk P E.G B f L) (hG : E.G.length ≤ B.length) (hl : isLoop id (loopOf P f id) = true) {n : Nat} {q z : Prop} {o ro : List (Nat × SV)} {M1 Mr : Mm} {ι : Type} (I : ι → List (Nat × SV)) (Mi : ι → Mm) (p : ι → Prop) (μ : ι → Nat) (next : ι → ι) (i0 : ι) (hp : p i0)
    (hround : ∀ i, p i → frK n (I i) fun fr => vround P E L f id fr (Mi i) (Kt B id n (p (next i) ∧ μ (next i) < μ i) (I (next i)) (Mi (next i)) q o M1 z ro Mr)) : ∀ fr M K, vLoopR B n (I i0) (Mi i0) q o M1 z ro Mr fr M K → Wp P E.G B (loopOf P f id) fr M K := by
  intro fr M K h
  obtain ⟨h0, hK, hZ⟩ := vLe_ok h
  rw [frK_eq] at hK hZ
  have hc : loopOf P f id = .block id (.loop (body (loopOf P f id))) := by
    unfold isLoop at hl
    split at hl
    · rename_i j c he
      obtain rfl := Nat.eq_of_beq_eq_true hl
      rw [he]; rfl
    · cases hl
  refine Wp.le hG h0 ?_
  rw [hc]
  refine Wp.loop (fun m fr M => ∃ i, p i ∧ μ i = m ∧ fr = mkF n (I i) ∧ M = Mi i) (μ i0) ⟨i0, hp, rfl, rfl, rfl⟩ ?_
  rintro m fr M ⟨i, hpi, rfl, rfl, rfl⟩
  have h := hround i hpi
  rw [frK_eq] at h
  refine Wp.post hG ((vcode_ok hE (wd_of hE hm hL) _ _ _ _ h).mono fun e fr' M' hk => ?_)
  cases e with
  | normal => obtain ⟨h1, h2⟩ := hk; exact ⟨_, _, (vLe_ok h2).1, _, h1.2, next i, h1.1, rfl, rfl, rfl⟩
  | exit j => obtain ⟨h1, h2, h3⟩ := hk; exact ⟨_, _, (vLe_ok h3).1, h1, hK h2⟩
  | ret => obtain ⟨h1, h2⟩ := hk; exact ⟨_, _, (vLe_ok h2).1, hZ h1⟩
  | goto l => exact hk.elim
  | panic ch => exact hk.elim
  | outgrown => exact hk.elim
/-- A word that is worked out before it is used. -/
def fw (x : BitVec 64) (K : BitVec 64 → Prop) : Prop := Nat.rec (motive := fun _ => Prop) (K 0#64) (fun m _ => K (BitVec.ofNat 64 (m + 1))) x.toNat
theorem fw_eq (x : BitVec 64) (K : BitVec 64 → Prop) : fw x K = K x := by
  have key : ∀ n : Nat, x.toNat = n → Nat.rec (motive := fun _ => Prop) (K 0#64) (fun m _ => K (BitVec.ofNat 64 (m + 1))) n = K x := by
    intro n h
    cases n with
    | zero =>
      have : 0#64 = x := BitVec.eq_of_toNat_eq (by rw [h]; rfl)
      exact congrArg K this
    | succ m =>
      have : BitVec.ofNat 64 (m + 1) = x := BitVec.eq_of_toNat_eq (by rw [h, BitVec.toNat_ofNat]; have := x.isLt; omega)
      exact congrArg K this
  exact key x.toNat rfl
def fl : List (BitVec 64) → (List (BitVec 64) → Prop) → Prop
  | [], K => K []
  | x :: l, K => fw x fun y => fl l fun m => K (y :: m)
theorem fl_eq : ∀ (l : List (BitVec 64)) (K : List (BitVec 64) → Prop), fl l K = K l
  | [], K => rfl
  | x :: l, K => by rw [fl, fw_eq, fl_eq l]
end Go.Proofs.Ytmeipcgkhgagpaa
