/-
  link: a small known run ends well. No statement is proved here.
-/
import Derived.Test.YtedcileokcbohaaDoorLiO
import Derived.Test.YtedcileokcbohaaDoorLiP
namespace Go.Proofs.YtedcileokcbohaaDoor
open Go.RowKit
set_option linter.unusedVariables false
set_option linter.unusedSimpArgs false
set_option maxRecDepth 100000

def cTakeF : List SV → Mm → (SV → Mm → Prop) → Prop
  | [.ptr k off, .agg [.w16 op, .s m', .w32 fa, .s tm, .w32 ta], .w64 n], M, K => onT M k off fun m o q f s j => vsome (sortB s.L && (Nat.ble m'.length 4294967296 && okQ q)) (∀ s', okT s' (tkLp q f o op m' fa tm ta n s.L) → putT M k j m o q f s' fun M2 => bif tkAns o op m' fa tm ta n then K (.tup [.agg [.w16 (BitVec.ofInt 16 2), .s m, .w32 o, .s m', .w32 fa], .b true, .i 0]) M2 else K (.tup [.agg [.w16 0, .s [], .w32 0, .s [], .w32 0], .b false, .i (tkE o op m' fa tm n)]) M2)
  | _, _, _ => False
theorem onT_mono {M : Mm} {k off : Nat} {F F' : Tx → BitVec 32 → Int → BitVec 64 → TS → Nat → Prop} (h : onT M k off F) (hF : ∀ m o q f s j, F m o q f s j → F' m o q f s j) : onT M k off F' := by
  unfold onT at h ⊢
  split at h
  · split at h
    · split at h
      · split at h
        · obtain ⟨h1, h2⟩ := h
          obtain ⟨h3, h4⟩ := vsome_iff.1 h2
          exact ⟨h1, vsome_iff.2 ⟨h3, hF _ _ _ _ _ _ h4⟩⟩
        · exact h.elim
      · exact h.elim
    · exact h.elim
  · exact h.elim
theorem takeF_ok : COk Tryd.prog G 24 cTakeF := by
  intro args M K h
  unfold cTakeF at h
  split at h
  · rename_i k off op m' fa tm ta n
    refine take_ok _ _ _ ?_
    unfold cTake
    dsimp only
    refine onT_mono h fun m o q f s j h => ?_
    obtain ⟨h1, h2⟩ := vsome_iff.1 h
    refine vsome_iff.2 ⟨h1, fun s' hs => ?_⟩
    have := h2 s' hs
    rw [putT_eq] at this ⊢
    cases ht : tkAns o op m' fa tm ta n
    · rw [ht] at this; exact this
    · rw [ht] at this
      have hE : tkE o op m' fa tm n = 0 := by
        unfold tkAns at ht
        rw [Bool.and_eq_true] at ht
        unfold tkE
        rw [ht.1]; rfl
      rw [hE]
      exact this
  · exact h.elim
def EW : Env := ⟨G, (T0.add 11 (cAr arT arE)).add 15 (cDa da1 da2 da3 da4 da5 daE), ((noC.add 22 cNew).add 24 cTakeF).add 28 cLook⟩
theorem ew_ok : EnvOk Tryd.prog EW := ⟨PT.add_ok (PT.add_ok t0_ok earp_ok) darp_ok, CT.add_ok (CT.add_ok (CT.add_ok (noC_ok _ _) new_ok) takeF_ok) look_ok⟩
theorem v8 (K : SV → Prop) : (vf Tryd.prog EW noL 8 [] G (fun r _ => K r)) = (s00.b = true ∧ ∀ (s' : TS), okT s' (tkLp 1 (BitVec.ofInt 64 10) (BitVec.ofInt 32 167772161) (BitVec.ofInt 16 1) (bts { data := #[2, 0, 0, 0, 0, 2] }) (BitVec.ofInt 32 167772162) (bts { data := #[0, 0, 0, 0, 0, 0] }) (BitVec.ofInt 32 167772161) (BitVec.ofInt 64 5) (mkT true 0 0 s00.l).L) → s'.b = s'.b ∧ bif (mkT s'.b s'.len s'.cap s'.l).ok then bif sortB (mkT s'.b s'.len s'.cap s'.l).L && true then ∀ (s'_1 : TS), okT s'_1 (pasL (BitVec.ofInt 64 14) (mkT s'.b s'.len s'.cap s'.l).L) → s'_1.b = s'_1.b ∧ bif (mkT s'_1.b s'_1.len s'_1.cap s'_1.l).ok then bif sortB (mkT s'_1.b s'_1.len s'_1.cap s'_1.l).L && true then ∀ (s'_2 : TS), okT s'_2 (pasL (BitVec.ofInt 64 15) (mkT s'_1.b s'_1.len s'_1.cap s'_1.l).L) → bif bif true then lkE (BitVec.ofInt 32 167772162) (BitVec.ofInt 64 14) (mkT s'.b s'.len s'.cap s'.l).L == 0 else false then bif bif true then lkT (BitVec.ofInt 32 167772162) (BitVec.ofInt 64 14) (mkT s'.b s'.len s'.cap s'.l).L == bts { data := #[2, 0, 0, 0, 0, 2] } else false then bif bif true then lkE (BitVec.ofInt 32 167772162) (BitVec.ofInt 64 15) (mkT s'_1.b s'_1.len s'_1.cap s'_1.l).L == 5 else false then K (SV.b (bif true then bif false then !(BitVec.ofInt 16 2 == da1 (arT (BitVec.ofInt 16 2) (bts { data := #[2, 0, 0, 0, 0, 1] }) (BitVec.ofInt 32 167772161) (bts { data := #[2, 0, 0, 0, 0, 2] }) (BitVec.ofInt 32 167772162)) && (bts { data := #[2, 0, 0, 0, 0, 1] } == da2 (arT (BitVec.ofInt 16 2) (bts { data := #[2, 0, 0, 0, 0, 1] }) (BitVec.ofInt 32 167772161) (bts { data := #[2, 0, 0, 0, 0, 2] }) (BitVec.ofInt 32 167772162)) && (BitVec.ofInt 32 167772161 == da3 (arT (BitVec.ofInt 16 2) (bts { data := #[2, 0, 0, 0, 0, 1] }) (BitVec.ofInt 32 167772161) (bts { data := #[2, 0, 0, 0, 0, 2] }) (BitVec.ofInt 32 167772162)) && (bts { data := #[2, 0, 0, 0, 0, 2] } == da4 (arT (BitVec.ofInt 16 2) (bts { data := #[2, 0, 0, 0, 0, 1] }) (BitVec.ofInt 32 167772161) (bts { data := #[2, 0, 0, 0, 0, 2] }) (BitVec.ofInt 32 167772162)) && (BitVec.ofInt 32 167772162 == da5 (arT (BitVec.ofInt 16 2) (bts { data := #[2, 0, 0, 0, 0, 1] }) (BitVec.ofInt 32 167772161) (bts { data := #[2, 0, 0, 0, 0, 2] }) (BitVec.ofInt 32 167772162)) && true))))) else BitVec.ofInt 16 2 == da1 (arT (BitVec.ofInt 16 2) (bts { data := #[2, 0, 0, 0, 0, 1] }) (BitVec.ofInt 32 167772161) (bts { data := #[2, 0, 0, 0, 0, 2] }) (BitVec.ofInt 32 167772162)) && (bts { data := #[2, 0, 0, 0, 0, 1] } == da2 (arT (BitVec.ofInt 16 2) (bts { data := #[2, 0, 0, 0, 0, 1] }) (BitVec.ofInt 32 167772161) (bts { data := #[2, 0, 0, 0, 0, 2] }) (BitVec.ofInt 32 167772162)) && (BitVec.ofInt 32 167772161 == da3 (arT (BitVec.ofInt 16 2) (bts { data := #[2, 0, 0, 0, 0, 1] }) (BitVec.ofInt 32 167772161) (bts { data := #[2, 0, 0, 0, 0, 2] }) (BitVec.ofInt 32 167772162)) && (bts { data := #[2, 0, 0, 0, 0, 2] } == da4 (arT (BitVec.ofInt 16 2) (bts { data := #[2, 0, 0, 0, 0, 1] }) (BitVec.ofInt 32 167772161) (bts { data := #[2, 0, 0, 0, 0, 2] }) (BitVec.ofInt 32 167772162)) && (BitVec.ofInt 32 167772162 == da5 (arT (BitVec.ofInt 16 2) (bts { data := #[2, 0, 0, 0, 0, 1] }) (BitVec.ofInt 32 167772161) (bts { data := #[2, 0, 0, 0, 0, 2] }) (BitVec.ofInt 32 167772162)) && true)))) else false)) else K (SV.b false) else K (SV.b false) else K (SV.b false) else False else False else False else False) := by kernel_rfl
def W1 : List Nr := [(BitVec.ofInt 32 167772162, [2, 0, 0, 0, 0, 2], BitVec.ofInt 64 15, ())]
theorem w1 : tkLp 1 (BitVec.ofInt 64 10) (BitVec.ofInt 32 167772161) (BitVec.ofInt 16 1) (bts { data := #[2, 0, 0, 0, 0, 2] }) (BitVec.ofInt 32 167772162) (bts { data := #[0, 0, 0, 0, 0, 0] }) (BitVec.ofInt 32 167772161) (BitVec.ofInt 64 5) (mkT true 0 0 s00.l).L = W1 := by kernel_rfl
theorem w2 : pasL (BitVec.ofInt 64 14) W1 = W1 := by kernel_rfl
theorem w3 : lkE (BitVec.ofInt 32 167772162) (BitVec.ofInt 64 14) W1 = 0 := by kernel_rfl
theorem w4 : (lkT (BitVec.ofInt 32 167772162) (BitVec.ofInt 64 14) W1 == bts { data := #[2, 0, 0, 0, 0, 2] }) = true := by kernel_rfl
theorem w5 : lkE (BitVec.ofInt 32 167772162) (BitVec.ofInt 64 15) W1 = 5 := by kernel_rfl
theorem w6 : sortB W1 = true := by kernel_rfl
def cWorks : List SV → List Cont → Option (Bool × SV)
  | [], _ => some (true, .b true)
  | _, _ => none
theorem works_ok : POk Tryd.prog G 8 cWorks := by
  intro args acs r hh β M w hR hw ha
  unfold cWorks at hh
  split at hh
  · simp only [Option.some.injEq, Prod.mk.injEq, true_and] at hh
    subst hh
    refine pokE rfl ew_ok (noL_ok _ _ _ _) (v8 _) ⟨rfl, fun s1 h1 => ⟨rfl, ?_⟩⟩ rfl rfl hR
    rw [w1] at h1
    refine bif_of h1.1 (bif_of (show (sortB s1.L && true) = true by rw [h1.2, w6]; rfl) fun s2 h2 => ⟨rfl, ?_⟩)
    replace h2 : okT s2 (pasL (BitVec.ofInt 64 14) s1.L) := h2
    rw [h1.2, w2] at h2
    refine bif_of h2.1 (bif_of (show (sortB s2.L && true) = true by rw [h2.2, w6]; rfl) fun s3 h3 => ?_)
    show bif bif true then lkE (BitVec.ofInt 32 167772162) (BitVec.ofInt 64 14) s1.L == 0 else false then bif bif true then lkT (BitVec.ofInt 32 167772162) (BitVec.ofInt 64 14) s1.L == bts { data := #[2, 0, 0, 0, 0, 2] } else false then bif bif true then lkE (BitVec.ofInt 32 167772162) (BitVec.ofInt 64 15) s2.L == 5 else false then _ else _ else _ else _
    rw [h1.2, h2.2, w3, w4, w5]
    exact congrArg SV.b (by kernel_rfl)
  · cases hh
end Go.Proofs.YtedcileokcbohaaDoor
