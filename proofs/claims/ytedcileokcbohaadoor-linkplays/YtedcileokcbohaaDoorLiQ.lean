/-
  link: a small known run ends well. No statement is proved here.
-/
import Derived.Test.YtedcileokcbohaaDoorLiO
import Derived.Test.YtedcileokcbohaaDoorLiP
namespace Go.Proofs.YtedcileokcbohaaDoor
open Go.RowKit
set_option linter.unusedVariables false
set_option linter.unusedSimpArgs false
set_option maxRecDepth 100000

def cTakeF : List SV → Mm → (SV → Mm → Prop) → Prop
  | [.ptr k off, .agg [.w16 op, .s m', .w32 fa, .s tm, .w32 ta], .w64 n], M, K => onT M k off fun m o q f s j => vsome (sortB s.L && (Nat.ble m'.length 4294967296 && okQ q)) (∀ s', okT s' (tkLp q f o op m' fa tm ta n s.L) → putT M k j m o q f s' fun M2 => bif tkAns o op m' fa tm ta n then K (.tup [.agg [.w16 (BitVec.ofInt 16 2), .s m, .w32 o, .s m', .w32 fa], .b true, .i 0]) M2 else K (.tup [.agg [.w16 0, .s [], .w32 0, .s [], .w32 0], .b false, .i (tkE o op m' fa tm n)]) M2)
  | _, _, _ => False
theorem onT_mono {M : Mm} {k off : Nat} {F F' : Tx → BitVec 32 → Int → BitVec 64 → TS → Nat → Prop} (h : onT M k off F) (hF : ∀ m o q f s j, F m o q f s j → F' m o q f s j) : onT M k off F' := by
  unfold onT at h ⊢
  split at h
  · split at h
    · split at h
      · split at h
        · obtain ⟨h1, h2⟩ := h
          obtain ⟨h3, h4⟩ := vsome_iff.1 h2
          exact ⟨h1, vsome_iff.2 ⟨h3, hF _ _ _ _ _ _ h4⟩⟩
        · exact h.elim
      · exact h.elim
    · exact h.elim
  · exact h.elim
theorem takeF_ok : COk Tryd.prog G 24 cTakeF := by
  intro args M K h
  unfold cTakeF at h
  split at h
  · rename_i k off op m' fa tm ta n
    refine take_ok _ _ _ ?_
    unfold cTake
    dsimp only
    refine onT_mono h fun m o q f s j h => ?_
    obtain ⟨h1, h2⟩ := vsome_iff.1 h
    refine vsome_iff.2 ⟨h1, fun s' hs => ?_⟩
    have := h2 s' hs
    rw [putT_eq] at this ⊢
    cases ht : tkAns o op m' fa tm ta n
    · rw [ht] at this; exact this
    · rw [ht] at this
      have hE : tkE o op m' fa tm n = 0 := by
        unfold tkAns at ht
        rw [Bool.and_eq_true] at ht
        unfold tkE
        rw [ht.1]; rfl
      rw [hE]
      exact this
  · exact h.elim
def EW : Env := ⟨G, (T0.add 11 (cAr arT arE)).add 15 (cDa da1 da2 da3 da4 da5 daE), ((noC.add 22 cNew).add 24 cTakeF).add 28 cLook⟩
theorem ew_ok : EnvOk Tryd.prog EW := ⟨PT.add_ok (PT.add_ok t0_ok earp_ok) darp_ok, CT.add_ok (CT.add_ok (CT.add_ok (noC_ok _ _) new_ok) takeF_ok) look_ok⟩
theorem v8 (K : SV → Prop) : (vf Tryd.prog EW noL 8 [] G (fun r _ => K r)) = (s00.b = true ∧ ∀ (s' : TS), okT s' (tkLp 1 (BitVec.ofInt 64 10) (BitVec.ofInt 32 167772161) (BitVec.ofInt 16 1) (bts { data := #[2, 0, 0, 0, 0, 2] }) (BitVec.ofInt 32 167772162) (bts { data := #[0, 0, 0, 0, 0, 0] }) (BitVec.ofInt 32 167772161) (BitVec.ofInt 64 5) (mkT true 0 0 s00.l).L) → s'.b = s'.b ∧ bif (mkT s'.b s'.len s'.cap s'.l).ok then bif sortB (mkT s'.b s'.len s'.cap s'.l).L && true then ∀ (s'_1 : TS), okT s'_1 (pasL (BitVec.ofInt 64 14) (mkT s'.b s'.len s'.cap s'.l).L) → s'_1.b = s'_1.b ∧ bif (mkT s'_1.b s'_1.len s'_1.cap s'_1.l).ok then bif sortB (mkT s'_1.b s'_1.len s'_1.cap s'_1.l).L && true then ∀ (s'_2 : TS), okT s'_2 (pasL (BitVec.ofInt 64 15) (mkT s'_1.b s'_1.len s'_1.cap s'_1.l).L) → bif bif true then lkE (BitVec.ofInt 32 167772162) (BitVec.ofInt 64 14) (mkT s'.b s'.len s'.cap s'.l).L == 0 else false then bif bif true then lkT (BitVec.ofInt 32 167772162) (BitVec.ofInt 64 14) (mkT s'.b s'.len s'.cap s'.l).L == bts { data := #[2, 0, 0, 0, 0, 2] } else false then bif bif true then lkE (BitVec.ofInt 32 167772162) (BitVec.ofInt 64 15) (mkT s'_1.b s'_1.len s'_1.cap s'_1.l).L == 5 else false then K (SV.b (bif true then bif false then !(BitVec.ofInt 16 2 == da1 (arT (BitVec.ofInt 16 2) (bts { data := #[2, 0, 0, 0, 0, 1] }) (BitVec.ofInt 32 167772161) (bts { data := #[2, 0, 0, 0, 0, 2] }) (BitVec.ofInt 32 167772162)) && (bts { data := #[2, 0, 0, 0, 0, 1] } == da2 (arT (BitVec.ofInt 16 2) (bts { data := #[2, 0, 0, 0, 0, 1] }) (BitVec.ofInt 32 167772161) (bts { data := #[2, 0, 0, 0, 0, 2] }) (BitVec.ofInt 32 167772162)) && (BitVec.ofInt 32 167772161 == da3 (arT (BitVec.ofInt 16 2) (bts { data := #[2, 0, 0, 0, 0, 1] }) (BitVec.ofInt 32 167772161) (bts { data := #[2, 0, 0, 0, 0, 2] }) (BitVec.ofInt 32 167772162)) && (bts { data := #[2, 0, 0, 0, 0, 2] } == da4 (arT (BitVec.ofInt 16 2) (bts { data := #[2, 0, 0, 0, 0, 1] }) (BitVec.ofInt 32 167772161) (bts { data := #[2, 0, 0, 0, 0, 2] }) (BitVec.ofInt 32 167772162)) && (BitVec.ofInt 32 167772162 == da5 (arT (BitVec.ofInt 16 2) (bts { data := #[2, 0, 0, 0, 0, 1] }) (BitVec.ofInt 32 167772161) (bts { data := #[2, 0, 0, 0, 0, 2] }) (BitVec.ofInt 32 167772162)) && true))))) else BitVec.ofInt 16 2 == da1 (arT (BitVec.ofInt 16 2) (bts { data := #[2, 0, 0, 0, 0, 1] }) (BitVec.ofInt 32 167772161) (bts { data := #[2, 0, 0, 0, 0, 2] }) (BitVec.ofInt 32 167772162)) && (bts { data := #[2, 0, 0, 0, 0, 1] } == da2 (arT (BitVec.ofInt 16 2) (bts { data := #[2, 0, 0, 0, 0, 1] }) (BitVec.ofInt 32 167772161) (bts { data := #[2, 0, 0, 0, 0, 2] }) (BitVec.ofInt 32 167772162)) && (BitVec.ofInt 32 167772161 == da3 (arT (BitVec.ofInt 16 2) (bts { data := #[2, 0, 0, 0, 0, 1] }) (BitVec.ofInt 32 167772161) (bts { data := #[2, 0, 0, 0, 0, 2] }) (BitVec.ofInt 32 167772162)) && (bts { data := #[2, 0, 0, 0, 0, 2] } == da4 (arT (BitVec.ofInt 16 2) (bts { data := #[2, 0, 0, 0, 0, 1] }) (BitVec.ofInt 32 167772161) (bts { data := #[2, 0, 0, 0, 0, 2] }) (BitVec.ofInt 32 167772162)) && (BitVec.ofInt 32 167772162 == da5 (arT (BitVec.ofInt 16 2) (bts { data := #[2, 0, 0, 0, 0, 1] }) (BitVec.ofInt 32 167772161) (bts { data := #[2, 0, 0, 0, 0, 2] }) (BitVec.ofInt 32 167772162)) && true)))) else false)) else K (SV.b false) else K (SV.b false) else K (SV.b false) else False else False else False else False) := by kernel_rfl
def W1 : List Nr := [(BitVec.ofInt 32 167772162, [2, 0, 0, 0, 0, 2], BitVec.ofInt 64 15, ())]
theorem w1 : tkLp 1 (BitVec.ofInt 64 10) (BitVec.ofInt 32 167772161) (BitVec.ofInt 16 1) (bts { data := #[2, 0, 0, 0, 0, 2] }) (BitVec.ofInt 32 167772162) (bts { data := #[0, 0, 0, 0, 0, 0] }) (BitVec.ofInt 32 167772161) (BitVec.ofInt 64 5) (mkT true 0 0 s00.l).L = W1 := by kernel_rfl
theorem w2 : pasL (BitVec.ofInt 64 14) W1 = W1 := by kernel_rfl
theorem w3 : lkE (BitVec.ofInt 32 167772162) (BitVec.ofInt 64 14) W1 = 0 := by kernel_rfl
theorem w4 : (lkT (BitVec.ofInt 32 167772162) (BitVec.ofInt 64 14) W1 == bts { data := #[2, 0, 0, 0, 0, 2] }) = true := by kernel_rfl
theorem w5 : lkE (BitVec.ofInt 32 167772162) (BitVec.ofInt 64 15) W1 = 5 := by kernel_rfl
theorem w6 : sortB W1 = true := by kernel_rfl
def cWorks : List SV → List Cont → Option (Bool × SV)
  | [], _ => some (true, .b true)
  | _, _ => none
theorem works_ok : POk Tryd.prog G 8 cWorks := by
  intro args acs r hh β M w hR hw ha
  unfold cWorks at hh
  split at hh
  · simp only [Option.some.injEq, Prod.mk.injEq, true_and] at hh
    subst hh
    refine pokE rfl ew_ok (noL_ok _ _ _ _) (v8 _) ⟨rfl, fun s1 h1 => ⟨rfl, ?_⟩⟩ rfl rfl hR
    rw [w1] at h1
    refine bif_of h1.1 (bif_of (show (sortB s1.L && true) = true by rw [h1.2, w6]; rfl) fun s2 h2 => ⟨rfl, ?_⟩)
    replace h2 : okT s2 (pasL (BitVec.ofInt 64 14) s1.L) := h2
    rw [h1.2, w2] at h2
    refine bif_of h2.1 (bif_of (show (sortB s2.L && true) = true by rw [h2.2, w6]; rfl) fun s3 h3 => ?_)
    show bif bif true then lkE (BitVec.ofInt 32 167772162) (BitVec.ofInt 64 14) s1.L == 0 else false then bif bif true then lkT (BitVec.ofInt 32 167772162) (BitVec.ofInt 64 14) s1.L == bts { data := #[2, 0, 0, 0, 0, 2] } else false then bif bif true then lkE (BitVec.ofInt 32 167772162) (BitVec.ofInt 64 15) s2.L == 5 else false then _ else _ else _ else _
    rw [h1.2, h2.2, w3, w4, w5]
    exact congrArg SV.b (by kernel_rfl)
  · cases hh
end Go.Proofs.YtedcileokcbohaaDoor
namespace Go.Proofs.YtedcileokcbohaaDoor
open Go.RowKit
set_option linter.unusedVariables false
set_option linter.unusedSimpArgs false
set_option maxRecDepth 100000

def E7 : Env := ⟨G, (T0.add 8 cWorks).add 32 cAsk, (((noC.add 24 cTake).add 28 cLook).add 26 cLearn).add 30 cNear⟩
theorem e7_ok : EnvOk Tryd.prog E7 := ⟨PT.add_ok (PT.add_ok t0_ok works_ok) ask_ok, CT.add_ok (CT.add_ok (CT.add_ok (CT.add_ok (noC_ok _ _) take_ok) look_ok) learn_ok) near_ok⟩
theorem v7 (a : BitVec 32) (n : BitVec 64) (K : SV → Prop) : (vf Tryd.prog E7 noL 7 [.w32 a, .w64 n] G (fun r _ => K r)) = (K (SV.b (bif true then true else false))) := by kernel_rfl
def E3 (W : List SV → List Cont → Option (Bool × SV)) (ET : Tx → Tx → BitVec 16 → Tx → Tx) (EE : Tx → Tx → BitVec 16 → Tx → Int) (AT : BitVec 16 → Tx → BitVec 32 → Tx → BitVec 32 → Tx) (AE : BitVec 16 → Tx → Tx → Int) (C1 C2 : Tx → Tx) (C3 : Tx → BitVec 16) (C4 : Tx → Tx) (CE : Tx → Int) (D1 : Tx → BitVec 16) (D2 : Tx → Tx) (D3 : Tx → BitVec 32) (D4 : Tx → Tx) (D5 : Tx → BitVec 32) (DE : Tx → Int) (AM : Tx → Bool) (AA : BitVec 32 → Bool) : Env := ⟨G, ((((((((((((T0.add 8 W).add 9 (cEn ET EE)).add 10 (cEn ET EE)).add 11 (cAr AT AE)).add 12 (cAr AT AE)).add 13 (cDc C1 C2 C3 C4 CE)).add 14 (cDc C1 C2 C3 C4 CE)).add 15 (cDa D1 D2 D3 D4 D5 DE)).add 16 (cDa D1 D2 D3 D4 D5 DE)).add 17 (cM AM)).add 18 (cM AM)).add 19 (cA AA)).add 20 (cA AA), noC⟩
theorem v3 (ET : Tx → Tx → BitVec 16 → Tx → Tx) (EE : Tx → Tx → BitVec 16 → Tx → Int) (AT : BitVec 16 → Tx → BitVec 32 → Tx → BitVec 32 → Tx) (AE : BitVec 16 → Tx → Tx → Int) (C1 C2 : Tx → Tx) (C3 : Tx → BitVec 16) (C4 : Tx → Tx) (CE : Tx → Int) (D1 : Tx → BitVec 16) (D2 : Tx → Tx) (D3 : Tx → BitVec 32) (D4 : Tx → Tx) (D5 : Tx → BitVec 32) (DE : Tx → Int) (AM : Tx → Bool) (AA : BitVec 32 → Bool) (d s x z a b : Tx) (t o : BitVec 16) (u v : BitVec 32) (K : SV → Prop) : (vf Tryd.prog (E3 cWorks ET EE AT AE C1 C2 C3 C4 CE D1 D2 D3 D4 D5 DE AM AA) noL 3 [.agg [.s d, .s s, .w16 t, .s x], .agg [.w16 o, .s a, .w32 u, .s b, .w32 v], .s z] G (fun r _ => K r)) = (bif inI ((↑(List.length d) : Int) + (↑(List.length s) : Int)) then bif inI ((↑(List.length d) : Int) + (↑(List.length s) : Int) + (↑(List.length a) : Int)) then bif inI ((↑(List.length d) : Int) + (↑(List.length s) : Int) + (↑(List.length a) : Int) + (↑(List.length b) : Int)) then bif ilt 1024 ((↑(List.length d) : Int) + (↑(List.length s) : Int) + (↑(List.length a) : Int) + (↑(List.length b) : Int)) then K (SV.b true) else bif bif false then true else ilt 8192 (↑(List.length x) : Int) then K (SV.b true) else bif bif false then true else ilt 8192 (↑(List.length z) : Int) then K (SV.b true) else bif (List.length z).ble 4294967296 then bif (List.length z).ble 4294967296 then bif (List.length z).ble 4294967296 then bif (List.length z).ble 4294967296 then bif bif false then !AM d == AM d else AM d == AM d then bif ET d s t x == ET d s t x then bif bif true then EE d s t x == EE d s t x else false then bif bif true then AT o a u b v == AT o a u b v else false then bif bif true then AE o a b == AE o a b else false then bif bif true then bif false then !(C1 z == C1 z && (C2 z == C2 z && (C3 z == C3 z && (C4 z == C4 z && true)))) else C1 z == C1 z && (C2 z == C2 z && (C3 z == C3 z && (C4 z == C4 z && true))) else false then bif bif true then CE z == CE z else false then bif bif true then bif false then !(D1 z == D1 z && (D2 z == D2 z && (D3 z == D3 z && (D4 z == D4 z && (D5 z == D5 z && true))))) else D1 z == D1 z && (D2 z == D2 z && (D3 z == D3 z && (D4 z == D4 z && (D5 z == D5 z && true)))) else false then bif bif true then DE z == DE z else false then bif bif true then bif true then bif false then !AA u == AA u else AA u == AA u else false else false then K (SV.b (bif true then true else false)) else K (SV.b false) else K (SV.b false) else K (SV.b false) else K (SV.b false) else K (SV.b false) else K (SV.b false) else K (SV.b false) else K (SV.b false) else K (SV.b false) else bif ET d s t x == ET d s t x then bif bif true then EE d s t x == EE d s t x else false then bif bif true then AT o a u b v == AT o a u b v else false then bif bif true then AE o a b == AE o a b else false then bif bif true then bif false then !(C1 z == C1 z && (C2 z == C2 z && (C3 z == C3 z && (C4 z == C4 z && true)))) else C1 z == C1 z && (C2 z == C2 z && (C3 z == C3 z && (C4 z == C4 z && true))) else false then bif bif true then CE z == CE z else false then bif bif true then bif false then !(D1 z == D1 z && (D2 z == D2 z && (D3 z == D3 z && (D4 z == D4 z && (D5 z == D5 z && true))))) else D1 z == D1 z && (D2 z == D2 z && (D3 z == D3 z && (D4 z == D4 z && (D5 z == D5 z && true)))) else false then bif bif true then DE z == DE z else false then K (SV.b false) else K (SV.b false) else K (SV.b false) else K (SV.b false) else K (SV.b false) else K (SV.b false) else K (SV.b false) else K (SV.b false) else K (SV.b false) else False else False else False else False else False else False else False) := by kernel_rfl
theorem law7_ok (a : BitVec 32) (n : BitVec 64) : Spec Tryd.prog G 7 [.w32 a, .w64 n] G (fun r _ => r = .b true) := vf_ok e7_ok mixed (noL_ok _ _ _ _) (of_eq (v7 a n _) rfl)
abbrev E3t : Env := E3 cWorks enT enE arT arE dc1 dc2 dc3 dc4 dcE da1 da2 da3 da4 da5 daE aloneM aloneA
theorem e3_ok : EnvOk Tryd.prog E3t := ⟨PT.add_ok (PT.add_ok (PT.add_ok (PT.add_ok (PT.add_ok (PT.add_ok (PT.add_ok (PT.add_ok (PT.add_ok (PT.add_ok (PT.add_ok (PT.add_ok (PT.add_ok t0_ok works_ok) enc_ok) renc_ok) earp_ok) rearp_ok) dec_ok) rdec_ok) darp_ok) rdarp_ok) alone_ok) ralone_ok) aloneAddr_ok) raloneAddr_ok, noC_ok _ _⟩
theorem law3_gen (ET : Tx → Tx → BitVec 16 → Tx → Tx) (EE : Tx → Tx → BitVec 16 → Tx → Int) (AT : BitVec 16 → Tx → BitVec 32 → Tx → BitVec 32 → Tx) (AE : BitVec 16 → Tx → Tx → Int) (C1 C2 : Tx → Tx) (C3 : Tx → BitVec 16) (C4 : Tx → Tx) (CE : Tx → Int) (D1 : Tx → BitVec 16) (D2 : Tx → Tx) (D3 : Tx → BitVec 32) (D4 : Tx → Tx) (D5 : Tx → BitVec 32) (DE : Tx → Int) (AM : Tx → Bool) (AA : BitVec 32 → Bool) (d s x z a b : Tx) (t o : BitVec 16) (u v : BitVec 32) (hd : d.length ≤ 140737488355328) (hs : s.length ≤ 140737488355328) (ha : a.length ≤ 140737488355328) (hb : b.length ≤ 140737488355328) :
    vf Tryd.prog (E3 cWorks ET EE AT AE C1 C2 C3 C4 CE D1 D2 D3 D4 D5 DE AM AA) noL 3 [.agg [.s d, .s s, .w16 t, .s x], .agg [.w16 o, .s a, .w32 u, .s b, .w32 v], .s z] G (fun r _ => r = .b true) := by
  refine of_eq (v3 ET EE AT AE C1 C2 C3 C4 CE D1 D2 D3 D4 D5 DE AM AA d s x z a b t o u v _) ?_
  refine bif_of (inI_iff.2 (by omega)) (bif_of (inI_iff.2 (by omega)) (bif_of (inI_iff.2 (by omega)) ?_))
  cases h1 : ilt 1024 ((d.length : Int) + (s.length : Int) + (a.length : Int) + (b.length : Int))
  · show bif bif false then true else ilt 8192 (x.length : Int) then _ else _
    cases h2 : ilt 8192 (x.length : Int)
    · show bif bif false then true else ilt 8192 (z.length : Int) then _ else _
      cases h3 : ilt 8192 (z.length : Int)
      · have hz : Nat.ble z.length 4294967296 = true := by
          rw [ilt_eq] at h3
          have := of_decide_eq_false h3
          exact ble_of (by omega)
        refine bif_of hz (bif_of hz (bif_of hz (bif_of hz ?_)))
        simp only [beq_self_eq_true, Bool.and_self, Bool.and_true, cond_true, cond_false]
      · rfl
    · rfl
  · rfl
theorem law3_ok (d s x z a b : Tx) (t o : BitVec 16) (u v : BitVec 32) (hd : d.length ≤ 140737488355328) (hs : s.length ≤ 140737488355328) (ha : a.length ≤ 140737488355328) (hb : b.length ≤ 140737488355328) : Spec Tryd.prog G 3 [.agg [.s d, .s s, .w16 t, .s x], .agg [.w16 o, .s a, .w32 u, .s b, .w32 v], .s z] G (fun r _ => r = .b true) :=
  vf_ok e3_ok mixed (noL_ok _ _ _ _) (law3_gen _ _ _ _ _ _ _ _ _ _ _ _ _ _ _ _ _ d s x z a b t o u v hd hs ha hb)
end Go.Proofs.YtedcileokcbohaaDoor
