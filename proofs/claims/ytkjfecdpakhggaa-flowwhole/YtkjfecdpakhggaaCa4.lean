/-
  flow: the call of FlowWhole. No statement is proved here.
-/
import Derived.Test.YtkjfecdpakhggaaCas
import Derived.Test.YtkjfecdpakhggaaFwE
import Derived.SizedLaws
import Derived.ProofKit
namespace Go.Proofs.Ytkjfecdpakhggaa
open Go.RowKit Go.ChangeShapes Go.WideShapes Go.Deep
set_option linter.unusedVariables false
set_option linter.unusedSimpArgs false
set_option maxRecDepth 100000

theorem cells5 : Try.prog.cellsOf 5 = 1 := by kernel_rfl
theorem cells47 : Try.prog.cellsOf 47 = 1 := by kernel_rfl
theorem cells49 : Try.prog.cellsOf 49 = 2 := by kernel_rfl
theorem bytes5 : 0 < Try.prog.bytesOf 5 := of_decide_eq_true (by kernel_rfl)
theorem bytes49 : 0 < Try.prog.bytesOf 49 := of_decide_eq_true (by kernel_rfl)
theorem open_b {H : Type} {enc : TypeId × Value → H} {W : World} (fuel : Nat) (cs : List Value) (y : DataW H × List MemPlace) (hf : DataW.trod enc Try.prog W 0 (fun _ => true) true fuel 5 cs = some y) : ∃ r : Rr, cs = rvs RF r ∧ ∀ n ∈ ([] : List Nat), n ∈ y.1.weights Try.prog 5 := by
  obtain ⟨n8, e8, x8, w8⟩ := DataW.trod_int Try.underlying5 hf
  subst e8
  exact ⟨(BitVec.ofInt 8 n8, ()), by simp only [rvs, Fk.v, c8_of w8], fun n hn => by cases hn⟩
theorem open_piece {H : Type} {enc : TypeId × Value → H} {W : World} (fuel : Nat) (cs : List Value) (y : DataW H × List MemPlace) (hf : DataW.trod enc Try.prog W 0 (fun _ => true) true fuel 49 cs = some y) : ∃ r : Pr, cs = rvs PF r ∧ ∀ n ∈ ([] : List Nat), n ∈ y.1.weights Try.prog 49 := by
  obtain ⟨xs, k, rfl, hx, hlen, hxl, hfl⟩ := DataW.trod_struct Try.underlying49 hf
  rw [cells49] at hlen
  match xs, hxl, cs, hlen with
  | [y0, y1], _, [v0, v1], _ =>
    have f0 := hfl 0 _ rfl
    have f1 := hfl 1 _ rfl
    simp [cells47] at f0 f1
    obtain ⟨n0, e0, x0, w0⟩ := DataW.trod_int Try.underlying47 f0
    obtain ⟨n1, e1, x1, w1⟩ := DataW.trod_int Try.underlying47 f1
    simp only [List.cons.injEq, and_true] at e0 e1
    subst e0; subst e1
    subst x0; subst x1
    subst hx
    exact ⟨(BitVec.ofInt 16 n0, BitVec.ofInt 16 n1, ()), by simp only [rvs, Fk.v, c16_of w0, c16_of w1], fun n hn => by cases hn⟩
/-- An argument's block. -/
structure EO (W : World) (b : Nat) (e : Ent) : Prop where
  rw : e.rw = false
  at' : e.c.here = true → ∀ β, At β W b e.rw e.c
  wf : ∀ n, e.c.wf n = true
theorem eo_z (W : World) (b : Nat) : EO W b zE := ⟨rfl, fun h => (by cases h), fun _ => rfl⟩
theorem eo_r {W : World} {b : Nat} {fs : List Fk} {pre : List Value} {l : List (Rc fs)} (hh : Holds W b false (pre ++ rows fs l)) : EO W b ⟨false, .recs none fs pre l⟩ := ⟨rfl, fun _ β => (At_of rfl).2 hh, fun _ => rfl⟩
def b2 (x y : Nat) : Nat → Nat := fun i => if i = 0 then x else if i = 1 then y else i
theorem rel2 {W : World} {x y : Nat} {eP eR : Ent} (hP : EO W x eP) (hR : EO W y eR) : Rel G (b2 x y) (mB2 eP eR) W ∧ ∀ (k : Nat) (e : Ent), (mB2 eP eR)[k]? = some e → e.rw = false := by
  have ro : ∀ (k : Nat) (e : Ent), (mB2 eP eR)[k]? = some e → e.rw = false := fun k e he => by
    match k, he with
    | 0, he => cases he; exact hP.rw
    | 1, he => cases he; exact hR.rw
    | k + 2, he => cases he
  refine ⟨⟨fun k e he hc => ?_, fun i j p q hp hq hij hr => ?_, fun g hg => absurd hg (Nat.not_lt_zero g), Nat.zero_le _, fun k hk => absurd hk (Nat.not_lt_zero k), fun k e he => (by cases he), fun k e he => ?_⟩, ro⟩
  · match k, he with
    | 0, he => cases he; exact hP.at' hc _
    | 1, he => cases he; exact hR.at' hc _
    | k + 2, he => cases he
  · rw [ro i p hp] at hr; cases hr
  · match k, he with
    | 0, he => cases he; exact hP.wf _
    | 1, he => cases he; exact hR.wf _
    | k + 2, he => cases he
theorem vals4 (a : Int) (s : ByteArray) (wa : (Lit.int .u32 a).wf = true) (x y : SV) (β : Nat → Nat) : (vals β [SV.w32 (BitVec.ofInt 32 a), SV.s (bts s), x, y]).toArray = #[.int .u32 a, .string s, val β x, val β y] := by
  simp only [vals, val, txt_bts, c32, u32_of wa]
theorem calls4 (a0 : Int) (s0 : ByteArray) (wa : (Lit.int .u32 a0).wf = true) {H : Type} {enc : TypeId × Value → H} {W : World} {v0 v1 : Value} {d0 d1 : DataW H} {p0 p1 : List MemPlace} (hv0 : ∃ a len cap, v0 = .slice a len cap) (h0 : DataW.Trod enc Try.prog W 0 (fun _ => true) true 46 v0 d0 p0) (hz0 : ∀ n ∈ d0.weights Try.prog 46, n ≤ 140737488355328)
    (hv1 : ∃ a len cap, v1 = .slice a len cap) (h1 : DataW.Trod enc Try.prog W 0 (fun _ => true) true 41 v1 d1 p1) (hz1 : ∀ n ∈ d1.weights Try.prog 41, n ≤ 140737488355328) : Calls Try.prog 4 #[.int .u32 a0, .string s0, v0, v1] W (fun e W' => e = .returned (.bool true) ∧ Fp0 W W') := by
  have go : ∀ {xp xr : SV} {eP eR : Ent} {x y : Nat}, Spec Try.prog G 4 [.w32 (BitVec.ofInt 32 a0), .s (bts s0), xp, xr] (mB2 eP eR) (fun r _ => r = .b true) → EO W x eP → EO W y eR → SV.wf.wfs 2 [.w32 (BitVec.ofInt 32 a0), .s (bts s0), xp, xr] = true → val (b2 x y) xp = v0 → val (b2 x y) xr = v1 → Calls Try.prog 4 #[.int .u32 a0, .string s0, v0, v1] W (fun e W' => e = .returned (.bool true) ∧ Fp0 W W') := fun hS hP hR hw e0 e1 => by
    obtain ⟨hR, ro⟩ := rel2 hP hR
    have := spec_calls (f := 4) (fn := Try.f4) Try.func4 rfl (by kernel_rfl) hS hR hw ro rfl
    rw [vals4 a0 s0 wa, e0, e1] at this
    exact this
  have q0 := open_rows (fs := PF) (by decide) Try.underlying46 cells49 bytes49 (fun r => []) open_piece hv0 h0 hz0
  have q1 := open_rows (fs := RF) (by decide) Try.underlying41 cells5 bytes5 (fun r => []) open_b hv1 h1 hz1
  clear hv0 h0 hz0 hv1 h1 hz1
  rcases q0 with ⟨aD, kD, rfl⟩ | ⟨bD, nD, pD, lD, rfl, nD0, nDl, nDm, hD, hDw⟩
  · rcases q1 with ⟨aC, kC, rfl⟩ | ⟨bC, nC, pC, lC, rfl, nC0, nCl, nCm, hC, hCw⟩
    · exact go (law4ZZ aD kD aC kC _ _) (eo_z W 0) (eo_z W 1) rfl rfl rfl
    · exact go (law4ZR pC lC aD kD _ _ nC lC.length) (eo_z W 0) (eo_r hC) rfl rfl rfl
  · rcases q1 with ⟨aC, kC, rfl⟩ | ⟨bC, nC, pC, lC, rfl, nC0, nCl, nCm, hC, hCw⟩
    · exact go (law4RZ pD lD aC _ _ nD lD.length kC nDl) (eo_r hD) (eo_z W 1) rfl rfl rfl
    · exact go (law4RR pD pC lD lC _ _ nD lD.length nC lC.length nDl nCl) (eo_r hD) (eo_r hC) rfl rfl rfl
end Go.Proofs.Ytkjfecdpakhggaa
namespace Go.Proofs.Ytkjfecdpakhggaa
open Go.ChangeShapes Go.WideShapes Go.ChangeAt Go.RowKit Go.BigFrame Go.ChangeMaps
set_option linter.unusedVariables false
set_option maxRecDepth 100000

theorem Try.ownN : ownKnob Try.prog.godebug = none := by kernel_rfl

theorem whole_lifted (os : Os) (started : os.Started) (H : Type) (enc : TypeId × Value → H) :
    ReturnsInHanded {} Try.checked os 4 .any (Rows.flowWholeSpec.pre6 enc Try.prog Try.f4 Rows.flowWholeRow.domain false) (Rows.flowWholeSpec.post enc Try.prog Try.f4 false true false false) := by
  refine returnsInHanded_of_change_sized (C := Try.checked) Try.ownN started (by kernel_rfl) Try.func4
    (ChangeSpec.witness6 (enc := enc) (C := Try.checked) false ⟨#[], #[.int .u32 0, .string ByteArray.empty, .slice none 0 0, .slice none 0 0], []⟩ 8 (by kernel_rfl) (by kernel_rfl) (by kernel_rfl) (by kernel_rfl)) ?_
  intro W base args ds gs before hval0 hW hcnd hsz _
  have hval : ∀ (j : Nat) t v, Try.f4.params[j]? = some t → args[j]? = some v → Value.okWide Try.prog W .any base t v := hval0
  have hW' := hW
  obtain ⟨p, q, hA0, hV, rfl, hfz, hnd⟩ := hW
  have hA : DataW.TrodAll enc Try.prog W 0 (fun _ => true) true Try.f4.params.toList args.toList ds p := hA0
  have hsz' : (DataW.weightsEach Try.prog (Try.f4.params.toList ++ []) (ds ++ gs)).all (· ≤ reachBytes) = true := hsz
  rw [Try.params4] at hA hval hsz'
  obtain ⟨v0, vs0, d0, ds0, p0, q0, hargs, rfl, rfl, h0, r0⟩ := trodAll_cons hA
  obtain ⟨v1, vs1, d1, ds1, p1, q1, hargs1, rfl, rfl, h1, r1⟩ := trodAll_cons r0
  obtain ⟨v2, vs2, d2, ds2, p2, q2, hargs2, rfl, rfl, h2, r2⟩ := trodAll_cons r1
  obtain ⟨v3, vs3, d3, ds3, p3, q3, hargs3, rfl, rfl, h3, r3⟩ := trodAll_cons r2
  obtain ⟨rfl, rfl, rfl⟩ := trodAll_nil r3
  obtain rfl : args = #[v0, v1, v2, v3] := by cases args; simp_all
  obtain ⟨rfl, rfl⟩ := trodVars_none hV
  obtain ⟨a0, rfl, rfl, rfl, w0⟩ := open_int Try.underlying22 (hval 0 22 v0 rfl rfl) h0
  obtain ⟨s1, rfl, rfl, rfl, w1⟩ := open_string Try.underlying9 (hval 1 9 v1 rfl rfl) h1
  have h2k := h2
  have hlt2 : ∀ x ∈ p2, x.block < W.heap.size := fun x hx => by simpa using hW'.lt x (by simp [hx])
  have hv2 := okWide_slice Try.underlying46 (hval 2 46 v2 rfl rfl)
  have h3k := h3
  have hlt3 : ∀ x ∈ p3, x.block < W.heap.size := fun x hx => by simpa using hW'.lt x (by simp [hx])
  have hv3 := okWide_slice Try.underlying41 (hval 3 41 v3 rfl rfl)
  have l2 : ∀ n ∈ d2.weights Try.prog 46, n ≤ 140737488355328 := fun n hn => Nat.le_trans (by have := List.all_eq_true.1 hsz' n (by simp [DataW.weightsEach, hn]); simpa using this) (show reachBytes ≤ 140737488355328 by decide)
  have l3 : ∀ n ∈ d3.weights Try.prog 41, n ≤ 140737488355328 := fun n hn => Nat.le_trans (by have := List.all_eq_true.1 hsz' n (by simp [DataW.weightsEach, hn]); simpa using this) (show reachBytes ≤ 140737488355328 by decide)
  clear hA0 hval0
  refine (calls4 a0 s1 w0 hv2 h2 l2 hv3 h3 l3).mono fun e W' ⟨he, hK⟩ => ?_
  subst he
  have bel : Below W.heap.size W W' := hK.below
  exact ⟨_, rfl, _, _, _, [], _, [], hW', trodAll_mk1 (shut_bool Try.underlying4 _), (trodAll_cons_mk (shut_int Try.underlying22 w0) (trodAll_cons_mk (shut_string Try.underlying9 w1) (trodAll_cons_mk (Below.trod (by kernel_rfl) (by kernel_rfl) (of_decide_eq_true (by kernel_rfl)) h2k bel hlt2) (trodAll_cons_mk (Below.trod (by kernel_rfl) (by kernel_rfl) (of_decide_eq_true (by kernel_rfl)) h3k bel hlt3) trodAll_mk0)))), rfl, bel.frame _, fun h => by cases h⟩

theorem flow_whole_holds : Rows.FlowWholeSaid :=
  OpenClaim.holds_of_wide 4 Try.f4 rfl rfl rfl rfl rfl rfl rfl ⟨rfl, rfl, rfl, rfl, rfl⟩ rfl rfl rfl rfl rfl (by kernel_rfl) Try.func4 (by kernel_rfl)
    (of_decide_eq_true (by kernel_rfl)) (by unfold Func.isWrapper; first | (rw [if_pos (by decide +kernel)]; kernel_rfl) | (rw [if_neg (by decide +kernel)]; exact ⟨rfl, rfl⟩))
    (fun os started H enc _ => whole_lifted os started H enc)
#print axioms flow_whole_holds
end Go.Proofs.Ytkjfecdpakhggaa
