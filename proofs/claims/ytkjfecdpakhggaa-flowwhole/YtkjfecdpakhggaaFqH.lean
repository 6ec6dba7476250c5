/-
  flow: the laws' table; bytes out of order. No statement is proved here.
-/
import Derived.Test.YtkjfecdpakhggaaFqG
import Derived.ChangeSame
import Derived.OpenShut
import Derived.ChangeMaps5
namespace Go.Proofs.Ytkjfecdpakhggaa
open Go.RowKit
set_option linter.unusedVariables false
set_option linter.unusedSimpArgs false
set_option maxRecDepth 100000

def cLsT : List SV → List Cont → Option (Bool × SV)
  | [.w32 x, .w32 f], _ => some (true, .b (lessB x f))
  | _, _ => none
theorem lsT_ok : POk Try.prog G 9 cLsT := by
  intro args acs r h β M w hR hwf hacs
  unfold cLsT at h
  split at h
  · rename_i x f
    cases h
    refine pure0 (vf_ok e0_ok mixed (noL_ok _ _ _ _) (of_eq (vLsV x f (fun r => r = .b (lessB x f))) ?_)) rfl rfl hR
    unfold lessB
    cases f - x != BitVec.ofInt 32 0 <;> rfl
  · cases h
def TL : PT := ((((((T0.add 11 cInT).add 9 cLsT).add 20 (rdrP (.w32 0) gNx)).add 21 (rdrP (.i 0) gWd)).add 23 (rdrP (.i 0) gRy)).add 24 (rdrP (.i 0) gHe)).add 26 (rdrP (.b false) gEd)
theorem tl_ok : PTok Try.prog G TL := PT.add_ok (PT.add_ok (PT.add_ok (PT.add_ok (PT.add_ok (PT.add_ok (PT.add_ok t0_ok inT_ok) lsT_ok) nx_pok) wd_pok) ry_pok) he_pok) ed_pok
def CL : CT := ((noC.add 13 cNw).add 18 cPu).add 16 cRd
def EL : Env := { G := G, T := TL, C := CL, H := hMp }
theorem cl_ok : CTok Try.prog G CL := CT.add_ok (CT.add_ok (CT.add_ok (noC_ok _ _) nw_cok) pu_cok) rd_cok
theorem el_ok : EnvOk Try.prog EL := { T := tl_ok, C := cl_ok, H := hMp_ok _ }
theorem vWk (K : SV → Mm → Prop) : (vf Try.prog EL noL 8 [] [] K) = (∀ (rb : Nat) (p : QuP), PQa p (newA (BitVec.ofInt 32 4294967294) 8) → (∃ q, PQa p q) ∧ ∀ (q : Qa) (p' : QuP), PQa p q → PQa p' (q.put (BitVec.ofInt 32 0) (bts { data := #[99, 100] }) false) → bif !p'.z == 0 then (∃ q, PQa p' q) ∧ ∀ (q_1 : Qa) (p'_1 : QuP), PQa p' q_1 → PQa p'_1 (q_1.put (BitVec.ofInt 32 4294967294) (bts { data := #[97, 98] }) false) → (∃ q, PQa p'_1 q) ∧ ∀ (q_2 : Qa) (p'_2 : QuP), PQa p'_1 q_2 → PQa p'_2 (q_2.read 9) → (∃ q, PQa p'_2 q) ∧ ∀ (q_3 : Qa) (p'_3 : QuP), PQa p'_2 q_3 → PQa p'_3 (q_3.put (BitVec.ofInt 32 2) (bts { data := #[] }) true) → bif !q.moved (BitVec.ofInt 32 0) (bts { data := #[99, 100] }) false then bif bif true then (↑p'.es.length : Int) == 2 else false then bif bif true then q_1.moved (BitVec.ofInt 32 4294967294) (bts { data := #[97, 98] }) false else false then bif bif true then q_2.told 9 == bts { data := #[97, 98, 99, 100] } else false then bif bif true then q_3.moved (BitVec.ofInt 32 2) (bts { data := #[] }) true else false then bif !p'_3.z == 0 then bif bif true then p'_3.ed else false then bif !p'_3.z == 0 then bif bif true then p'_3.a == BitVec.ofInt 32 3 else false then K (SV.b (bif true then (BitVec.ofInt 32 1 - BitVec.ofInt 32 4294967295).ult (BitVec.ofInt 32 3) else false)) [{ rw := true, c := Cont.res (stP rb p'_3) }] else K (SV.b false) [{ rw := true, c := Cont.res (stP rb p'_3) }] else False else K (SV.b false) [{ rw := true, c := Cont.res (stP rb p'_3) }] else False else K (SV.b false) [{ rw := true, c := Cont.res (stP rb p'_3) }] else K (SV.b false) [{ rw := true, c := Cont.res (stP rb p'_3) }] else K (SV.b false) [{ rw := true, c := Cont.res (stP rb p'_3) }] else K (SV.b false) [{ rw := true, c := Cont.res (stP rb p'_3) }] else K (SV.b false) [{ rw := true, c := Cont.res (stP rb p'_3) }] else False) := by kernel_rfl
theorem Qa.put_z (q : Qa) (sq : BitVec 32) (d : Tx) (fin : Bool) : (q.put sq d fin).z = q.z := by
  unfold Qa.put
  split <;> rfl
theorem PQa.nz {p : QuP} {q : Qa} (h : PQa p q) : (!(p.z == 0)) = true := by
  have h1 := h.ok.z1
  have h2 := h.z
  have : ¬ p.z = 0 := by omega
  simpa using this
def kW0 : Qa := newA (BitVec.ofInt 32 4294967294) 8
def kW1 : Qa := kW0.put (BitVec.ofInt 32 0) (bts { data := #[99, 100] }) false
def kW2 : Qa := kW1.put (BitVec.ofInt 32 4294967294) (bts { data := #[97, 98] }) false
def kW3 : Qa := kW2.read 9
def kW4 : Qa := kW3.put (BitVec.ofInt 32 2) (bts { data := #[] }) true
theorem kW_a : kW0.moved (BitVec.ofInt 32 0) (bts { data := #[99, 100] }) false = false := by kernel_rfl
theorem kW_b : kW1.held = 2 := by kernel_rfl
theorem kW_c : kW1.moved (BitVec.ofInt 32 4294967294) (bts { data := #[97, 98] }) false = true := by kernel_rfl
theorem kW_d : (kW2.told 9 == bts { data := #[97, 98, 99, 100] }) = true := by kernel_rfl
theorem kW_e : kW3.moved (BitVec.ofInt 32 2) (bts { data := #[] }) true = true := by kernel_rfl
theorem kW_f : kW4.ed = true := by kernel_rfl
theorem kW_g : (kW4.a == BitVec.ofInt 32 3) = true := by kernel_rfl
theorem wk_gen {k0 k1 k2 k3 k4 : Qa} (e0 : newA (BitVec.ofInt 32 4294967294) 8 = k0) (e1 : k0.put (BitVec.ofInt 32 0) (bts { data := #[99, 100] }) false = k1) (e2 : k1.put (BitVec.ofInt 32 4294967294) (bts { data := #[97, 98] }) false = k2) (e3 : k2.read 9 = k3) (e4 : k3.put (BitVec.ofInt 32 2) (bts { data := #[] }) true = k4)
    (ha : k0.moved (BitVec.ofInt 32 0) (bts { data := #[99, 100] }) false = false) (hb : k1.held = 2) (hc : k1.moved (BitVec.ofInt 32 4294967294) (bts { data := #[97, 98] }) false = true) (hd : (k2.told 9 == bts { data := #[97, 98, 99, 100] }) = true) (he : k3.moved (BitVec.ofInt 32 2) (bts { data := #[] }) true = true) (hf : k4.ed = true) (hg : (k4.a == BitVec.ofInt 32 3) = true) : vf Try.prog EL noL 8 [] [] (fun r _ => r = .b true) := by
  refine of_eq (vWk _) ?_
  intro rb p hp
  have hp : PQa p k0 := e0 ▸ hp
  refine ⟨⟨_, hp⟩, fun q p1 hq hp1 => ?_⟩
  obtain rfl := hp.uniq hq
  rw [e1] at hp1
  refine bifT hp1.nz ⟨⟨_, hp1⟩, fun q p2 hq hp2 => ?_⟩
  obtain rfl := hp1.uniq hq
  rw [e2] at hp2
  refine ⟨⟨_, hp2⟩, fun q p3 hq hp3 => ?_⟩
  obtain rfl := hp2.uniq hq
  rw [e3] at hp3
  refine ⟨⟨_, hp3⟩, fun q p4 hq hp4 => ?_⟩
  obtain rfl := hp3.uniq hq
  rw [e4] at hp4
  refine bifT (by rw [ha]; rfl) ?_
  refine bifT (c := bif true then ((p1.es.length : Nat) : Int) == 2 else false) (by rw [hp1.len, hb]; rfl) ?_
  refine bifT hc ?_
  refine bifT hd ?_
  refine bifT he ?_
  refine bifT hp4.nz ?_
  refine bifT (c := bif true then p4.ed else false) (by rw [hp4.ed, hf]; rfl) ?_
  refine bifT hp4.nz ?_
  refine bifT (c := bif true then p4.a == BitVec.ofInt 32 3 else false) (by rw [hp4.a, hg]; rfl) ?_
  rfl
theorem wk_true : vf Try.prog EL noL 8 [] [] (fun r _ => r = .b true) := wk_gen (k0 := kW0) (k1 := kW1) (k2 := kW2) (k3 := kW3) (k4 := kW4) rfl rfl rfl rfl rfl kW_a kW_b kW_c kW_d kW_e kW_f kW_g
def cWk : List SV → Mm → (SV → Mm → Prop) → Prop
  | [], M, K => K (.b true) M
  | _, _, _ => False
theorem wk_cok : COk Try.prog G 8 cWk := by
  intro args M K h
  unfold cWk at h
  split at h
  · exact res_new (vf_ok el_ok mixed (noL_ok _ _ _ _) wk_true) rfl fun r M1 hr => .inl (by rw [hr]; exact ⟨rfl, h⟩)
  · exact h.elim
def CW : CT := CL.add 8 cWk
def EWk : Env := { G := G, T := TL, C := CW, H := hMp }
theorem cw_ok : CTok Try.prog G CW := CT.add_ok cl_ok wk_cok
theorem ewk_ok : EnvOk Try.prog EWk := { T := tl_ok, C := cw_ok, H := hMp_ok _ }
theorem vLaw6 (x : BitVec 32) (d : List (BitVec 8)) (K : SV → Mm → Prop) : (vf Try.prog EWk noL 6 [.w32 x, .s d] [] K) = (bif ilt 1024 (↑d.length : Int) then K (SV.b true) [] else K (SV.b (bif true then true else false)) []) := by kernel_rfl
end Go.Proofs.Ytkjfecdpakhggaa
namespace Go.Proofs.Ytkjfecdpakhggaa
open Go.RowKit Go.ChangeShapes Go.WideShapes
set_option linter.unusedVariables false
set_option linter.unusedSimpArgs false
set_option maxRecDepth 100000

theorem Fp.below {w w' : World} (h : Fp0 w w') : Below w.heap.size w w' := ⟨h.os, h.tape, h.output, h.size, fun k hk => h.block k hk id⟩
theorem spec_calls {P : Program} {G M : Mm} {f : Nat} {fn : Func} {c : Code} {args : List SV} {r0 : SV} {β : Nat → Nat} {w : World} (hf : P.funcs[f]? = some fn) (hb : fn.body = some c) (hn : (fn.name == "runtime.NumGoroutine") = false) (hS : Spec P G f args M (fun r _ => r = r0)) (hR : Rel G β M w) (ha : SV.wf.wfs M.length args = true) (hro : ∀ (k : Nat) (e : Ent), M[k]? = some e → e.rw = false) (hr : r0.wf M.length = true) : Calls P f (vals β args).toArray w (fun e W' => e = .returned (val β r0) ∧ Fp0 w W') := by
  rcases hS β w hR ha with ⟨v, W', h2, -⟩ | ⟨-, h⟩
  · rw [enter_run hf hb hn] at h2; cases h2
  · refine h.mono fun e W' hh => ?_
    obtain ⟨v, rfl, β', M', r, hE, hR', ⟨hw, rfl⟩, rfl⟩ := hh
    refine ⟨by rw [val_agree hE.agree r hr], hE.fp.mono fun k _ hk => ?_⟩
    obtain ⟨j, e, he, hr, -⟩ := hk
    rw [hro j e he] at hr; cases hr
theorem g_ro : ∀ (k : Nat) (e : Ent), G[k]? = some e → e.rw = false := fun k e he => by cases he
theorem g_rel (W : World) : Rel G (fun k => k) G W := ⟨fun k e he => (by cases he), fun i j x y hx => (by cases hx), fun _ _ => rfl, Nat.le_refl _, fun _ _ => rfl, fun k e he => (by cases he), fun k e he => (by cases he)⟩
theorem u8_of {n : Int} (h : (Lit.int .u8 n).wf = true) : (((BitVec.ofInt 8 n).toNat : Nat) : Int) = n := by
  have h2 : IntKind.u8.min ≤ n ∧ n ≤ IntKind.u8.max := by simpa [Lit.wf] using h
  have e1 : IntKind.u8.min = 0 := by decide
  have e2 : IntKind.u8.max = 255 := by decide
  rw [e1, e2] at h2
  exact ofInt_toNat (inU_iff.2 ⟨h2.1, by have : (2 : Int) ^ 8 = 256 := by decide
                                         omega⟩)
theorem u16_of {n : Int} (h : (Lit.int .u16 n).wf = true) : (((BitVec.ofInt 16 n).toNat : Nat) : Int) = n := by
  have h2 : IntKind.u16.min ≤ n ∧ n ≤ IntKind.u16.max := by simpa [Lit.wf] using h
  have e1 : IntKind.u16.min = 0 := by decide
  have e2 : IntKind.u16.max = 65535 := by decide
  rw [e1, e2] at h2
  exact ofInt_toNat (inU_iff.2 ⟨h2.1, by have : (2 : Int) ^ 16 = 65536 := by decide
                                         omega⟩)
theorem u32_of {n : Int} (h : (Lit.int .u32 n).wf = true) : (((BitVec.ofInt 32 n).toNat : Nat) : Int) = n := by
  have h2 : IntKind.u32.min ≤ n ∧ n ≤ IntKind.u32.max := by simpa [Lit.wf] using h
  have e1 : IntKind.u32.min = 0 := by decide
  have e2 : IntKind.u32.max = 4294967295 := by decide
  rw [e1, e2] at h2
  exact ofInt_toNat (inU_iff.2 ⟨h2.1, by have : (2 : Int) ^ 32 = 4294967296 := by decide
                                         omega⟩)
theorem u64_of {n : Int} (h : (Lit.int .u64 n).wf = true) : (((BitVec.ofInt 64 n).toNat : Nat) : Int) = n := by
  have h2 : IntKind.u64.min ≤ n ∧ n ≤ IntKind.u64.max := by simpa [Lit.wf] using h
  have e1 : IntKind.u64.min = 0 := by decide
  have e2 : IntKind.u64.max = 18446744073709551615 := by decide
  rw [e1, e2] at h2
  exact ofInt_toNat (inU_iff.2 ⟨h2.1, by have : (2 : Int) ^ 64 = 18446744073709551616 := by decide
                                         omega⟩)
end Go.Proofs.Ytkjfecdpakhggaa
