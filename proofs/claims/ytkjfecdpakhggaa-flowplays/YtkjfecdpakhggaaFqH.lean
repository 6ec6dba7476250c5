/-
  flow: the laws' table; bytes out of order. No statement is proved here.
-/
import Derived.Test.YtkjfecdpakhggaaFqG
import Derived.ChangeSame
import Derived.OpenShut
import Derived.ChangeMaps5
namespace Go.Proofs.Ytkjfecdpakhggaa
open Go.RowKit
set_option linter.unusedVariables false
set_option linter.unusedSimpArgs false
set_option maxRecDepth 100000

def cLsT : List SV → List Cont → Option (Bool × SV)
  | [.w32 x, .w32 f], _ => some (true, .b (lessB x f))
  | _, _ => none
theorem lsT_ok : POk Try.prog G 9 cLsT := by
  intro args acs r h β M w hR hwf hacs
  unfold cLsT at h
  split at h
  · rename_i x f
    cases h
    refine pure0 (vf_ok e0_ok mixed (noL_ok _ _ _ _) (of_eq (vLsV x f (fun r => r = .b (lessB x f))) ?_)) rfl rfl hR
    unfold lessB
    cases f - x != BitVec.ofInt 32 0 <;> rfl
  · cases h
def TL : PT := ((((((T0.add 11 cInT).add 9 cLsT).add 20 (rdrP (.w32 0) gNx)).add 21 (rdrP (.i 0) gWd)).add 23 (rdrP (.i 0) gRy)).add 24 (rdrP (.i 0) gHe)).add 26 (rdrP (.b false) gEd)
theorem tl_ok : PTok Try.prog G TL := PT.add_ok (PT.add_ok (PT.add_ok (PT.add_ok (PT.add_ok (PT.add_ok (PT.add_ok t0_ok inT_ok) lsT_ok) nx_pok) wd_pok) ry_pok) he_pok) ed_pok
def CL : CT := ((noC.add 13 cNw).add 18 cPu).add 16 cRd
def EL : Env := { G := G, T := TL, C := CL, H := hMp }
theorem cl_ok : CTok Try.prog G CL := CT.add_ok (CT.add_ok (CT.add_ok (noC_ok _ _) nw_cok) pu_cok) rd_cok
theorem el_ok : EnvOk Try.prog EL := { T := tl_ok, C := cl_ok, H := hMp_ok _ }
theorem vWk (K : SV → Mm → Prop) : (vf Try.prog EL noL 8 [] [] K) = (∀ (rb : Nat) (p : QuP), PQa p (newA (BitVec.ofInt 32 4294967294) 8) → (∃ q, PQa p q) ∧ ∀ (q : Qa) (p' : QuP), PQa p q → PQa p' (q.put (BitVec.ofInt 32 0) (bts { data := #[99, 100] }) false) → bif !p'.z == 0 then (∃ q, PQa p' q) ∧ ∀ (q_1 : Qa) (p'_1 : QuP), PQa p' q_1 → PQa p'_1 (q_1.put (BitVec.ofInt 32 4294967294) (bts { data := #[97, 98] }) false) → (∃ q, PQa p'_1 q) ∧ ∀ (q_2 : Qa) (p'_2 : QuP), PQa p'_1 q_2 → PQa p'_2 (q_2.read 9) → (∃ q, PQa p'_2 q) ∧ ∀ (q_3 : Qa) (p'_3 : QuP), PQa p'_2 q_3 → PQa p'_3 (q_3.put (BitVec.ofInt 32 2) (bts { data := #[] }) true) → bif !q.moved (BitVec.ofInt 32 0) (bts { data := #[99, 100] }) false then bif bif true then (↑p'.es.length : Int) == 2 else false then bif bif true then q_1.moved (BitVec.ofInt 32 4294967294) (bts { data := #[97, 98] }) false else false then bif bif true then q_2.told 9 == bts { data := #[97, 98, 99, 100] } else false then bif bif true then q_3.moved (BitVec.ofInt 32 2) (bts { data := #[] }) true else false then bif !p'_3.z == 0 then bif bif true then p'_3.ed else false then bif !p'_3.z == 0 then bif bif true then p'_3.a == BitVec.ofInt 32 3 else false then K (SV.b (bif true then (BitVec.ofInt 32 1 - BitVec.ofInt 32 4294967295).ult (BitVec.ofInt 32 3) else false)) [{ rw := true, c := Cont.res (stP rb p'_3) }] else K (SV.b false) [{ rw := true, c := Cont.res (stP rb p'_3) }] else False else K (SV.b false) [{ rw := true, c := Cont.res (stP rb p'_3) }] else False else K (SV.b false) [{ rw := true, c := Cont.res (stP rb p'_3) }] else K (SV.b false) [{ rw := true, c := Cont.res (stP rb p'_3) }] else K (SV.b false) [{ rw := true, c := Cont.res (stP rb p'_3) }] else K (SV.b false) [{ rw := true, c := Cont.res (stP rb p'_3) }] else K (SV.b false) [{ rw := true, c := Cont.res (stP rb p'_3) }] else False) := by kernel_rfl
theorem Qa.put_z (q : Qa) (sq : BitVec 32) (d : Tx) (fin : Bool) : (q.put sq d fin).z = q.z := by
  unfold Qa.put
  split <;> rfl
theorem PQa.nz {p : QuP} {q : Qa} (h : PQa p q) : (!(p.z == 0)) = true := by
  have h1 := h.ok.z1
  have h2 := h.z
  have : ¬ p.z = 0 := by omega
  simpa using this
def kW0 : Qa := newA (BitVec.ofInt 32 4294967294) 8
def kW1 : Qa := kW0.put (BitVec.ofInt 32 0) (bts { data := #[99, 100] }) false
def kW2 : Qa := kW1.put (BitVec.ofInt 32 4294967294) (bts { data := #[97, 98] }) false
def kW3 : Qa := kW2.read 9
def kW4 : Qa := kW3.put (BitVec.ofInt 32 2) (bts { data := #[] }) true
theorem kW_a : kW0.moved (BitVec.ofInt 32 0) (bts { data := #[99, 100] }) false = false := by kernel_rfl
theorem kW_b : kW1.held = 2 := by kernel_rfl
theorem kW_c : kW1.moved (BitVec.ofInt 32 4294967294) (bts { data := #[97, 98] }) false = true := by kernel_rfl
theorem kW_d : (kW2.told 9 == bts { data := #[97, 98, 99, 100] }) = true := by kernel_rfl
theorem kW_e : kW3.moved (BitVec.ofInt 32 2) (bts { data := #[] }) true = true := by kernel_rfl
theorem kW_f : kW4.ed = true := by kernel_rfl
theorem kW_g : (kW4.a == BitVec.ofInt 32 3) = true := by kernel_rfl
theorem wk_gen {k0 k1 k2 k3 k4 : Qa} (e0 : newA (BitVec.ofInt 32 4294967294) 8 = k0) (e1 : k0.put (BitVec.ofInt 32 0) (bts { data := #[99, 100] }) false = k1) (e2 : k1.put (BitVec.ofInt 32 4294967294) (bts { data := #[97, 98] }) false = k2) (e3 : k2.read 9 = k3) (e4 : k3.put (BitVec.ofInt 32 2) (bts { data := #[] }) true = k4)
    (ha : k0.moved (BitVec.ofInt 32 0) (bts { data := #[99, 100] }) false = false) (hb : k1.held = 2) (hc : k1.moved (BitVec.ofInt 32 4294967294) (bts { data := #[97, 98] }) false = true) (hd : (k2.told 9 == bts { data := #[97, 98, 99, 100] }) = true) (he : k3.moved (BitVec.ofInt 32 2) (bts { data := #[] }) true = true) (hf : k4.ed = true) (hg : (k4.a == BitVec.ofInt 32 3) = true) : vf Try.prog EL noL 8 [] [] (fun r _ => r = .b true) := by
  refine of_eq (vWk _) ?_
  intro rb p hp
  have hp : PQa p k0 := e0 ▸ hp
  refine ⟨⟨_, hp⟩, fun q p1 hq hp1 => ?_⟩
  obtain rfl := hp.uniq hq
  rw [e1] at hp1
  refine bifT hp1.nz ⟨⟨_, hp1⟩, fun q p2 hq hp2 => ?_⟩
  obtain rfl := hp1.uniq hq
  rw [e2] at hp2
  refine ⟨⟨_, hp2⟩, fun q p3 hq hp3 => ?_⟩
  obtain rfl := hp2.uniq hq
  rw [e3] at hp3
  refine ⟨⟨_, hp3⟩, fun q p4 hq hp4 => ?_⟩
  obtain rfl := hp3.uniq hq
  rw [e4] at hp4
  refine bifT (by rw [ha]; rfl) ?_
  refine bifT (c := bif true then ((p1.es.length : Nat) : Int) == 2 else false) (by rw [hp1.len, hb]; rfl) ?_
  refine bifT hc ?_
  refine bifT hd ?_
  refine bifT he ?_
  refine bifT hp4.nz ?_
  refine bifT (c := bif true then p4.ed else false) (by rw [hp4.ed, hf]; rfl) ?_
  refine bifT hp4.nz ?_
  refine bifT (c := bif true then p4.a == BitVec.ofInt 32 3 else false) (by rw [hp4.a, hg]; rfl) ?_
  rfl
theorem wk_true : vf Try.prog EL noL 8 [] [] (fun r _ => r = .b true) := wk_gen (k0 := kW0) (k1 := kW1) (k2 := kW2) (k3 := kW3) (k4 := kW4) rfl rfl rfl rfl rfl kW_a kW_b kW_c kW_d kW_e kW_f kW_g
def cWk : List SV → Mm → (SV → Mm → Prop) → Prop
  | [], M, K => K (.b true) M
  | _, _, _ => False
theorem wk_cok : COk Try.prog G 8 cWk := by
  intro args M K h
  unfold cWk at h
  split at h
  · exact res_new (vf_ok el_ok mixed (noL_ok _ _ _ _) wk_true) rfl fun r M1 hr => .inl (by rw [hr]; exact ⟨rfl, h⟩)
  · exact h.elim
def CW : CT := CL.add 8 cWk
def EWk : Env := { G := G, T := TL, C := CW, H := hMp }
theorem cw_ok : CTok Try.prog G CW := CT.add_ok cl_ok wk_cok
theorem ewk_ok : EnvOk Try.prog EWk := { T := tl_ok, C := cw_ok, H := hMp_ok _ }
theorem vLaw6 (x : BitVec 32) (d : List (BitVec 8)) (K : SV → Mm → Prop) : (vf Try.prog EWk noL 6 [.w32 x, .s d] [] K) = (bif ilt 1024 (↑d.length : Int) then K (SV.b true) [] else K (SV.b (bif true then true else false)) []) := by kernel_rfl
end Go.Proofs.Ytkjfecdpakhggaa
namespace Go.Proofs.Ytkjfecdpakhggaa
open Go.RowKit Go.ChangeShapes Go.WideShapes
set_option linter.unusedVariables false
set_option linter.unusedSimpArgs false
set_option maxRecDepth 100000

theorem Fp.below {w w' : World} (h : Fp0 w w') : Below w.heap.size w w' := ⟨h.os, h.tape, h.output, h.size, fun k hk => h.block k hk id⟩
theorem spec_calls {P : Program} {G M : Mm} {f : Nat} {fn : Func} {c : Code} {args : List SV} {r0 : SV} {β : Nat → Nat} {w : World} (hf : P.funcs[f]? = some fn) (hb : fn.body = some c) (hn : (fn.name == "runtime.NumGoroutine") = false) (hS : Spec P G f args M (fun r _ => r = r0)) (hR : Rel G β M w) (ha : SV.wf.wfs M.length args = true) (hro : ∀ (k : Nat) (e : Ent), M[k]? = some e → e.rw = false) (hr : r0.wf M.length = true) : Calls P f (vals β args).toArray w (fun e W' => e = .returned (val β r0) ∧ Fp0 w W') := by
  rcases hS β w hR ha with ⟨v, W', h2, -⟩ | ⟨-, h⟩
  · rw [enter_run hf hb hn] at h2; cases h2
  · refine h.mono fun e W' hh => ?_
    obtain ⟨v, rfl, β', M', r, hE, hR', ⟨hw, rfl⟩, rfl⟩ := hh
    refine ⟨by rw [val_agree hE.agree r hr], hE.fp.mono fun k _ hk => ?_⟩
    obtain ⟨j, e, he, hr, -⟩ := hk
    rw [hro j e he] at hr; cases hr
theorem g_ro : ∀ (k : Nat) (e : Ent), G[k]? = some e → e.rw = false := fun k e he => by cases he
theorem g_rel (W : World) : Rel G (fun k => k) G W := ⟨fun k e he => (by cases he), fun i j x y hx => (by cases hx), fun _ _ => rfl, Nat.le_refl _, fun _ _ => rfl, fun k e he => (by cases he), fun k e he => (by cases he)⟩
theorem u8_of {n : Int} (h : (Lit.int .u8 n).wf = true) : (((BitVec.ofInt 8 n).toNat : Nat) : Int) = n := by
  have h2 : IntKind.u8.min ≤ n ∧ n ≤ IntKind.u8.max := by simpa [Lit.wf] using h
  have e1 : IntKind.u8.min = 0 := by decide
  have e2 : IntKind.u8.max = 255 := by decide
  rw [e1, e2] at h2
  exact ofInt_toNat (inU_iff.2 ⟨h2.1, by have : (2 : Int) ^ 8 = 256 := by decide
                                         omega⟩)
theorem u16_of {n : Int} (h : (Lit.int .u16 n).wf = true) : (((BitVec.ofInt 16 n).toNat : Nat) : Int) = n := by
  have h2 : IntKind.u16.min ≤ n ∧ n ≤ IntKind.u16.max := by simpa [Lit.wf] using h
  have e1 : IntKind.u16.min = 0 := by decide
  have e2 : IntKind.u16.max = 65535 := by decide
  rw [e1, e2] at h2
  exact ofInt_toNat (inU_iff.2 ⟨h2.1, by have : (2 : Int) ^ 16 = 65536 := by decide
                                         omega⟩)
theorem u32_of {n : Int} (h : (Lit.int .u32 n).wf = true) : (((BitVec.ofInt 32 n).toNat : Nat) : Int) = n := by
  have h2 : IntKind.u32.min ≤ n ∧ n ≤ IntKind.u32.max := by simpa [Lit.wf] using h
  have e1 : IntKind.u32.min = 0 := by decide
  have e2 : IntKind.u32.max = 4294967295 := by decide
  rw [e1, e2] at h2
  exact ofInt_toNat (inU_iff.2 ⟨h2.1, by have : (2 : Int) ^ 32 = 4294967296 := by decide
                                         omega⟩)
theorem u64_of {n : Int} (h : (Lit.int .u64 n).wf = true) : (((BitVec.ofInt 64 n).toNat : Nat) : Int) = n := by
  have h2 : IntKind.u64.min ≤ n ∧ n ≤ IntKind.u64.max := by simpa [Lit.wf] using h
  have e1 : IntKind.u64.min = 0 := by decide
  have e2 : IntKind.u64.max = 18446744073709551615 := by decide
  rw [e1, e2] at h2
  exact ofInt_toNat (inU_iff.2 ⟨h2.1, by have : (2 : Int) ^ 64 = 18446744073709551616 := by decide
                                         omega⟩)
end Go.Proofs.Ytkjfecdpakhggaa
namespace Go.Proofs.Ytkjfecdpakhggaa
open Go.RowKit
set_option linter.unusedVariables false
set_option linter.unusedSimpArgs false
set_option maxRecDepth 100000

/-- A step's cells. -/
abbrev SF : List Fk := [.u32, .s, .b, .b, .i]
abbrev Sr : Type := Rc SF
def scrE (pre : List Value) (l : List Sr) : Ent := ⟨false, .recs none SF pre l⟩
def mH (pre : List Value) (l : List Sr) : Mm := [scrE pre l]
/-- How many bytes a step has. -/
def stW (r : Sr) : Nat := r.2.1.length
def hvN (l : List Sr) : Nat → Nat
  | 0 => 0
  | i + 1 => hvN l i + stW (l.getD i (rz SF))
def i21 (pre : List Value) (len cap : Nat) (n : Int) (i : Nat) : List (Nat × SV) := [(0, .rs 0 pre.length 0 5 len cap), (3, .i n), (4, .i (i : Nat))]
def o21 (pre : List Value) (len cap : Nat) (n : Int) : List (Nat × SV) := [(0, .rs 0 pre.length 0 5 len cap), (3, .i n)]
def L21 (pre : List Value) (l : List Sr) (len cap : Nat) (N : Int) : LT := noL.add 0 (vLoop (mH pre l) 30 (i21 pre len cap 0 0) (mH pre l) (o21 pre len cap N) (mH pre l))
theorem r21 (pre : List Value) (l : List Sr) (len cap i : Nat) (n n' N : Int) (a : Prop) : (frK 30 (i21 pre len cap n i) fun fr => vround Try.prog E0 noL 7 0 fr (mH pre l) (Kn (mH pre l) 0 30 a (i21 pre len cap n' (i + 1)) (mH pre l) (o21 pre len cap N) (mH pre l))) = (bif ilt (↑i : Int) (↑len : Int) then bif bif true then ilt (↑i : Int) 300 else false then bif inR (↑i : Int) len then bif rok pre.length i 5 SF pre l.length then bif inI (n + (↑(List.length (l.getD (i + (pre.length - pre.length) / 5) (rz SF)).snd.fst) : Int)) then bif inI ((↑i : Int) + 1) then a ∧ SV.rs 0 pre.length 0 5 len cap = SV.rs 0 pre.length 0 5 len cap ∧ SV.i (n + (↑(List.length (l.getD (i + (pre.length - pre.length) / 5) (rz SF)).snd.fst) : Int)) = SV.i n' ∧ SV.i ((↑i : Int) + 1) = SV.i (↑(i + 1) : Int) ∧ (false = false ∧ Cont.recs none SF pre l = Cont.recs none SF pre l) ∧ True else False else False else False else False else 0 = 0 ∧ SV.rs 0 pre.length 0 5 len cap = SV.rs 0 pre.length 0 5 len cap ∧ SV.i n = SV.i N ∧ (false = false ∧ Cont.recs none SF pre l = Cont.recs none SF pre l) ∧ True else 0 = 0 ∧ SV.rs 0 pre.length 0 5 len cap = SV.rs 0 pre.length 0 5 len cap ∧ SV.i n = SV.i N ∧ (false = false ∧ Cont.recs none SF pre l = Cont.recs none SF pre l) ∧ True) := by kernel_rfl
theorem v21 (pre : List Value) (l : List Sr) (len cap : Nat) (N : Int) (K : SV → Prop) : (vf Try.prog E0 (L21 pre l len cap N) 7 [.rs 0 pre.length 0 5 len cap] (mH pre l) (fun r _ => K r)) = (loopOf Try.prog 7 0 = loopOf Try.prog 7 0 ∧ SV.rs 0 pre.length 0 5 len cap = SV.rs 0 pre.length 0 5 len cap ∧ SV.i 0 = SV.i 0 ∧ SV.i 0 = SV.i (↑0 : Int) ∧ (false = false ∧ Cont.recs none SF pre l = Cont.recs none SF pre l) ∧ bif ilt 100 (↑len : Int) then K (SV.b true) else K (SV.b (bif false then true else ilt 8192 N))) := by kernel_rfl
def i21z (d : Option Addr) (c : Nat) : List (Nat × SV) := [(0, .v (.slice d 0 c)), (3, .i 0), (4, .i 0)]
def o21z (d : Option Addr) (c : Nat) : List (Nat × SV) := [(0, .v (.slice d 0 c)), (3, .i 0)]
def L21z (d : Option Addr) (c : Nat) : LT := noL.add 0 (vLoop G 30 (i21z d c) G (o21z d c) G)
theorem r21z (d : Option Addr) (c : Nat) (a : Prop) : (frK 30 (i21z d c) fun fr => vround Try.prog E0 noL 7 0 fr G (Kn G 0 30 a (i21z d c) G (o21z d c) G)) = (0 = 0 ∧ SV.v (Value.slice d 0 c) = SV.v (Value.slice d 0 c) ∧ SV.i 0 = SV.i 0 ∧ True) := by kernel_rfl
theorem v21z (d : Option Addr) (c : Nat) (K : SV → Prop) : (vf Try.prog E0 (L21z d c) 7 [.v (.slice d 0 c)] G (fun r _ => K r)) = (loopOf Try.prog 7 0 = loopOf Try.prog 7 0 ∧ SV.v (Value.slice d 0 c) = SV.v (Value.slice d 0 c) ∧ SV.i 0 = SV.i 0 ∧ SV.i 0 = SV.i 0 ∧ K (SV.b (bif false then true else ilt 8192 0))) := by kernel_rfl
theorem rok_s {i m : Nat} (pre : List Value) (h : i < m) : rok pre.length i 5 SF pre m = true := by
  unfold rok
  rw [Nat.sub_self, show Nat.beq 5 SF.length = true from rfl, show Nat.blt 0 5 = true from rfl, show Nat.ble pre.length pre.length = true from by rw [Nat.ble_eq]; exact Nat.le_refl _]
  show Nat.blt (i + 0) m = true
  rw [Nat.blt_eq]; exact h
def okS (l : List Sr) : Bool := l.all fun r => Nat.ble r.2.1.length 140737488355328
theorem okS_at {l : List Sr} (h : okS l = true) (i : Nat) : (l.getD i (rz SF)).2.1.length ≤ 140737488355328 := by
  rcases Nat.lt_or_ge i l.length with q | q
  · rw [List.getD_eq_getElem?_getD, List.getElem?_eq_getElem q]
    have := List.all_eq_true.1 h _ (List.getElem_mem q)
    simp only [Nat.ble_eq] at this
    exact this
  · rw [List.getD_eq_getElem?_getD, List.getElem?_eq_none q]
    exact Nat.zero_le _
theorem hvN_le {l : List Sr} (h : okS l = true) : ∀ i, hvN l i ≤ i * 140737488355328
  | 0 => Nat.le_refl _
  | i + 1 => by
    have h1 := hvN_le h i
    have h2 := okS_at h i
    unfold hvN stW
    omega
theorem loop21 (pre : List Value) (l : List Sr) (len cap : Nat) (hl : len ≤ l.length) (hb : len ≤ 140737488355328) (ho : okS l = true) : LOk Try.prog G (mH pre l) 7 (L21 pre l len cap ((hvN l (min len 300) : Nat) : Int)) := by
  refine LT.add_ok (noL_ok _ _ _ _) (loop_next e0_ok mixed (noL_ok _ _ _ _) (by show 0 ≤ 1; decide) (by kernel_rfl) (fun i => i21 pre len cap ((hvN l i : Nat) : Int) i) (fun _ => mH pre l) (fun i => i ≤ len ∧ i ≤ 300) (fun i => len - i) (fun i => i + 1) 0 ⟨Nat.zero_le _, Nat.zero_le _⟩ (fun i hp => of_eq (r21 pre l len cap i _ _ _ _) ?_))
  obtain ⟨hp1, hp2⟩ := hp
  have hle := hvN_le ho i
  have h2 := okS_at ho i
  rw [show i + (pre.length - pre.length) / 5 = i by omega]
  cases hc : ilt (i : Int) (len : Int)
  · have := of_nilt hc
    exact ⟨rfl, rfl, congrArg (fun n => SV.i ((hvN l n : Nat) : Int)) (by omega), ⟨rfl, rfl⟩, trivial⟩
  · have hi := of_ilt hc
    show bif ilt (i : Int) 300 then _ else _
    cases hd : ilt (i : Int) 300
    · have : ¬ (i : Int) < 300 := by rw [ilt_eq] at hd; exact of_decide_eq_false hd
      exact ⟨rfl, rfl, congrArg (fun n => SV.i ((hvN l n : Nat) : Int)) (by omega), ⟨rfl, rfl⟩, trivial⟩
    · have h5 : (i : Int) < 300 := by rw [ilt_eq] at hd; exact of_decide_eq_true hd
      have hr := rok_s pre (show i < l.length by omega)
      have hn : inR (i : Int) len = true := inR_iff.2 ⟨by omega, by omega⟩
      refine bif_of hn (bif_of hr (bif_of (inI_iff.2 (by omega)) (bif_of (inI_iff.2 (by omega)) ⟨⟨⟨by omega, by omega⟩, by omega⟩, rfl, congrArg SV.i ?_, rfl, ⟨rfl, rfl⟩, trivial⟩)))
      show _ = ((hvN l i + stW (l.getD i (rz SF)) : Nat) : Int)
      unfold stW
      omega
theorem loop21z (d : Option Addr) (c : Nat) : LOk Try.prog G G 7 (L21z d c) :=
  LT.add_ok (noL_ok _ _ _ _) (loop_next e0_ok mixed (noL_ok _ _ _ _) (Nat.le_refl _) (by kernel_rfl) (fun _ : Nat => i21z d c) (fun _ => G) (fun _ => True) (fun _ => 0) (fun i => i) 0 trivial (fun i hp => of_eq (r21z d c _) ⟨rfl, rfl, rfl, trivial⟩))
def hvB (l : List Sr) (len : Nat) : Bool := bif ilt 100 (len : Int) then true else ilt 8192 ((hvN l (min len 300) : Nat) : Int)
def unS : Cont → Option (List Value × List Sr)
  | .recs none [.u32, .s, .b, .b, .i] pre l => some (pre, l)
  | _ => none
theorem unS_ok {c : Cont} {pre : List Value} {l : List Sr} (h : unS c = some (pre, l)) : c = .recs none SF pre l := by
  unfold unS at h
  split at h
  · cases h; rfl
  · cases h
theorem tgt_rs {M : Mm} {k base eo sz len cap : Nat} {c : Cont} (h : tgt M (.rs k base eo sz len cap) = c) (hh : c.here = true) : ∃ r, M[k]? = some ⟨r, c⟩ := by
  unfold tgt at h
  dsimp only at h
  cases hk : M[k]? with
  | none => rw [hk] at h; subst h; cases hh
  | some e => rw [hk] at h; exact ⟨e.rw, by rw [← h]⟩
def cHv : List SV → List Cont → Option (Bool × SV)
  | [.rs _ base eo sz len _], [c] => match unS c with
    | some (pre, l) => some (Nat.beq base pre.length && (Nat.beq eo 0 && (Nat.beq sz 5 && (Nat.ble len l.length && (Nat.ble len 140737488355328 && okS l)))), .b (hvB l len))
    | none => none
  | [.v (.slice _ 0 _)], _ => some (true, .b false)
  | _, _ => none
theorem hv_ok : POk Try.prog G 7 cHv := by
  intro args acs r hh β M w hR hw ha
  unfold cHv at hh
  split at hh
  · rename_i k base eo sz len cap c
    split at hh
    · rename_i pre l hu
      simp only [Option.some.injEq, Prod.mk.injEq, Bool.and_eq_true, Nat.ble_eq] at hh
      obtain ⟨⟨h0, h1, h2, h3, h4, h5⟩, rfl⟩ := hh
      obtain rfl := Nat.eq_of_beq_eq_true h0
      obtain rfl := Nat.eq_of_beq_eq_true h1
      obtain rfl := Nat.eq_of_beq_eq_true h2
      simp only [List.map_cons, List.map_nil, List.cons.injEq, and_true] at ha
      have hc := unS_ok hu
      rw [ha] at hc
      exact pure1 (G := G) (c := .recs none SF pre l) (args0 := [.rs 0 pre.length 0 5 len cap]) (vf_ok e0_ok mixed (loop21 pre l len cap h3 h4 h5) (of_eq (v21 pre l len cap _ _) ⟨rfl, rfl, rfl, rfl, ⟨rfl, rfl⟩, by
        unfold hvB
        cases ilt 100 (len : Int) <;> rfl⟩)) rfl rfl rfl rfl rfl (fun _ => rfl) hR (tgt_rs hc rfl)
    · cases hh
  · rename_i cs d c
    simp only [Option.some.injEq, Prod.mk.injEq, true_and] at hh
    subst hh
    exact pure0 (vf_ok e0_ok mixed (loop21z d c) (of_eq (v21z d c _) ⟨rfl, rfl, rfl, rfl, rfl⟩)) rfl rfl hR
  · cases hh
/-- What is not too much: how many steps, how many bytes. -/
theorem hv_no {l : List Sr} {len : Nat} (h : hvB l len = false) : len ≤ 100 ∧ ∀ i, i < len → stW (l.getD i (rz SF)) ≤ 8192 := by
  unfold hvB at h
  cases hc : ilt 100 (len : Int)
  · rw [hc] at h
    have h1 : ¬ (100 : Int) < (len : Int) := by rw [ilt_eq] at hc; exact of_decide_eq_false hc
    have h2 : ¬ (8192 : Int) < ((hvN l (min len 300) : Nat) : Int) := by
      replace h : ilt 8192 ((hvN l (min len 300) : Nat) : Int) = false := h
      rw [ilt_eq] at h; exact of_decide_eq_false h
    rw [Nat.min_eq_left (by omega)] at h2
    refine ⟨by omega, fun i hi => ?_⟩
    have key : ∀ n, i < n → stW (l.getD i (rz SF)) ≤ hvN l n := fun n => by
      induction n with
      | zero => intro h; omega
      | succ n ih =>
        intro h
        unfold hvN
        rcases Nat.lt_or_ge i n with q | q
        · have := ih q; omega
        · obtain rfl : i = n := by omega
          omega
    have := key len hi
    omega
  · rw [hc] at h; cases h
end Go.Proofs.Ytkjfecdpakhggaa
