/-
  ip: the law IpWhole: how many bytes there are: a sum that may go round. No statement is proved here.
-/
import Derived.Test.YtggoncamiafclaaJqB
namespace Go.Proofs.Ytggoncamiafclaa
open Go.RowKit
set_option linter.unusedVariables false
set_option linter.unusedSimpArgs false
set_option maxRecDepth 100000
def hWr : HT := fun op xs M K => match op, xs with
 | .binOp .add _ _ _ _, [.i a, .i b] => K (.i (IntKind.i64.wrap (a + b))) M
 | _, _ => False
theorem hWr_ok (nG : Mm) : HTok Try.prog nG hWr := by
 intro o xs M K h ρ β w hR ho hx
 unfold hWr at h
 split at h
 ·rename_i t x y t2 a b hop
  rw [hop] at ho
  have ho : [ρ x, ρ y] = [.int .i64 a, .int .i64 b] := ho
  simp only [List.cons.injEq, and_true] at ho
  obtain ⟨e1, e2⟩ := ho
  have run : (do eqGuard .add t x y (.int .i64 a) (.int .i64 b); binOp .add t (.int .i64 a) (.int .i64 b) : Sem Value).run Try.prog w = .ok (.int .i64 (IntKind.i64.wrap (a + b))) w := by
   rw [Sem.run_bind, guard_int, Result.andThen_ok, bin_int .add (by simp) (by simp)]
   rfl
  refine .inl ⟨_, _, (by
   unfold execOp
   simp only [hop]
   rw [e1, e2]
   exact run_v run), ?_⟩
  exact ⟨β, M, .i (IntKind.i64.wrap (a + b)), Ext.refl _ _ _, hR, .inr ⟨rfl, rfl⟩, h⟩
 ·exact h.elim
def flagL : Nat := 1000003
def E0a : Env := { G := G, T := T0.add flagL cFlag, C := noC, H := hWr }
theorem e0a_ok : EnvOk Try.prog E0a := { T := PT.add_ok t0_ok (flag_ok _), C := noC_ok _ _, H := hWr_ok _ }
theorem r0w (d : Dt) (xc xo : SV) (eC eO : Ent) (i : Nat) (n n' N : Int) (a : Prop) : (frK 274 (i0w d.x xc xo n i) fun fr => vround Try.prog E0a noL 6 0 fr (mB d.e eC eO) (Kn (mB d.e eC eO) 0 274 a (i0w d.x xc xo n' (i + 1)) (mB d.e eC eO) (o0w d.x xc xo N) (mB d.e eC eO))) = (bif ilt (↑i : Int) (↑d.n : Int) then bif inR (↑i : Int) d.n then bif rok d.pre.length i 1 [Fk.s] d.pre d.l.length then a ∧ d.x = SV.rs 0 d.pre.length 0 1 d.n d.k ∧ eqA 3 xc xc xc (eqA 3 xo xo xo (SV.i (IntKind.i64.wrap (n + (dln d i))) = SV.i n' ∧ SV.i (IntKind.i64.wrap ((↑i : Int) + 1)) = SV.i (↑(i + 1) : Int) ∧ (false = false ∧ Cont.recs none [Fk.s] d.pre d.l = Cont.recs none [Fk.s] d.pre d.l) ∧ (eC.1 = eC.1 ∧ eC.2 = eC.2) ∧ bif Cont.wf 3 eC.2 then (eO.1 = eO.1 ∧ eO.2 = eO.2) ∧ bif Cont.wf 3 eO.2 then True else False else False)) else False else False else 0 = 0 ∧ d.x = SV.rs 0 d.pre.length 0 1 d.n d.k ∧ eqA 3 xc xc xc (eqA 3 xo xo xo (SV.i n = SV.i N ∧ (false = false ∧ Cont.recs none [Fk.s] d.pre d.l = Cont.recs none [Fk.s] d.pre d.l) ∧ (eC.1 = eC.1 ∧ eC.2 = eC.2) ∧ bif Cont.wf 3 eC.2 then (eO.1 = eO.1 ∧ eO.2 = eO.2) ∧ bif Cont.wf 3 eO.2 then True else False else False))) := by kernel_rfl
end Go.Proofs.Ytggoncamiafclaa
