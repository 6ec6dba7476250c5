/-
  ip: works answers true. No statement is proved here.
-/
import Derived.Test.YtggoncamiafclaaJpA
namespace Go.Proofs.Ytggoncamiafclaa
open Go.RowKit
set_option linter.unusedVariables false
set_option linter.unusedSimpArgs false
set_option maxRecDepth 100000
theorem st_eta {s : St} (h : OkS s) : stO s.mb s.clk s.es s.gs = s := by
 obtain ⟨mb, clk, es, was, it, gs⟩ := s
 obtain rfl : was = false := h.map
 obtain rfl : it = none := h.it
 rfl
theorem fil_w {y : SetE} (h : y.u = BitVec.ofInt 64 1 + BitVec.ofInt 64 10) : [y].filter (fun e => !e.u.ule (BitVec.ofInt 64 2)) = [y] := by
 have h1 : (!y.u.ule (BitVec.ofInt 64 2)) = true := by rw [h]; rfl
 rw [List.filter_cons, h1]; rfl
theorem bif_t {c : Bool} {p q : Prop} (h : c = true) (hp : p) : bif c then p else q := by rw [h]; exact hp
def c9 : List SV → List Cont → Option (Bool × SV)
 | [], _ => some (true, .b true)
 | _, _ => none
theorem w9 : vf Try.prog EX noL 9 [] G (fun r' _ => r' = .b true) := of_eq (v9 _) fun x => ⟨ok_empty x 0, fun gs1 hg1 => ⟨⟨hg1, by decide, fun e he => (by cases he)⟩, fun s' z hE => by
  obtain ⟨rfl, y, h1, h2, h3, h4, h5⟩ := first_err rfl hE
  have hf : s'.es.filter (fun e => !e.u.ule (BitVec.ofInt 64 2)) = [y] := by rw [h1]; exact fil_w h3
  have hy : okE y := h5.ok y (by rw [h1]; exact List.mem_cons_self ..)
  have hl : y.len = 1 := by rw [← ps_len hy, h4]; rfl
  refine ⟨by rw [st_eta h5]; exact h5, fun gs2 hg2 => ⟨⟨hg2, by decide, fun e he => ?_⟩, fun s2 z2 hE2 => (second_err (y := y) hf h2 h4 hE2).elim, fun s2 ps hM2 => ?_⟩⟩
  ·rw [hf] at he
   obtain rfl := List.mem_singleton.1 he
   omega
  ·obtain ⟨rfl, he⟩ := second_made (y := y) hf h2 h4 hM2
   refine bif_t (show (bif true then (0 : Int) == 0 else false) = true from rfl) (bif_t (show (bif true then datW [c2W, c1W] 2 == bts { data := #[97, 98, 99, 100, 101, 102, 103, 104, 105, 106] } else false) = true from dat_w) (bif_t (show (bif true then (bif (2 : Int) == 0 then (0 : Int) else ((s2.es.length : Nat) : Int)) == 0 else false) = true by rw [he]; rfl) (congrArg SV.b sum_w))), fun s' ps hM => (first_made rfl hM).elim⟩⟩
theorem works_ok : POk Try.prog G 9 c9 := by
 intro args acs r hh β M w hR hw ha
 unfold c9 at hh
 split at hh
 ·simp only [Option.some.injEq, Prod.mk.injEq, true_and] at hh
  subst hh
  exact pokE (E := EX) rfl ex_ok (noL_ok _ _ _ _) rfl w9 rfl rfl hR
 ·cases hh
end Go.Proofs.Ytggoncamiafclaa
namespace Go.Proofs.Ytggoncamiafclaa
open Go.RowKit
set_option linter.unusedVariables false
set_option linter.unusedSimpArgs false
set_option maxRecDepth 100000
end Go.Proofs.Ytggoncamiafclaa
