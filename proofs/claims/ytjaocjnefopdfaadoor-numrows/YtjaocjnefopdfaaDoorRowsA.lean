/-
  NumRows: a step of its row. No statement is proved here.
-/
import Derived.Test.YtjaocjnefopdfaaDoorRedH
import Derived.Test.YtjaocjnefopdfaaDoorNumP
namespace Go.Proofs.YtjaocjnefopdfaaDoor
open Go.RowKit Go.Lib Go.BigFrame
set_option linter.unusedVariables false
set_option linter.unusedSimpArgs false
set_option maxRecDepth 1000000
set_option maxHeartbeats 4000000

/-- A step of a row: what it does, and its text. -/
structure StepAt (w : World) (b o d : Nat) (t : ByteArray) : Prop where
  c0 : w.cell? ⟨b, o, none⟩ = some (.int .u8 (d : Nat))
  c1 : w.cell? ⟨b, o + 1, none⟩ = some (.string t)
theorem StepAt.fr {w w' : World} {b o d : Nat} {t : ByteArray} (h : StepAt w b o d t) (hF : Fr [] w w') : StepAt w' b o d t := ⟨hF.cell h.c0 (by simp), hF.cell h.c1 (by simp)⟩
theorem L4.setRow {V : World} {b t : Nat} {v0 v1 v2 v3 : Value} (h : L4 V b t v0 v1 v2 v3) (u0 u1 u2 u3 : Value) : L4 (V.setRow b #[u0, u1, u2, u3]) b t u0 u1 u2 u3 := setRow_heap V b _ _ t _ h
theorem L4.setRow_other {V : World} {b b' t : Nat} {v0 v1 v2 v3 : Value} (h : L4 V b t v0 v1 v2 v3) (hne : b ≠ b') (c : Array Value) : L4 (V.setRow b' c) b t v0 v1 v2 v3 := by
  unfold L4
  rw [Go.setRow_other V b' b c hne]; exact h
theorem info28 : (Tryd.prog.info? 28).map (·.size) = some 4 := by kernel_rfl
theorem wpList_store_28 {w : World} {ops : Array Oper} {rest : List Oper} {o : Oper} {a : Act} {Q : Exit → Act → World → Prop} (hgd : o.guard = none) (x y : Operand) (ho : o.op = .store 28 x y)
    (g t : Nat) (v0 v1 v2 v3 : Value) (u0 u1 u2 u3 : Nat) (hx : a.eval x = .pointer (some ⟨g, 0, none⟩)) (hy : a.eval y = .agg #[.int .u64 (u0 : Nat), .int .u64 (u1 : Nat), .int .u64 (u2 : Nat), .int .u64 (u3 : Nat)]) (hg : L4 w g t v0 v1 v2 v3)
    (h : ∀ W, W = w.setRow g #[.int .u64 (u0 : Nat), .int .u64 (u1 : Nat), .int .u64 (u2 : Nat), .int .u64 (u3 : Nat)] → wpList Tryd.prog ops Q rest (a.put o.dst undef) W) : wpList Tryd.prog ops Q (o :: rest) a w :=
  wpList_store_row hgd 28 x y ho g _ hx hy t _ hg info28 rfl (by simp [Value.oneCell']) (h _ rfl)
/-- What a step makes of x with y. -/
def nx (d x y : Nat) : Nat := if d = 1 then (x + Nt.P - y) % Nt.P else if d = 2 then x * y % Nt.P else if d = 3 then x * x % Nt.P else if d = 4 then (x + x) % Nt.P else (x + y) % Nt.P
theorem nx_ltP (d x y : Nat) : nx d x y < Nt.P := by
  unfold nx
  split
  · exact Nat.mod_lt _ P_pos
  · split
    · exact Nat.mod_lt _ P_pos
    · split
      · exact Nat.mod_lt _ P_pos
      · split <;> exact Nat.mod_lt _ P_pos
/-- The number of a step's text. -/
def ny (t : ByteArray) : Nat := if t.size = 32 then of t else 0
theorem ny_ltP (t : ByteArray) : ny t < Nt.P := by
  unfold ny
  split
  · exact of_ltP t
  · exact P_pos
/-- What a row has made of a number ahead of step i. -/
def rw' (x : Nat) (D : Nat → Nat) (T : Nat → ByteArray) : Nat → Nat
  | 0 => x
  | i + 1 => nx (D i) (rw' x D T i) (ny (T i))
theorem rw_ltP {x : Nat} (hx : x < Nt.P) (D : Nat → Nat) (T : Nat → ByteArray) : ∀ i, rw' x D T i < Nt.P
  | 0 => hx
  | i + 1 => nx_ltP _ _ _
end Go.Proofs.YtjaocjnefopdfaaDoor

