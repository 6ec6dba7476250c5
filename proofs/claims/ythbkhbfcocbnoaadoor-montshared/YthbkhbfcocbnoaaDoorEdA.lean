/-
  The field of the numbers modulo 2^255 - 19, and the sums of points of the twisted Edwards curve. Plain arithmetic: no Go in it.
-/
import Derived.Test.YthbkhbfcocbnoaaDoorNt
namespace Go.Proofs.YthbkhbfcocbnoaaDoor
set_option linter.unusedVariables false
set_option maxRecDepth 100000
namespace Ed

abbrev F := Fin 57896044618658097711785492504343953926634992332820282019728792003956564819949
theorem val_mul (a b : F) : (a * b).val = a.val * b.val % 57896044618658097711785492504343953926634992332820282019728792003956564819949 := Fin.val_mul a b
theorem dom {a b : F} (h : a * b = 0) : a = 0 ∨ b = 0 := by
  have h1 : a.val * b.val % 57896044618658097711785492504343953926634992332820282019728792003956564819949 = 0 := by
    rw [← val_mul, h]; rfl
  have z : ∀ c : F, 57896044618658097711785492504343953926634992332820282019728792003956564819949 ∣ c.val → c = 0 := fun c hc => by
    apply Fin.ext
    rcases Nat.eq_zero_or_pos c.val with e | e
    · exact e
    · exact absurd (Nat.le_of_dvd e hc) (Nat.not_le_of_lt c.isLt)
  rcases Nt.prP.or (Nat.dvd_of_mod_eq_zero h1) with e | e
  · exact .inl (z a e)
  · exact .inr (z b e)
theorem cancel {a b c : F} (ha : a ≠ 0) (h : a * b = a * c) : b = c := by
  have h1 : a * (b - c) = 0 := by grind -lia
  rcases dom h1 with e | e
  · exact absurd e ha
  · grind -lia
theorem mul_ne {a b : F} (ha : a ≠ 0) (hb : b ≠ 0) : a * b ≠ 0 := fun h => by
  rcases dom h with e | e
  · exact ha e
  · exact hb e
/-- The inverse; that of 0 is 0. -/
def ivn (a : Nat) : Nat := a ^ (Nt.P - 2) % Nt.P
theorem ivn_lt (a : Nat) : ivn a < 57896044618658097711785492504343953926634992332820282019728792003956564819949 :=
  Nat.lt_of_lt_of_eq (Nat.mod_lt _ (by have := Nt.P_two; omega)) Nt.P_val
theorem ivn_mul {a : Nat} (h : ¬ Nt.P ∣ a) : a * ivn a % Nt.P = 1 := Nt.inv_mul h
theorem ivn_zero_gen {p e z : Nat} (h : z = 0) (he : 0 < e) : z ^ e % p = 0 := by
  subst h; rw [Nat.zero_pow he, Nat.zero_mod]
theorem ivn_zero (z : Nat) (h : z = 0) : ivn z = 0 := ivn_zero_gen h (by have := Nt.P_two; omega)
def inv (a : F) : F := ⟨ivn a.val, ivn_lt _⟩
theorem val_inv (a : F) : (inv a).val = ivn a.val := rfl
theorem ndvd {a : F} (h : a ≠ 0) : ¬ Nt.P ∣ a.val := fun hd => by
  have h0 : 0 < a.val := Nat.pos_of_ne_zero fun e => h (Fin.ext e)
  have h1 := Nat.le_of_dvd h0 hd
  have h2 : a.val < Nt.P := Nat.lt_of_lt_of_eq a.isLt Nt.P_val.symm
  exact absurd h1 (Nat.not_le_of_lt h2)
theorem mul_inv {a : F} (h : a ≠ 0) : a * inv a = 1 := by
  apply Fin.ext
  have e := ivn_mul (ndvd h)
  rw [val_mul, val_inv]
  generalize ivn a.val = z at *
  generalize a.val = y at *
  rw [Nt.P_val] at e
  exact e
theorem inv_zero : inv 0 = 0 := by
  apply Fin.ext
  have h : ∀ a : F, a.val = 0 → (inv a).val = 0 := fun a h => by rw [val_inv]; exact ivn_zero _ h
  exact h 0 rfl
theorem one_ne : (1 : F) ≠ 0 := by decide
theorem two_ne : (2 : F) ≠ 0 := by decide
theorem inv_ne {a : F} (h : a ≠ 0) : inv a ≠ 0 := fun e => by
  have := mul_inv h
  rw [e] at this
  exact one_ne (by grind -lia)
theorem inv_mul (a b : F) : inv (a * b) = inv a * inv b := by
  by_cases ha : a = 0
  · subst ha; rw [show (0 : F) * b = 0 from by grind -lia, inv_zero]; grind -lia
  · by_cases hb : b = 0
    · subst hb; rw [show a * (0 : F) = 0 from by grind -lia, inv_zero]; grind -lia
    · have h1 := mul_inv ha
      have h2 := mul_inv hb
      have h3 := mul_inv (mul_ne ha hb)
      exact cancel (mul_ne ha hb) (by grind -lia)
theorem div_iff {a b x : F} (h : b ≠ 0) : x = a * inv b ↔ x * b = a := by
  have h1 := mul_inv h
  constructor
  · intro e; subst e; grind -lia
  · intro e; subst e; grind -lia

/-- The number of the curve. -/
def dd : F := 37095705934669439343138083508754565189542113879843219016388785533085940283555
theorem dd_is : 121666 * dd = -121665 := by decide +kernel
def ii : F := 19681161376707505956807079304988542015446066515923890162744021073123829784752
theorem ii_sq : ii * ii = -1 := by decide +kernel
theorem nsq_pm : Nt.pm 57896044618658097711785492504343953926634992332820282019728792003956564819949 256 20800338683988658368647408995589388737092878452977063003340006470870624536394 28948022309329048855892746252171976963317496166410141009864396001978282409974 = 57896044618658097711785492504343953926634992332820282019728792003956564819948 := by decide +kernel
theorem nsq {r s : F} (h : -dd * (s * s) = r * r) : s = 0 := by
  apply Classical.byContradiction
  intro hs
  have h1 := mul_inv hs
  have h2 : (r * inv s) * (r * inv s) = -dd := by grind -lia
  have h3 : (r * inv s).val * (r * inv s).val % Nt.P = 20800338683988658368647408995589388737092878452977063003340006470870624536394 % Nt.P := by
    rw [Nt.P_val, ← val_mul, h2]; decide +kernel
  have h4 := Nt.chi_of_root (a := 20800338683988658368647408995589388737092878452977063003340006470870624536394) (by rw [Nt.P_val]; decide +kernel) h3
  have h5 := Nt.pm_eq 57896044618658097711785492504343953926634992332820282019728792003956564819949 256 20800338683988658368647408995589388737092878452977063003340006470870624536394 28948022309329048855892746252171976963317496166410141009864396001978282409974 (by decide +kernel)
  rw [nsq_pm] at h5
  rw [Nt.P_val, show 4 * Nt.K + 2 = 28948022309329048855892746252171976963317496166410141009864396001978282409974 from by rw [Nt.K_val], ← h5] at h4
  exact absurd h4 (by decide)

/-- A point of the curve. -/
def on (x y : F) : Prop := y * y - x * x = 1 + dd * x * x * y * y
theorem on_def {x y : F} (h : on x y) : y * y - x * x = 1 + dd * x * x * y * y := h
theorem poly_plus (x1 y1 x2 y2 d i e : F) (hi : i * i = -1) (h1 : y1 * y1 - x1 * x1 = 1 + d * x1 * x1 * y1 * y1) (h2 : y2 * y2 - x2 * x2 = 1 + d * x2 * x2 * y2 * y2) (he : e = d * x1 * x2 * y1 * y2) (h : e * e = 1) :
    -d * ((i * x1 * y1 * (i * x2 + y2)) * (i * x1 * y1 * (i * x2 + y2))) = (i * x1 + e * y1) * (i * x1 + e * y1) := by grind -lia
theorem poly_minus (x1 y1 x2 y2 d i e : F) (hi : i * i = -1) (h1 : y1 * y1 - x1 * x1 = 1 + d * x1 * x1 * y1 * y1) (h2 : y2 * y2 - x2 * x2 = 1 + d * x2 * x2 * y2 * y2) (he : e = d * x1 * x2 * y1 * y2) (h : e * e = 1) :
    -d * ((i * x1 * y1 * (i * x2 - y2)) * (i * x1 * y1 * (i * x2 - y2))) = (i * x1 - e * y1) * (i * x1 - e * y1) := by grind -lia
theorem full {x1 y1 x2 y2 : F} (h1 : on x1 y1) (h2 : on x2 y2) : dd * x1 * x2 * y1 * y2 * (dd * x1 * x2 * y1 * y2) ≠ 1 := fun he => by
  have ha := nsq (poly_plus x1 y1 x2 y2 dd ii _ ii_sq h1 h2 rfl he)
  have hb := nsq (poly_minus x1 y1 x2 y2 dd ii _ ii_sq h1 h2 rfl he)
  have hi := ii_sq
  have h0 : x2 * x1 * y1 * 2 = 0 := by grind -lia
  have h3 : dd * x1 * x2 * y1 * y2 * (dd * x1 * x2 * y1 * y2) * 2 = 0 := by grind -lia
  rw [he] at h3
  exact absurd h3 (by decide)
theorem dp {x1 y1 x2 y2 : F} (h1 : on x1 y1) (h2 : on x2 y2) : 1 + dd * x1 * x2 * y1 * y2 ≠ 0 := fun e => full h1 h2 (by grind -lia)
theorem dm {x1 y1 x2 y2 : F} (h1 : on x1 y1) (h2 : on x2 y2) : 1 - dd * x1 * x2 * y1 * y2 ≠ 0 := fun e => full h1 h2 (by grind -lia)
end Ed
end Go.Proofs.YthbkhbfcocbnoaaDoor
