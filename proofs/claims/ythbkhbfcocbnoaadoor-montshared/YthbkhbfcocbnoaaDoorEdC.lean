/-
  The ladder's steps, in the field, and the points that they stand for. Plain arithmetic: no Go in it.
-/
import Derived.Test.YthbkhbfcocbnoaaDoorEdB
namespace Go.Proofs.YthbkhbfcocbnoaaDoor
set_option linter.unusedVariables false
set_option maxRecDepth 100000
namespace Ed

/-- X by Z is the first coordinate of the other form of the curve, of p. -/
structure Rep (X Z : F) (p : Pt) : Prop where
  eq : X - Z = p.y * (X + Z)
  ne : X + Z ≠ 0
theorem one_dd {y : F} {x : F} (h : on x y) : 1 + dd * y * y ≠ 0 := fun e => by
  have h1 := on_def h
  have hd := dd_is
  have h2 : y * y = 1 := by grind -lia
  have h3 : (1 : F) = 0 := by grind -lia
  exact one_ne h3
theorem dbl_A (x y Y d : F) (hd : 121666 * d = -121665) (h : y * y - x * x = 1 + d * x * x * y * y) (hY : Y * (1 - d * x * x * y * y) = y * y + x * x) :
    (1 + d * y * y) * (1 - d * x * x * y * y) * 121666 = 121666 - 2 * 121665 * y * y + 121665 * y * y * y * y := by grind -lia
theorem dbl_B (x y d : F) (hd : 121666 * d = -121665) (h : y * y - x * x = 1 + d * x * x * y * y) :
    (1 + d * y * y) * (y * y + x * x) * 121666 = 2 * 121666 * y * y - 121666 - 121665 * y * y * y * y := by grind -lia
theorem dbl_C (X Z y s A B : F) (h : X - Z = y * (X + Z)) (hs : s = X + Z) (hA : A = 2 * 121666 * y * y - 121666 - 121665 * y * y * y * y) (hB : B = 121666 - 2 * 121665 * y * y + 121665 * y * y * y * y) :
    ((X + Z) * (X + Z)) * ((X - Z) * (X - Z)) - (((X + Z) * (X + Z) - (X - Z) * (X - Z)) * ((X + Z) * (X + Z) + ((X + Z) * (X + Z) - (X - Z) * (X - Z)) * 121665)) = s * s * s * s * A ∧
    ((X + Z) * (X + Z)) * ((X - Z) * (X - Z)) + (((X + Z) * (X + Z) - (X - Z) * (X - Z)) * ((X + Z) * (X + Z) + ((X + Z) * (X + Z) - (X - Z) * (X - Z)) * 121665)) = s * s * s * s * B := by
  rw [h]
  constructor <;> grind -lia
theorem c121666 : (121666 : F) ≠ 0 := by decide
theorem dbl_D (Y U V W A B : F) (hB : U * V * 121666 = B) (hA : U * W * 121666 = A) (hY : Y * V = W) : A = Y * B := by grind -lia
theorem mul_left_eq {a b c d : F} (h : a = b * c) (e : d * a = d * (b * c)) : d * a = b * (d * c) := by grind -lia
theorem Rep.dbl {X Z : F} {p : Pt} (h : Rep X Z p) (hp : p.On) : Rep (((X + Z) * (X + Z)) * ((X - Z) * (X - Z))) (((X + Z) * (X + Z) - (X - Z) * (X - Z)) * ((X + Z) * (X + Z) + ((X + Z) * (X + Z) - (X - Z) * (X - Z)) * 121665)) (add p p) := by
  have hY := add_y hp hp
  have hV := dm hp hp
  have hU := one_dd hp
  have e1 := dbl_A p.x p.y _ dd dd_is hp hY
  have e2 := dbl_B p.x p.y dd dd_is hp
  obtain ⟨k1, k2⟩ := dbl_C X Z p.y _ _ _ h.eq rfl rfl rfl
  have e3 := dbl_D _ _ _ _ _ _ e1 e2 hY
  have hs := mul_ne (mul_ne (mul_ne h.ne h.ne) h.ne) h.ne
  refine ⟨?_, ?_⟩
  · rw [k1, k2, e3]
    exact mul_left_eq rfl rfl
  · rw [k2, ← e1]
    exact mul_ne hs (mul_ne (mul_ne hU hV) c121666)
/-- The second coordinate of the difference. -/
def Diff (p r : Pt) (q : F) : Prop := q * (1 + dd * p.x * r.x * p.y * r.y) = p.y * r.y - p.x * r.x
theorem diff_poly (x1 y1 x2 y2 q d : F) (h : q * (1 - d * (-x1) * x2 * y1 * y2) = y1 * y2 + -x1 * x2) : q * (1 + d * x1 * x2 * y1 * y2) = y1 * y2 - x1 * x2 := by grind -lia
theorem diff_of {p r q : Pt} (hp : p.On) (hq : q.On) (h : r = add p q) : Diff p r q.y := by
  have e : add (neg p) r = q := by rw [h, ← add_assoc (neg_on hp) hp hq, neg_add hp, zero_add hq]
  have hr : r.On := by rw [h]; exact add_on hp hq
  have k := add_y (neg_on hp) hr
  rw [e] at k
  exact diff_poly _ _ _ _ _ _ k
theorem diff_comm_poly (x1 y1 x2 y2 q d : F) (h : q * (1 + d * x1 * x2 * y1 * y2) = y1 * y2 - x1 * x2) : q * (1 + d * x2 * x1 * y2 * y1) = y2 * y1 - x2 * x1 := by grind -lia
theorem Diff.comm {p r : Pt} {q : F} (h : Diff p r q) : Diff r p q := diff_comm_poly _ _ _ _ _ _ h
theorem sum_poly (x1 y1 x2 y2 q s d : F) (h1 : y1 * y1 - x1 * x1 = 1 + d * x1 * x1 * y1 * y1) (h2 : y2 * y2 - x2 * x2 = 1 + d * x2 * x2 * y2 * y2) :
    (1 - d * x1 * x2 * y1 * y2) * (2 * y1 * y2 * (1 + d * x1 * x2 * y1 * y2) - (y1 * y2 - x1 * x2) * (y1 * y1 + y2 * y2)) = (y1 * y2 + x1 * x2) * ((y1 * y1 + y2 * y2) * (1 + d * x1 * x2 * y1 * y2) - 2 * (y1 * y2 - x1 * x2) * y1 * y2) := by grind -lia
theorem sum_quot (U V N M q s c e : F) (hq : q * U = N) (hs : s * V = M) (h : V * (c * U - N * e) = M * (e * U - N * c)) (hV : V ≠ 0) (hU : U ≠ 0) : c - q * e = s * (e - q * c) := by
  refine cancel (mul_ne hV hU) ?_
  grind -lia
theorem sum_main (X1 Z1 X2 Z2 y1 y2 x q s t : F) (h1 : X1 - Z1 = y1 * (X1 + Z1)) (h2 : X2 - Z2 = y2 * (X2 + Z2)) (hx : x - 1 = q * (x + 1)) (h : 2 * y1 * y2 - q * (y1 * y1 + y2 * y2) = s * (y1 * y1 + y2 * y2 - q * (2 * y1 * y2))) (ht : t = (X1 + Z1) * (X2 + Z2)) :
    ((X2 - Z2) * (X1 + Z1) + (X2 + Z2) * (X1 - Z1)) * ((X2 - Z2) * (X1 + Z1) + (X2 + Z2) * (X1 - Z1)) = t * t * ((y1 + y2) * (y1 + y2)) ∧
    ((X2 - Z2) * (X1 + Z1) - (X2 + Z2) * (X1 - Z1)) * ((X2 - Z2) * (X1 + Z1) - (X2 + Z2) * (X1 - Z1)) * x = t * t * ((y2 - y1) * (y2 - y1) * x) := by
  rw [h1, h2]
  constructor <;> grind -lia
theorem sum_y (y1 y2 x q s : F) (hx : x - 1 = q * (x + 1)) (h : 2 * y1 * y2 - q * (y1 * y1 + y2 * y2) = s * (y1 * y1 + y2 * y2 - q * (2 * y1 * y2))) :
    (1 - q) * ((y1 + y2) * (y1 + y2) - (y2 - y1) * (y2 - y1) * x) = (1 - q) * (s * ((y1 + y2) * (y1 + y2) + (y2 - y1) * (y2 - y1) * x)) := by grind -lia
theorem half1 (A B s : F) (k : A - B = s * 0) (e : A + B = 0) : A * 2 = 0 := by grind -lia
theorem half2 (A B s : F) (k : A - B = s * 0) (e : A + B = 0) : B * 2 = 0 := by grind -lia
theorem scale (t A B s : F) (k : A - B = s * (A + B)) : t * t * A - t * t * B = s * (t * t * A + t * t * B) := by grind -lia
theorem twice0 (a b : F) (h1 : a + b = 0) (h2 : b - a = 0) : a * 2 = 0 ∧ b * 2 = 0 := by constructor <;> grind -lia
theorem four0 (x q a b d : F) (e1 : 0 * 0 - a * a = 1 + d * a * a * 0 * 0) (e2 : 0 * 0 - b * b = 1 + d * b * b * 0 * 0) (e3 : q * (1 + d * a * b * 0 * 0) = 0 * 0 - a * b) (hx : x - 1 = q * (x + 1)) : x * 4 = 0 := by
  have f1 : q * q = 1 := by grind -lia
  grind -lia
theorem Rep.sum {X1 Z1 X2 Z2 x q : F} {p r : Pt} (h1 : Rep X1 Z1 p) (h2 : Rep X2 Z2 r) (hp : p.On) (hr : r.On) (hx : x - 1 = q * (x + 1)) (hx0 : x ≠ 0) (hD : Diff p r q) :
    Rep (((X2 - Z2) * (X1 + Z1) + (X2 + Z2) * (X1 - Z1)) * ((X2 - Z2) * (X1 + Z1) + (X2 + Z2) * (X1 - Z1))) (((X2 - Z2) * (X1 + Z1) - (X2 + Z2) * (X1 - Z1)) * ((X2 - Z2) * (X1 + Z1) - (X2 + Z2) * (X1 - Z1)) * x) (add p r) := by
  have hS := add_y hp hr
  have hU := dp hp hr
  have hV := dm hp hr
  have k := sum_poly p.x p.y r.x r.y q (add p r).y dd hp hr
  have k2 := sum_quot _ _ _ _ q (add p r).y (2 * p.y * r.y) (p.y * p.y + r.y * r.y) hD hS (by grind -lia) hV hU
  have hq1 : 1 - q ≠ 0 := fun e => by
    have : (2 : F) = 0 := by grind -lia
    exact two_ne this
  have k3 := cancel hq1 (sum_y p.y r.y x q (add p r).y hx k2)
  obtain ⟨m1, m2⟩ := sum_main X1 Z1 X2 Z2 p.y r.y x q (add p r).y _ h1.eq h2.eq hx k2 rfl
  have ht := mul_ne h1.ne h2.ne
  have hne : (p.y + r.y) * (p.y + r.y) + (r.y - p.y) * (r.y - p.y) * x ≠ 0 := fun e => by
    rw [e] at k3
    have a1 : (p.y + r.y) * (p.y + r.y) * 2 = 0 := half1 _ _ _ k3 e
    have a2 : (r.y - p.y) * (r.y - p.y) * x * 2 = 0 := half2 _ _ _ k3 e
    have b1 : p.y + r.y = 0 := by
      rcases dom a1 with c | c
      · rcases dom c with d | d <;> exact d
      · exact absurd c two_ne
    have b2 : r.y - p.y = 0 := by
      rcases dom a2 with c | c
      · rcases dom c with d | d
        · rcases dom d with f | f <;> exact f
        · exact absurd d hx0
      · exact absurd c two_ne
    obtain ⟨c1, c2⟩ := twice0 _ _ b1 b2
    have d1 : p.y = 0 := by rcases dom c1 with f | f; exact f; exact absurd f two_ne
    have d2 : r.y = 0 := by rcases dom c2 with f | f; exact f; exact absurd f two_ne
    have e1 := hp.eq
    have e2 := hr.eq
    have e3 : q * (1 + dd * p.x * r.x * p.y * r.y) = p.y * r.y - p.x * r.x := hD
    rw [d1, d2] at e3
    rw [d1] at e1
    rw [d2] at e2
    have f2 : x * 4 = 0 := four0 x q p.x r.x dd e1 e2 e3 hx
    rcases dom f2 with g | g
    · exact hx0 g
    · exact absurd g (by decide)
  refine ⟨?_, ?_⟩
  · rw [m1, m2]
    exact scale _ _ _ _ k3
  · rw [m1, m2, show ∀ a b c : F, a * b + a * c = a * (b + c) from fun a b c => by grind -lia]
    exact mul_ne (mul_ne ht ht) hne
/-- The first coordinate of a point on the other form; 0, if it has none. -/
def U (p : Pt) : F := (1 + p.y) * inv (1 - p.y)
theorem Rep.val {X Z : F} {p : Pt} (h : Rep X Z p) : X * inv Z = U p := by
  have h0 := h.eq
  have hn := h.ne
  have e1 : X * 2 = (X + Z) * (1 + p.y) := by grind -lia
  have e2 : Z * 2 = (X + Z) * (1 - p.y) := by grind -lia
  have e3 : X * inv Z = (X * 2) * inv (Z * 2) := by
    have := mul_inv two_ne
    rw [inv_mul]
    grind -lia
  rw [e3, e1, e2, inv_mul]
  have := mul_inv hn
  unfold U
  grind -lia
theorem U_rep {p : Pt} (h : p.y ≠ 1) : Rep (U p) 1 p := by
  have hn : 1 - p.y ≠ 0 := fun e => h (by grind -lia)
  have h1 : U p * (1 - p.y) = 1 + p.y := (div_iff hn).1 rfl
  refine ⟨by grind -lia, fun e => ?_⟩
  have : (2 : F) = 0 := by grind -lia
  exact two_ne this
theorem U_ne {p : Pt} (h : p.y ≠ 1) (h2 : p.y ≠ -1) : U p ≠ 0 := fun e => by
  have hn : 1 - p.y ≠ 0 := fun e => h (by grind -lia)
  have h1 : U p * (1 - p.y) = 1 + p.y := (div_iff hn).1 rfl
  rw [e] at h1
  exact h2 (by grind -lia)
theorem y_one {p : Pt} (hp : p.On) (h : p.y = 1) : p = zero := by
  have e := hp.eq
  have hd := dd_is
  rw [h] at e
  have e2 : p.x * p.x = 0 := by grind -lia
  have e3 : p.x = 0 := by rcases dom e2 with f | f <;> exact f
  exact pt_eq e3 h
theorem y_minus {p : Pt} (hp : p.On) (h : p.y = -1) : add p p = zero := by
  have e := hp.eq
  have hd := dd_is
  rw [h] at e
  have e2 : p.x * p.x = 0 := by grind -lia
  have e3 : p.x = 0 := by rcases dom e2 with f | f <;> exact f
  have k1 := add_x hp hp
  have k2 := add_y hp hp
  rw [e3, h] at k1 k2
  exact pt_eq (show _ = (0 : F) by grind -lia) (show _ = (1 : F) by grind -lia)
end Ed
end Go.Proofs.YthbkhbfcocbnoaaDoor
