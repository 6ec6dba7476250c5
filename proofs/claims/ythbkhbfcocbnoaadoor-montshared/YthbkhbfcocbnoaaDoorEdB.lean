/-
  Points of the twisted Edwards curve: their sums do not hang on the order; multiples. Plain arithmetic: no Go in it.
-/
import Derived.Test.YthbkhbfcocbnoaaDoorEdA
namespace Go.Proofs.YthbkhbfcocbnoaaDoor
set_option linter.unusedVariables false
set_option maxRecDepth 100000
namespace Ed

structure Pt where
  x : F
  y : F
def Pt.On (p : Pt) : Prop := on p.x p.y
theorem Pt.On.eq {p : Pt} (h : p.On) : p.y * p.y - p.x * p.x = 1 + dd * p.x * p.x * p.y * p.y := h
def add (p q : Pt) : Pt := ⟨(p.x * q.y + p.y * q.x) * inv (1 + dd * p.x * q.x * p.y * q.y), (p.y * q.y + p.x * q.x) * inv (1 - dd * p.x * q.x * p.y * q.y)⟩
theorem add_x {p q : Pt} (hp : p.On) (hq : q.On) : (add p q).x * (1 + dd * p.x * q.x * p.y * q.y) = p.x * q.y + p.y * q.x := (div_iff (dp hp hq)).1 rfl
theorem add_y {p q : Pt} (hp : p.On) (hq : q.On) : (add p q).y * (1 - dd * p.x * q.x * p.y * q.y) = p.y * q.y + p.x * q.x := (div_iff (dm hp hq)).1 rfl
theorem pt_eq {p q : Pt} (hx : p.x = q.x) (hy : p.y = q.y) : p = q := by cases p; cases q; simp_all
theorem add_comm (p q : Pt) : add p q = add q p := by
  have e1 : p.x * q.y + p.y * q.x = q.x * p.y + q.y * p.x := by grind -lia
  have e2 : p.y * q.y + p.x * q.x = q.y * p.y + q.x * p.x := by grind -lia
  have e3 : dd * p.x * q.x * p.y * q.y = dd * q.x * p.x * q.y * p.y := by grind -lia
  unfold add
  rw [e1, e2, e3]
theorem poly_on1 (x1 y1 x2 y2 d : F) (h1 : y1 * y1 - x1 * x1 = 1 + d * x1 * x1 * y1 * y1) (h2 : y2 * y2 - x2 * x2 = 1 + d * x2 * x2 * y2 * y2) :
    (y1 * y2 + x1 * x2) * (y1 * y2 + x1 * x2) * ((1 + d * x1 * x2 * y1 * y2) * (1 + d * x1 * x2 * y1 * y2)) - (x1 * y2 + y1 * x2) * (x1 * y2 + y1 * x2) * ((1 - d * x1 * x2 * y1 * y2) * (1 - d * x1 * x2 * y1 * y2)) = (1 + d * x1 * x2 * y1 * y2) * (1 + d * x1 * x2 * y1 * y2) * ((1 - d * x1 * x2 * y1 * y2) * (1 - d * x1 * x2 * y1 * y2)) + d * ((x1 * y2 + y1 * x2) * (x1 * y2 + y1 * x2)) * ((y1 * y2 + x1 * x2) * (y1 * y2 + x1 * x2)) := by grind -lia
theorem poly_on2 (X Y U V N M d : F) (h1 : X * U = N) (h2 : Y * V = M) (h : M * M * (U * U) - N * N * (V * V) = U * U * (V * V) + d * (N * N) * (M * M)) :
    (U * U * (V * V)) * (Y * Y - X * X) = (U * U * (V * V)) * (1 + d * X * X * Y * Y) := by grind -lia
theorem add_on {p q : Pt} (hp : p.On) (hq : q.On) : (add p q).On := by
  have h1 := add_x hp hq
  have h2 := add_y hp hq
  have hU := dp hp hq
  have hV := dm hp hq
  exact cancel (mul_ne (mul_ne hU hU) (mul_ne hV hV)) (poly_on2 _ _ _ _ _ _ _ h1 h2 (poly_on1 p.x p.y q.x q.y dd hp hq))
def zero : Pt := ⟨0, 1⟩
theorem zero_on : zero.On := by show on 0 1; unfold on; grind -lia
def neg (p : Pt) : Pt := ⟨-p.x, p.y⟩
theorem neg_on {p : Pt} (hp : p.On) : (neg p).On := by
  have h := hp.eq
  show on (-p.x) p.y
  unfold on
  grind -lia
theorem add_zero {p : Pt} (hp : p.On) : add p zero = p := by
  have h1 := add_x hp zero_on
  have h2 := add_y hp zero_on
  have ex : zero.x = 0 := rfl
  have ey : zero.y = 1 := rfl
  rw [ex, ey] at h1 h2
  exact pt_eq (by grind -lia) (by grind -lia)
theorem zero_add {p : Pt} (hp : p.On) : add zero p = p := by rw [add_comm]; exact add_zero hp
theorem neg_add {p : Pt} (hp : p.On) : add (neg p) p = zero := by
  have h := hp.eq
  have h1 := add_x (neg_on hp) hp
  have h2 := add_y (neg_on hp) hp
  have hU := dp (neg_on hp) hp
  have hV := dm (neg_on hp) hp
  have ex : (neg p).x = -p.x := rfl
  have ey : (neg p).y = p.y := rfl
  rw [ex, ey] at h1 h2 hU hV
  refine pt_eq ?_ ?_
  · show (add (neg p) p).x = 0
    exact cancel hU (by grind -lia)
  · show (add (neg p) p).y = 1
    exact cancel hV (by grind -lia)
theorem assx (x1 y1 x2 y2 x3 y3 d : F) (h1 : y1 * y1 - x1 * x1 = 1 + d * x1 * x1 * y1 * y1) (h2 : y2 * y2 - x2 * x2 = 1 + d * x2 * x2 * y2 * y2) (h3 : y3 * y3 - x3 * x3 = 1 + d * x3 * x3 * y3 * y3) :
   ((x1*y2+y1*x2)*(1-d*x1*x2*y1*y2)*y3 + (y1*y2+x1*x2)*(1+d*x1*x2*y1*y2)*x3) * ((1+d*x2*x3*y2*y3)*(1-d*x2*x3*y2*y3) + d*(x2*y3+y2*x3)*(y2*y3+x2*x3)*x1*y1)
   = (x1*(y2*y3+x2*x3)*(1+d*x2*x3*y2*y3) + y1*(x2*y3+y2*x3)*(1-d*x2*x3*y2*y3)) * ((1+d*x1*x2*y1*y2)*(1-d*x1*x2*y1*y2) + d*(x1*y2+y1*x2)*(y1*y2+x1*x2)*x3*y3) := by grind -lia
theorem assy (x1 y1 x2 y2 x3 y3 d : F) (h1 : y1 * y1 - x1 * x1 = 1 + d * x1 * x1 * y1 * y1) (h2 : y2 * y2 - x2 * x2 = 1 + d * x2 * x2 * y2 * y2) (h3 : y3 * y3 - x3 * x3 = 1 + d * x3 * x3 * y3 * y3) :
   ((y1*y2+x1*x2)*(1+d*x1*x2*y1*y2)*y3 + (x1*y2+y1*x2)*(1-d*x1*x2*y1*y2)*x3) * ((1+d*x2*x3*y2*y3)*(1-d*x2*x3*y2*y3) - d*(x2*y3+y2*x3)*(y2*y3+x2*x3)*x1*y1)
   = (y1*(y2*y3+x2*x3)*(1+d*x2*x3*y2*y3) + x1*(x2*y3+y2*x3)*(1-d*x2*x3*y2*y3)) * ((1+d*x1*x2*y1*y2)*(1-d*x1*x2*y1*y2) - d*(x1*y2+y1*x2)*(y1*y2+x1*x2)*x3*y3) := by grind -lia
/-- A sum of a sum, with one denominator. -/
theorem mid_x (ax ay N M U V x3 y3 d X : F) (h1 : ax * U = N) (h2 : ay * V = M) (h : X * (1 + d * ax * x3 * ay * y3) = ax * y3 + ay * x3) : X * (U * V + d * N * M * x3 * y3) = N * V * y3 + M * U * x3 := by grind -lia
theorem mid_y (ax ay N M U V x3 y3 d Y : F) (h1 : ax * U = N) (h2 : ay * V = M) (h : Y * (1 - d * ax * x3 * ay * y3) = ay * y3 + ax * x3) : Y * (U * V - d * N * M * x3 * y3) = M * U * y3 + N * V * x3 := by grind -lia
theorem den_x (ax ay N M U V x3 y3 d : F) (h1 : ax * U = N) (h2 : ay * V = M) : U * V + d * N * M * x3 * y3 = U * V * (1 + d * ax * x3 * ay * y3) := by grind -lia
theorem den_y (ax ay N M U V x3 y3 d : F) (h1 : ax * U = N) (h2 : ay * V = M) : U * V - d * N * M * x3 * y3 = U * V * (1 - d * ax * x3 * ay * y3) := by grind -lia
theorem quot {X Y N M D E : F} (hD : D ≠ 0) (hE : E ≠ 0) (h1 : X * D = N) (h2 : Y * E = M) (h : N * E = M * D) : X = Y :=
  cancel (mul_ne hD hE) (by grind -lia)
theorem swap_x (X a b x y d : F) (v : X * (1 + d * x * a * y * b) = x * b + y * a) : X * (1 + d * a * x * b * y) = a * y + b * x := by grind -lia
theorem swap_y (Y a b x y d : F) (v : Y * (1 - d * x * a * y * b) = y * b + x * a) : Y * (1 - d * a * x * b * y) = b * y + a * x := by grind -lia
theorem re_x (x y N M U V : F) : x * M * U + y * N * V = N * V * y + M * U * x := by grind -lia
theorem re_y (x y N M U V : F) : y * M * U + x * N * V = M * U * y + N * V * x := by grind -lia
theorem add_assoc {p q r : Pt} (hp : p.On) (hq : q.On) (hr : r.On) : add (add p q) r = add p (add q r) := by
  have hA := add_on hp hq
  have hB := add_on hq hr
  have a1 := add_x hp hq
  have a2 := add_y hp hq
  have b1 := add_x hq hr
  have b2 := add_y hq hr
  have nU := dp hp hq
  have nV := dm hp hq
  have nS := dp hq hr
  have nT := dm hq hr
  refine pt_eq ?_ ?_
  · have u := mid_x _ _ _ _ _ _ r.x r.y dd _ a1 a2 (add_x hA hr)
    have v := add_x hp hB
    have v' : (add p (add q r)).x * (1 + dd * (add q r).x * p.x * (add q r).y * p.y) = (add q r).x * p.y + (add q r).y * p.x := swap_x _ _ _ _ _ _ v
    have v2 := mid_x _ _ _ _ _ _ p.x p.y dd _ b1 b2 v'
    have dU := den_x _ _ _ _ _ _ r.x r.y dd a1 a2
    have dV := den_x _ _ _ _ _ _ p.x p.y dd b1 b2
    have hD : (1 + dd * p.x * q.x * p.y * q.y) * (1 - dd * p.x * q.x * p.y * q.y) + dd * (p.x * q.y + p.y * q.x) * (p.y * q.y + p.x * q.x) * r.x * r.y ≠ 0 := by
      rw [dU]; exact mul_ne (mul_ne nU nV) (dp hA hr)
    have hE : (1 + dd * q.x * r.x * q.y * r.y) * (1 - dd * q.x * r.x * q.y * r.y) + dd * (q.x * r.y + q.y * r.x) * (q.y * r.y + q.x * r.x) * p.x * p.y ≠ 0 := by
      rw [dV]; exact mul_ne (mul_ne nS nT) (dp hB hp)
    refine quot hD hE u v2 ?_
    have h := assx p.x p.y q.x q.y r.x r.y dd hp hq hr
    rw [h, re_x]
  · have u := mid_y _ _ _ _ _ _ r.x r.y dd _ a1 a2 (add_y hA hr)
    have v := add_y hp hB
    have v' : (add p (add q r)).y * (1 - dd * (add q r).x * p.x * (add q r).y * p.y) = (add q r).y * p.y + (add q r).x * p.x := swap_y _ _ _ _ _ _ v
    have v2 := mid_y _ _ _ _ _ _ p.x p.y dd _ b1 b2 v'
    have dU := den_y _ _ _ _ _ _ r.x r.y dd a1 a2
    have dV := den_y _ _ _ _ _ _ p.x p.y dd b1 b2
    have hD : (1 + dd * p.x * q.x * p.y * q.y) * (1 - dd * p.x * q.x * p.y * q.y) - dd * (p.x * q.y + p.y * q.x) * (p.y * q.y + p.x * q.x) * r.x * r.y ≠ 0 := by
      rw [dU]; exact mul_ne (mul_ne nU nV) (dm hA hr)
    have hE : (1 + dd * q.x * r.x * q.y * r.y) * (1 - dd * q.x * r.x * q.y * r.y) - dd * (q.x * r.y + q.y * r.x) * (q.y * r.y + q.x * r.x) * p.x * p.y ≠ 0 := by
      rw [dV]; exact mul_ne (mul_ne nS nT) (dm hB hp)
    refine quot hD hE u v2 ?_
    have h := assy p.x p.y q.x q.y r.x r.y dd hp hq hr
    rw [h, re_y]
/-- Multiples. -/
def nm : Nat → Pt → Pt
  | 0, _ => zero
  | n + 1, p => add (nm n p) p
theorem nm_on {p : Pt} (hp : p.On) : ∀ n, (nm n p).On
  | 0 => zero_on
  | n + 1 => add_on (nm_on hp n) hp
theorem nm_add {p : Pt} (hp : p.On) (m : Nat) : ∀ n, nm (m + n) p = add (nm m p) (nm n p)
  | 0 => (add_zero (nm_on hp m)).symm
  | n + 1 => by
    show add (nm (m + n) p) p = add (nm m p) (add (nm n p) p)
    rw [nm_add hp m n, add_assoc (nm_on hp m) (nm_on hp n) hp]
theorem nm_one {p : Pt} (hp : p.On) : nm 1 p = p := zero_add hp
theorem nm_mul {p : Pt} (hp : p.On) (n : Nat) : ∀ m, nm (m * n) p = nm m (nm n p)
  | 0 => by rw [Nat.zero_mul]; rfl
  | m + 1 => by
    rw [Nat.succ_mul, nm_add hp, nm_mul hp n m]
    rfl
theorem nm_comm {p : Pt} (hp : p.On) (m n : Nat) : nm m (nm n p) = nm n (nm m p) := by
  rw [← nm_mul hp, ← nm_mul hp, Nat.mul_comm]
end Ed
end Go.Proofs.YthbkhbfcocbnoaaDoor
