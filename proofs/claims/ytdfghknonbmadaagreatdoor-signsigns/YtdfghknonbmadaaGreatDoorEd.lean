/-
  The field of the numbers modulo 2^255 - 19, and the sums of points of the twisted Edwards curve. Plain arithmetic: no Go in it.
-/
import Derived.Test.YtdfghknonbmadaaGreatDoorNt
namespace Go.Proofs.YtdfghknonbmadaaGreatDoor
namespace Mt
set_option linter.unusedVariables false
set_option maxRecDepth 100000
namespace Ed
abbrev F := Fin 57896044618658097711785492504343953926634992332820282019728792003956564819949
theorem val_mul (a b : F) : (a * b).val = a.val * b.val % 57896044618658097711785492504343953926634992332820282019728792003956564819949 := Fin.val_mul a b
theorem dom {a b : F} (h : a * b = 0) : a = 0 ∨ b = 0 := by
 have h1 : a.val * b.val % 57896044618658097711785492504343953926634992332820282019728792003956564819949 = 0 := by
  rw [← val_mul, h]; rfl
 have z : ∀ c : F, 57896044618658097711785492504343953926634992332820282019728792003956564819949 ∣ c.val → c = 0 := fun c hc => by
  apply Fin.ext
  rcases Nat.eq_zero_or_pos c.val with e | e
  ·exact e
  ·exact absurd (Nat.le_of_dvd e hc) (Nat.not_le_of_lt c.isLt)
 rcases Nt.prP.or (Nat.dvd_of_mod_eq_zero h1) with e | e
 ·exact .inl (z a e)
 ·exact .inr (z b e)
theorem cancel {a b c : F} (ha : a ≠ 0) (h : a * b = a * c) : b = c := by
 have h1 : a * (b - c) = 0 := by grind -lia
 rcases dom h1 with e | e
 ·exact absurd e ha
 ·grind -lia
theorem mul_ne {a b : F} (ha : a ≠ 0) (hb : b ≠ 0) : a * b ≠ 0 := fun h => by
 rcases dom h with e | e
 ·exact ha e
 ·exact hb e
def ivn (a : Nat) : Nat := a ^ (Nt.P - 2) % Nt.P
theorem ivn_lt (a : Nat) : ivn a < 57896044618658097711785492504343953926634992332820282019728792003956564819949 :=
 Nat.lt_of_lt_of_eq (Nat.mod_lt _ (by have := Nt.P_two; omega)) Nt.P_val
theorem ivn_mul {a : Nat} (h : ¬ Nt.P ∣ a) : a * ivn a % Nt.P = 1 := Nt.inv_mul h
theorem ivn_zero_gen {p e z : Nat} (h : z = 0) (he : 0 < e) : z ^ e % p = 0 := by
 subst h; rw [Nat.zero_pow he, Nat.zero_mod]
theorem ivn_zero (z : Nat) (h : z = 0) : ivn z = 0 := ivn_zero_gen h (by have := Nt.P_two; omega)
def inv (a : F) : F := ⟨ivn a.val, ivn_lt _⟩
theorem val_inv (a : F) : (inv a).val = ivn a.val := rfl
theorem ndvd {a : F} (h : a ≠ 0) : ¬ Nt.P ∣ a.val := fun hd => by
 have h0 : 0 < a.val := Nat.pos_of_ne_zero fun e => h (Fin.ext e)
 have h1 := Nat.le_of_dvd h0 hd
 have h2 : a.val < Nt.P := Nat.lt_of_lt_of_eq a.isLt Nt.P_val.symm
 exact absurd h1 (Nat.not_le_of_lt h2)
theorem mul_inv {a : F} (h : a ≠ 0) : a * inv a = 1 := by
 apply Fin.ext
 have e := ivn_mul (ndvd h)
 rw [val_mul, val_inv]
 generalize ivn a.val = z at *
 generalize a.val = y at *
 rw [Nt.P_val] at e
 exact e
theorem inv_zero : inv 0 = 0 := by
 apply Fin.ext
 have h : ∀ a : F, a.val = 0 → (inv a).val = 0 := fun a h => by rw [val_inv]; exact ivn_zero _ h
 exact h 0 rfl
theorem one_ne : (1 : F) ≠ 0 := by decide
theorem two_ne : (2 : F) ≠ 0 := by decide
theorem inv_mul (a b : F) : inv (a * b) = inv a * inv b := by
 by_cases ha : a = 0
 ·subst ha; rw [show (0 : F) * b = 0 from by grind -lia, inv_zero]; grind -lia
 ·by_cases hb : b = 0
  ·subst hb; rw [show a * (0 : F) = 0 from by grind -lia, inv_zero]; grind -lia
  ·have h1 := mul_inv ha
   have h2 := mul_inv hb
   have h3 := mul_inv (mul_ne ha hb)
   exact cancel (mul_ne ha hb) (by grind -lia)
theorem div_iff {a b x : F} (h : b ≠ 0) : x = a * inv b ↔ x * b = a := by
 have h1 := mul_inv h
 constructor
 ·intro e; subst e; grind -lia
 ·intro e; subst e; grind -lia
def dd : F := 37095705934669439343138083508754565189542113879843219016388785533085940283555
def ii : F := 19681161376707505956807079304988542015446066515923890162744021073123829784752
theorem ii_sq : ii * ii = -1 := by decide +kernel
theorem nsq_pm : Nt.pm 57896044618658097711785492504343953926634992332820282019728792003956564819949 256 20800338683988658368647408995589388737092878452977063003340006470870624536394 28948022309329048855892746252171976963317496166410141009864396001978282409974 = 57896044618658097711785492504343953926634992332820282019728792003956564819948 := by decide +kernel
theorem nsq {r s : F} (h : -dd * (s * s) = r * r) : s = 0 := by
 apply Classical.byContradiction
 intro hs
 have h1 := mul_inv hs
 have h2 : (r * inv s) * (r * inv s) = -dd := by grind -lia
 have h3 : (r * inv s).val * (r * inv s).val % Nt.P = 20800338683988658368647408995589388737092878452977063003340006470870624536394 % Nt.P := by
  rw [Nt.P_val, ← val_mul, h2]; decide +kernel
 have h4 := Nt.chi_of_root (a := 20800338683988658368647408995589388737092878452977063003340006470870624536394) (by rw [Nt.P_val]; decide +kernel) h3
 have h5 := Nt.pm_eq 57896044618658097711785492504343953926634992332820282019728792003956564819949 256 20800338683988658368647408995589388737092878452977063003340006470870624536394 28948022309329048855892746252171976963317496166410141009864396001978282409974 (by decide +kernel)
 rw [nsq_pm] at h5
 rw [Nt.P_val, show 4 * Nt.K + 2 = 28948022309329048855892746252171976963317496166410141009864396001978282409974 from by rw [Nt.K_val], ← h5] at h4
 exact absurd h4 (by decide)
def on (x y : F) : Prop := y * y - x * x = 1 + dd * x * x * y * y
theorem poly_plus (x1 y1 x2 y2 d i e : F) (hi : i * i = -1) (h1 : y1 * y1 - x1 * x1 = 1 + d * x1 * x1 * y1 * y1) (h2 : y2 * y2 - x2 * x2 = 1 + d * x2 * x2 * y2 * y2) (he : e = d * x1 * x2 * y1 * y2) (h : e * e = 1) :
  -d * ((i * x1 * y1 * (i * x2 + y2)) * (i * x1 * y1 * (i * x2 + y2))) = (i * x1 + e * y1) * (i * x1 + e * y1) := by grind -lia
theorem poly_minus (x1 y1 x2 y2 d i e : F) (hi : i * i = -1) (h1 : y1 * y1 - x1 * x1 = 1 + d * x1 * x1 * y1 * y1) (h2 : y2 * y2 - x2 * x2 = 1 + d * x2 * x2 * y2 * y2) (he : e = d * x1 * x2 * y1 * y2) (h : e * e = 1) :
  -d * ((i * x1 * y1 * (i * x2 - y2)) * (i * x1 * y1 * (i * x2 - y2))) = (i * x1 - e * y1) * (i * x1 - e * y1) := by grind -lia
theorem full {x1 y1 x2 y2 : F} (h1 : on x1 y1) (h2 : on x2 y2) : dd * x1 * x2 * y1 * y2 * (dd * x1 * x2 * y1 * y2) ≠ 1 := fun he => by
 have ha := nsq (poly_plus x1 y1 x2 y2 dd ii _ ii_sq h1 h2 rfl he)
 have hb := nsq (poly_minus x1 y1 x2 y2 dd ii _ ii_sq h1 h2 rfl he)
 have hi := ii_sq
 have h0 : x2 * x1 * y1 * 2 = 0 := by grind -lia
 have h3 : dd * x1 * x2 * y1 * y2 * (dd * x1 * x2 * y1 * y2) * 2 = 0 := by grind -lia
 rw [he] at h3
 exact absurd h3 (by decide)
theorem dp {x1 y1 x2 y2 : F} (h1 : on x1 y1) (h2 : on x2 y2) : 1 + dd * x1 * x2 * y1 * y2 ≠ 0 := fun e => full h1 h2 (by grind -lia)
theorem dm {x1 y1 x2 y2 : F} (h1 : on x1 y1) (h2 : on x2 y2) : 1 - dd * x1 * x2 * y1 * y2 ≠ 0 := fun e => full h1 h2 (by grind -lia)
end Ed
end Mt
end Go.Proofs.YtdfghknonbmadaaGreatDoor
namespace Go.Proofs.YtdfghknonbmadaaGreatDoor
namespace Mt
set_option linter.unusedVariables false
set_option maxRecDepth 100000
namespace Ed
structure Pt where
 x : F
 y : F
def Pt.On (p : Pt) : Prop := on p.x p.y
theorem Pt.On.eq {p : Pt} (h : p.On) : p.y * p.y - p.x * p.x = 1 + dd * p.x * p.x * p.y * p.y := h
def add (p q : Pt) : Pt := ⟨(p.x * q.y + p.y * q.x) * inv (1 + dd * p.x * q.x * p.y * q.y), (p.y * q.y + p.x * q.x) * inv (1 - dd * p.x * q.x * p.y * q.y)⟩
theorem add_x {p q : Pt} (hp : p.On) (hq : q.On) : (add p q).x * (1 + dd * p.x * q.x * p.y * q.y) = p.x * q.y + p.y * q.x := (div_iff (dp hp hq)).1 rfl
theorem add_y {p q : Pt} (hp : p.On) (hq : q.On) : (add p q).y * (1 - dd * p.x * q.x * p.y * q.y) = p.y * q.y + p.x * q.x := (div_iff (dm hp hq)).1 rfl
theorem pt_eq {p q : Pt} (hx : p.x = q.x) (hy : p.y = q.y) : p = q := by cases p; cases q; simp_all
theorem add_comm (p q : Pt) : add p q = add q p := by
 have e1 : p.x * q.y + p.y * q.x = q.x * p.y + q.y * p.x := by grind -lia
 have e2 : p.y * q.y + p.x * q.x = q.y * p.y + q.x * p.x := by grind -lia
 have e3 : dd * p.x * q.x * p.y * q.y = dd * q.x * p.x * q.y * p.y := by grind -lia
 unfold add
 rw [e1, e2, e3]
theorem poly_on1 (x1 y1 x2 y2 d : F) (h1 : y1 * y1 - x1 * x1 = 1 + d * x1 * x1 * y1 * y1) (h2 : y2 * y2 - x2 * x2 = 1 + d * x2 * x2 * y2 * y2) :
  (y1 * y2 + x1 * x2) * (y1 * y2 + x1 * x2) * ((1 + d * x1 * x2 * y1 * y2) * (1 + d * x1 * x2 * y1 * y2)) - (x1 * y2 + y1 * x2) * (x1 * y2 + y1 * x2) * ((1 - d * x1 * x2 * y1 * y2) * (1 - d * x1 * x2 * y1 * y2)) = (1 + d * x1 * x2 * y1 * y2) * (1 + d * x1 * x2 * y1 * y2) * ((1 - d * x1 * x2 * y1 * y2) * (1 - d * x1 * x2 * y1 * y2)) + d * ((x1 * y2 + y1 * x2) * (x1 * y2 + y1 * x2)) * ((y1 * y2 + x1 * x2) * (y1 * y2 + x1 * x2)) := by grind -lia
theorem poly_on2 (X Y U V N M d : F) (h1 : X * U = N) (h2 : Y * V = M) (h : M * M * (U * U) - N * N * (V * V) = U * U * (V * V) + d * (N * N) * (M * M)) :
  (U * U * (V * V)) * (Y * Y - X * X) = (U * U * (V * V)) * (1 + d * X * X * Y * Y) := by grind -lia
theorem add_on {p q : Pt} (hp : p.On) (hq : q.On) : (add p q).On := by
 have h1 := add_x hp hq
 have h2 := add_y hp hq
 have hU := dp hp hq
 have hV := dm hp hq
 exact cancel (mul_ne (mul_ne hU hU) (mul_ne hV hV)) (poly_on2 _ _ _ _ _ _ _ h1 h2 (poly_on1 p.x p.y q.x q.y dd hp hq))
def zero : Pt := ⟨0, 1⟩
theorem zero_on : zero.On := by show on 0 1; unfold on; grind -lia
def neg (p : Pt) : Pt := ⟨-p.x, p.y⟩
theorem neg_on {p : Pt} (hp : p.On) : (neg p).On := by
 have h := hp.eq
 show on (-p.x) p.y
 unfold on
 grind -lia
theorem add_zero {p : Pt} (hp : p.On) : add p zero = p := by
 have h1 := add_x hp zero_on
 have h2 := add_y hp zero_on
 have ex : zero.x = 0 := rfl
 have ey : zero.y = 1 := rfl
 rw [ex, ey] at h1 h2
 exact pt_eq (by grind -lia) (by grind -lia)
theorem zero_add {p : Pt} (hp : p.On) : add zero p = p := by rw [add_comm]; exact add_zero hp
theorem neg_add {p : Pt} (hp : p.On) : add (neg p) p = zero := by
 have h := hp.eq
 have h1 := add_x (neg_on hp) hp
 have h2 := add_y (neg_on hp) hp
 have hU := dp (neg_on hp) hp
 have hV := dm (neg_on hp) hp
 have ex : (neg p).x = -p.x := rfl
 have ey : (neg p).y = p.y := rfl
 rw [ex, ey] at h1 h2 hU hV
 refine pt_eq ?_ ?_
 ·show (add (neg p) p).x = 0
  exact cancel hU (by grind -lia)
 ·show (add (neg p) p).y = 1
  exact cancel hV (by grind -lia)
theorem assx (x1 y1 x2 y2 x3 y3 d : F) (h1 : y1 * y1 - x1 * x1 = 1 + d * x1 * x1 * y1 * y1) (h2 : y2 * y2 - x2 * x2 = 1 + d * x2 * x2 * y2 * y2) (h3 : y3 * y3 - x3 * x3 = 1 + d * x3 * x3 * y3 * y3) :
  ((x1*y2+y1*x2)*(1-d*x1*x2*y1*y2)*y3 + (y1*y2+x1*x2)*(1+d*x1*x2*y1*y2)*x3) * ((1+d*x2*x3*y2*y3)*(1-d*x2*x3*y2*y3) + d*(x2*y3+y2*x3)*(y2*y3+x2*x3)*x1*y1)
  = (x1*(y2*y3+x2*x3)*(1+d*x2*x3*y2*y3) + y1*(x2*y3+y2*x3)*(1-d*x2*x3*y2*y3)) * ((1+d*x1*x2*y1*y2)*(1-d*x1*x2*y1*y2) + d*(x1*y2+y1*x2)*(y1*y2+x1*x2)*x3*y3) := by grind -lia
theorem assy (x1 y1 x2 y2 x3 y3 d : F) (h1 : y1 * y1 - x1 * x1 = 1 + d * x1 * x1 * y1 * y1) (h2 : y2 * y2 - x2 * x2 = 1 + d * x2 * x2 * y2 * y2) (h3 : y3 * y3 - x3 * x3 = 1 + d * x3 * x3 * y3 * y3) :
  ((y1*y2+x1*x2)*(1+d*x1*x2*y1*y2)*y3 + (x1*y2+y1*x2)*(1-d*x1*x2*y1*y2)*x3) * ((1+d*x2*x3*y2*y3)*(1-d*x2*x3*y2*y3) - d*(x2*y3+y2*x3)*(y2*y3+x2*x3)*x1*y1)
  = (y1*(y2*y3+x2*x3)*(1+d*x2*x3*y2*y3) + x1*(x2*y3+y2*x3)*(1-d*x2*x3*y2*y3)) * ((1+d*x1*x2*y1*y2)*(1-d*x1*x2*y1*y2) - d*(x1*y2+y1*x2)*(y1*y2+x1*x2)*x3*y3) := by grind -lia
theorem mid_x (ax ay N M U V x3 y3 d X : F) (h1 : ax * U = N) (h2 : ay * V = M) (h : X * (1 + d * ax * x3 * ay * y3) = ax * y3 + ay * x3) : X * (U * V + d * N * M * x3 * y3) = N * V * y3 + M * U * x3 := by grind -lia
theorem mid_y (ax ay N M U V x3 y3 d Y : F) (h1 : ax * U = N) (h2 : ay * V = M) (h : Y * (1 - d * ax * x3 * ay * y3) = ay * y3 + ax * x3) : Y * (U * V - d * N * M * x3 * y3) = M * U * y3 + N * V * x3 := by grind -lia
theorem den_x (ax ay N M U V x3 y3 d : F) (h1 : ax * U = N) (h2 : ay * V = M) : U * V + d * N * M * x3 * y3 = U * V * (1 + d * ax * x3 * ay * y3) := by grind -lia
theorem den_y (ax ay N M U V x3 y3 d : F) (h1 : ax * U = N) (h2 : ay * V = M) : U * V - d * N * M * x3 * y3 = U * V * (1 - d * ax * x3 * ay * y3) := by grind -lia
theorem quot {X Y N M D E : F} (hD : D ≠ 0) (hE : E ≠ 0) (h1 : X * D = N) (h2 : Y * E = M) (h : N * E = M * D) : X = Y :=
 cancel (mul_ne hD hE) (by grind -lia)
theorem swap_x (X a b x y d : F) (v : X * (1 + d * x * a * y * b) = x * b + y * a) : X * (1 + d * a * x * b * y) = a * y + b * x := by grind -lia
theorem swap_y (Y a b x y d : F) (v : Y * (1 - d * x * a * y * b) = y * b + x * a) : Y * (1 - d * a * x * b * y) = b * y + a * x := by grind -lia
theorem re_x (x y N M U V : F) : x * M * U + y * N * V = N * V * y + M * U * x := by grind -lia
theorem re_y (x y N M U V : F) : y * M * U + x * N * V = M * U * y + N * V * x := by grind -lia
theorem add_assoc {p q r : Pt} (hp : p.On) (hq : q.On) (hr : r.On) : add (add p q) r = add p (add q r) := by
 have hA := add_on hp hq
 have hB := add_on hq hr
 have a1 := add_x hp hq
 have a2 := add_y hp hq
 have b1 := add_x hq hr
 have b2 := add_y hq hr
 have nU := dp hp hq
 have nV := dm hp hq
 have nS := dp hq hr
 have nT := dm hq hr
 refine pt_eq ?_ ?_
 ·have u := mid_x _ _ _ _ _ _ r.x r.y dd _ a1 a2 (add_x hA hr)
  have v := add_x hp hB
  have v' : (add p (add q r)).x * (1 + dd * (add q r).x * p.x * (add q r).y * p.y) = (add q r).x * p.y + (add q r).y * p.x := swap_x _ _ _ _ _ _ v
  have v2 := mid_x _ _ _ _ _ _ p.x p.y dd _ b1 b2 v'
  have dU := den_x _ _ _ _ _ _ r.x r.y dd a1 a2
  have dV := den_x _ _ _ _ _ _ p.x p.y dd b1 b2
  have hD : (1 + dd * p.x * q.x * p.y * q.y) * (1 - dd * p.x * q.x * p.y * q.y) + dd * (p.x * q.y + p.y * q.x) * (p.y * q.y + p.x * q.x) * r.x * r.y ≠ 0 := by
   rw [dU]; exact mul_ne (mul_ne nU nV) (dp hA hr)
  have hE : (1 + dd * q.x * r.x * q.y * r.y) * (1 - dd * q.x * r.x * q.y * r.y) + dd * (q.x * r.y + q.y * r.x) * (q.y * r.y + q.x * r.x) * p.x * p.y ≠ 0 := by
   rw [dV]; exact mul_ne (mul_ne nS nT) (dp hB hp)
  refine quot hD hE u v2 ?_
  have h := assx p.x p.y q.x q.y r.x r.y dd hp hq hr
  rw [h, re_x]
 ·have u := mid_y _ _ _ _ _ _ r.x r.y dd _ a1 a2 (add_y hA hr)
  have v := add_y hp hB
  have v' : (add p (add q r)).y * (1 - dd * (add q r).x * p.x * (add q r).y * p.y) = (add q r).y * p.y + (add q r).x * p.x := swap_y _ _ _ _ _ _ v
  have v2 := mid_y _ _ _ _ _ _ p.x p.y dd _ b1 b2 v'
  have dU := den_y _ _ _ _ _ _ r.x r.y dd a1 a2
  have dV := den_y _ _ _ _ _ _ p.x p.y dd b1 b2
  have hD : (1 + dd * p.x * q.x * p.y * q.y) * (1 - dd * p.x * q.x * p.y * q.y) - dd * (p.x * q.y + p.y * q.x) * (p.y * q.y + p.x * q.x) * r.x * r.y ≠ 0 := by
   rw [dU]; exact mul_ne (mul_ne nU nV) (dm hA hr)
  have hE : (1 + dd * q.x * r.x * q.y * r.y) * (1 - dd * q.x * r.x * q.y * r.y) - dd * (q.x * r.y + q.y * r.x) * (q.y * r.y + q.x * r.x) * p.x * p.y ≠ 0 := by
   rw [dV]; exact mul_ne (mul_ne nS nT) (dm hB hp)
  refine quot hD hE u v2 ?_
  have h := assy p.x p.y q.x q.y r.x r.y dd hp hq hr
  rw [h, re_y]
def nm : Nat → Pt → Pt
 | 0, _ => zero
 | n + 1, p => add (nm n p) p
theorem nm_on {p : Pt} (hp : p.On) : ∀ n, (nm n p).On
 | 0 => zero_on
 | n + 1 => add_on (nm_on hp n) hp
theorem nm_add {p : Pt} (hp : p.On) (m : Nat) : ∀ n, nm (m + n) p = add (nm m p) (nm n p)
 | 0 => (add_zero (nm_on hp m)).symm
 | n + 1 => by
  show add (nm (m + n) p) p = add (nm m p) (add (nm n p) p)
  rw [nm_add hp m n, add_assoc (nm_on hp m) (nm_on hp n) hp]
theorem nm_one {p : Pt} (hp : p.On) : nm 1 p = p := zero_add hp
theorem nm_mul {p : Pt} (hp : p.On) (n : Nat) : ∀ m, nm (m * n) p = nm m (nm n p)
 | 0 => by rw [Nat.zero_mul]; rfl
 | m + 1 => by
  rw [Nat.succ_mul, nm_add hp, nm_mul hp n m]
  rfl
end Ed
end Mt
end Go.Proofs.YtdfghknonbmadaaGreatDoor
namespace Go.Proofs.YtdfghknonbmadaaGreatDoor
namespace Mt
set_option linter.unusedVariables false
set_option linter.unusedSimpArgs false
set_option maxRecDepth 1000000
theorem P_pos : 0 < Nt.P := by have := Nt.P_two; omega
theorem lt4 {a : Nat} (h : a < Nt.P) : a < 115792089237316195423570985008687907853269984665640564039457584007913129639936 := by rw [Nt.P_val] at h; omega
def sq (a : Nat) : Nat → Nat
 | 0 => a
 | i + 1 => sq a i * sq a i % Nt.P
theorem sq_mod (a : Nat) : ∀ i, sq a i % Nt.P = a ^ 2 ^ i % Nt.P
 | 0 => by rw [Nat.pow_zero, Nat.pow_one]; rfl
 | i + 1 => by
  have e : sq a (i + 1) = sq a i * sq a i % Nt.P := rfl
  rw [e, Nat.mod_mod, ← Nt.mm, sq_mod a i, Nt.mm, ← Nat.pow_add, Nat.pow_succ, Nat.mul_two]
def ex (i : Nat) : Nat := if h : i = 0 then 0 else 2 * ex (i - 1) + 1
theorem ex_def (i : Nat) : ex i = 2 ^ i - 1 := by
 induction i with
 | zero => rw [ex]; rfl
 | succ i ih =>
  rw [ex, dif_neg (by omega), show i + 1 - 1 = i from rfl, ih, Nat.pow_succ]
  have := Nat.two_pow_pos i
  omega
def pw (a i : Nat) : Nat := a ^ ex i % Nt.P
theorem pw_one {a : Nat} (ha : a < Nt.P) : pw a 1 = a := by
 unfold pw
 rw [ex_def, show 2 ^ 1 - 1 = 1 from rfl, Nat.pow_one, Nat.mod_eq_of_lt ha]
theorem pow_pos2 (n : Nat) : 0 < 2 ^ n := Nat.two_pow_pos n
theorem join_pw (a i n : Nat) : sq (pw a i) n * pw a n % Nt.P = pw a (i + n) := by
 rw [← Nt.mm, sq_mod]
 unfold pw
 rw [← Nat.pow_mod, Nat.mod_mod, Nt.mm, ← Nat.pow_mul, ← Nat.pow_add]
 congr 2
 rw [ex_def, ex_def, ex_def]
 have h1 := pow_pos2 i
 have h2 := pow_pos2 n
 rw [Nat.sub_mul, Nat.one_mul, Nat.pow_add]
 have h3 : 2 ^ n ≤ 2 ^ i * 2 ^ n := Nat.le_mul_of_pos_left _ h1
 omega
def pb (a r : Nat) (b : Bool) : Nat := (r * r % Nt.P) * (bif b then a else 1) % Nt.P
def pws (a : Nat) (bs : List Bool) : Nat := bs.foldl (pb a) (pw a 250)
theorem pb_pow (a e : Nat) (b : Bool) : pb a (a ^ e % Nt.P) b = a ^ (2 * e + (bif b then 1 else 0)) % Nt.P := by
 unfold pb
 rw [Nt.mm, Nt.mml, ← Nat.pow_add, Nat.two_mul]
 cases b
 ·simp only [cond_false, Nat.mul_one, Nat.add_zero]
 ·simp only [cond_true]; rw [← Nat.pow_succ]
theorem inv_pows (a x : Nat) : [false, true, false, true, true].foldl (pb a) (a ^ x % Nt.P) = a ^ (2 * (2 * (2 * (2 * (2 * x + 0) + 1) + 0) + 1) + 1) % Nt.P := by
 simp only [List.foldl, pb_pow, cond_true, cond_false]
theorem root_pows (a x : Nat) : [true, false].foldl (pb a) (a ^ x % Nt.P) = a ^ (2 * (2 * x + 1) + 0) % Nt.P := by
 simp only [List.foldl, pb_pow, cond_true, cond_false]
theorem inv_exp : 2 * (2 * (2 * (2 * (2 * ex 250 + 0) + 1) + 0) + 1) + 1 = Nt.P - 2 := by rw [Nt.P_val, ex_def]
theorem root_exp : 2 * (2 * ex 250 + 1) + 0 = Nt.K + 1 := by rw [Nt.K_val, ex_def]
theorem inv_pws (a : Nat) : pws a [false, true, false, true, true] = a ^ (Nt.P - 2) % Nt.P := by
 unfold pws pw
 rw [inv_pows, inv_exp]
theorem root_pws (a : Nat) : pws a [true, false] = Nt.c1 a := by
 unfold pws pw Nt.c1
 rw [root_pows, root_exp]
def iv (a : Nat) : Nat := a ^ (Nt.P - 2) % Nt.P
theorem iv_ltP (a : Nat) : iv a < Nt.P := Nat.mod_lt _ P_pos
theorem c1_ltP (a : Nat) : Nt.c1 a < Nt.P := Nat.mod_lt _ P_pos
def rs (a : Nat) (odd : Bool) : Nat := bif (decide (Nt.rt a % 2 = 1) != odd) then (0 + Nt.P - Nt.rt a) % Nt.P else Nt.rt a
def ok (a : Nat) (odd : Bool) : Bool := decide (rs a odd * rs a odd % Nt.P = a) && !(decide (rs a odd % 2 = 1) != odd)
def ro (a : Nat) (odd : Bool) : Nat := bif ok a odd then rs a odd else 0
theorem I_lt : Nt.I < Nt.P := by rw [Nt.I_val, Nt.P_val]; decide
theorem rt_ltP (a : Nat) : Nt.rt a < Nt.P := by
 unfold Nt.rt
 split
 ·exact c1_ltP a
 ·exact Nat.mod_lt _ P_pos
theorem cond_ltP {p x y : Nat} (b : Bool) (hx : x < p) (hy : y < p) : (bif b then x else y) < p := by cases b <;> assumption
theorem cond_ite {q : Prop} [Decidable q] (x y : Nat) : (bif decide q then x else y) = if q then x else y := by by_cases h : q <;> simp [h]
theorem rs_ltP (a : Nat) (odd : Bool) : rs a odd < Nt.P := cond_ltP _ (Nat.mod_lt _ P_pos) (rt_ltP a)
theorem ro_ltP (a : Nat) (odd : Bool) : ro a odd < Nt.P := cond_ltP _ (rs_ltP a odd) P_pos
theorem rt_of {a c p i r : Nat} (h1 : Nt.c1 a = c) (h2 : Nt.P = p) (h3 : Nt.I = i) (h : (if c * c % p = a then c else c * i % p) = r) : Nt.rt a = r := by
 unfold Nt.rt
 rw [h1, h2, h3]; exact h
theorem inv_mul {a : Nat} (h0 : 0 < a) (ha : a < Nt.P) : a * iv a % Nt.P = 1 := Nt.inv_mul (Nt.not_dvd h0 ha)
theorem neg_sq {p r : Nat} (hr : r < p) : (0 + p - r) % p * ((0 + p - r) % p) % p = r * r % p := by
 by_cases h : r = 0
 ·subst h; simp
 ·have e1 : (0 + p - r) % p = p - r := by rw [Nat.zero_add]; exact Nat.mod_eq_of_lt (by omega)
  rw [e1]
  obtain ⟨q, rfl⟩ : ∃ q, p = r + q := ⟨p - r, by omega⟩
  have e2 : r + q - r = q := by omega
  rw [e2]
  have e3 : q * q + (r + q) * r = r * r + (r + q) * q := by rw [Nat.add_mul, Nat.add_mul, Nat.mul_comm q r]; omega
  have e4 : (q * q + (r + q) * r) % (r + q) = (r * r + (r + q) * q) % (r + q) := by rw [e3]
  rwa [Nat.add_mul_mod_self_left, Nat.add_mul_mod_self_left] at e4
theorem cond_sq {p n r : Nat} (b : Bool) (h : n * n % p = r * r % p) : (bif b then n else r) * (bif b then n else r) % p = r * r % p := by
 cases b
 ·rfl
 ·exact h
theorem rs_sq (a : Nat) (odd : Bool) : rs a odd * rs a odd % Nt.P = Nt.rt a * Nt.rt a % Nt.P := cond_sq _ (neg_sq (rt_ltP a))
theorem P_odd : Nt.P % 2 = 1 := by rw [Nt.P_val]
theorem par_gen {p r : Nat} (odd : Bool) (hp : p % 2 = 1) (h0 : 0 < r) (hr : r < p) : decide ((bif (decide (r % 2 = 1) != odd) then (0 + p - r) % p else r) % 2 = 1) = odd := by
 have e1 : (p - r) % p = p - r := Nat.mod_eq_of_lt (by omega)
 by_cases h : r % 2 = 1
 ·cases odd
  ·simp [h, e1]; omega
  ·simp [h]
 ·cases odd
  ·simp [h]
  ·simp [h, e1]; omega
theorem rs_par {a : Nat} (odd : Bool) (h0 : 0 < Nt.rt a) : decide (rs a odd % 2 = 1) = odd := par_gen odd P_odd h0 (rt_ltP a)
theorem rt_pos {a : Nat} (h0 : 0 < a) (h : Nt.has a) : 0 < Nt.rt a := by
 apply Nat.pos_of_ne_zero
 intro e
 have h2 : Nt.rt a * Nt.rt a % Nt.P = a := h
 rw [e, Nat.zero_mul, Nat.zero_mod] at h2
 omega
theorem ok_has {a : Nat} (odd : Bool) (h0 : 0 < a) (h : Nt.has a) : ok a odd = true := by
 have h1 : rs a odd * rs a odd % Nt.P = a := (rs_sq a odd).trans h
 have h2 := rs_par odd (rt_pos h0 h)
 unfold ok
 rw [h2, decide_eq_true h1]
 cases odd <;> rfl
theorem ok_not {a : Nat} (odd : Bool) (h : ¬ Nt.has a) : ok a odd = false := by
 have h1 : ¬ rs a odd * rs a odd % Nt.P = a := fun e => h ((rs_sq a odd).symm.trans e)
 unfold ok
 rw [decide_eq_false h1]; rfl
theorem cond_yes {b : Bool} {x y : Nat} (h : b = true) : (bif b then x else y) = x := by subst h; rfl
theorem cond_no {b : Bool} {x y : Nat} (h : b = false) : (bif b then x else y) = y := by subst h; rfl
theorem ro_yes {a : Nat} {odd : Bool} (h : ok a odd = true) : ro a odd = rs a odd := cond_yes h
theorem ro_no {a : Nat} {odd : Bool} (h : ok a odd = false) : ro a odd = 0 := cond_no h
theorem ite_zero {p i a c : Nat} (hc : c = 0) (h : a = 0) : (if c * c % p = a then c else c * i % p) = 0 := by
 subst hc
 subst h
 simp
theorem rt_zero (a : Nat) (h : a = 0) : Nt.rt a = 0 := rt_of rfl rfl rfl (ite_zero (Nt.c1_zero a h) h)
theorem rs_zero_gen {p r : Nat} (odd : Bool) (h : r = 0) : (bif (decide (r % 2 = 1) != odd) then (0 + p - r) % p else r) = 0 := by
 subst h
 cases odd <;> simp
theorem rs_zero (a : Nat) (odd : Bool) (h : a = 0) : rs a odd = 0 := rs_zero_gen odd (rt_zero a h)
theorem ok_zero_gen {p s a : Nat} {odd : Bool} (h1 : s = 0) (h2 : a = 0) : (decide (s * s % p = a) && !(decide (s % 2 = 1) != odd)) = !odd := by
 subst h1
 subst h2
 cases odd <;> simp
theorem ok_zero (a : Nat) (odd : Bool) (h : a = 0) : ok a odd = !odd := ok_zero_gen (rs_zero a odd h) h
end Mt
end Go.Proofs.YtdfghknonbmadaaGreatDoor
