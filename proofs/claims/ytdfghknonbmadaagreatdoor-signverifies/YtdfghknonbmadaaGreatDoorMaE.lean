/-
  edw: points as numbers, and what their sums are. No statement is proved here.
-/
import Derived.Test.YtdfghknonbmadaaGreatDoorEd
namespace Go.Proofs.YtdfghknonbmadaaGreatDoor
namespace Mt
set_option linter.unusedVariables false
set_option maxRecDepth 1000000
def ad (a b : Nat) : Nat := (a + b) % Nt.P
def sb (a b : Nat) : Nat := (a + Nt.P - b) % Nt.P
def mq (a b : Nat) : Nat := a * b % Nt.P
theorem ad_lt (a b : Nat) : ad a b < Nt.P := Nat.mod_lt _ P_pos
theorem sb_lt (a b : Nat) : sb a b < Nt.P := Nat.mod_lt _ P_pos
theorem ml_lt (a b : Nat) : mq a b < Nt.P := Nat.mod_lt _ P_pos
namespace Ed
def fe (n : Nat) : F := Fin.ofNat _ n
theorem fe_val (n : Nat) : (fe n).val = n % Nt.P := by rw [Nt.P_val]; rfl
theorem fe_inj {a b : Nat} (ha : a < Nt.P) (hb : b < Nt.P) (h : fe a = fe b) : a = b := by
 have := congrArg Fin.val h
 rw [fe_val, fe_val, Nat.mod_eq_of_lt ha, Nat.mod_eq_of_lt hb] at this
 exact this
theorem val_P (a b : F) : (a * b).val = a.val * b.val % Nt.P := by rw [val_mul]; exact congrArg (fun x => a.val * b.val % x) Nt.P_val.symm
theorem fe_mul (a b : Nat) : fe (mq a b) = fe a * fe b := by
 apply Fin.ext
 rw [val_P, fe_val, fe_val, fe_val]
 unfold mq
 rw [Nat.mod_mod, Nat.mul_mod]
theorem add_val (a b : F) : (a + b).val = (a.val + b.val) % Nt.P := by rw [Fin.val_add]; exact congrArg (fun x => (a.val + b.val) % x) Nt.P_val.symm
theorem sub_val (a b : F) : (a - b).val = (Nt.P - b.val + a.val) % Nt.P := by
 have h := Fin.sub_def a b
 rw [h]
 exact (congrArg (fun x => (x - b.val + a.val) % x) Nt.P_val.symm)
theorem fe_add (a b : Nat) : fe (ad a b) = fe a + fe b := by
 apply Fin.ext
 rw [add_val, fe_val, fe_val, fe_val]
 unfold ad
 rw [Nat.mod_mod, Nat.add_mod]
theorem sub_gen (a b p : Nat) (hb : b < p) : (a + p - b) % p % p = (p - b % p + a % p) % p := by
 rw [Nat.mod_mod, Nat.mod_eq_of_lt hb, show a + p - b = (p - b) + a by omega, Nat.add_mod (p - b) a, Nat.add_mod (p - b) (a % p), Nat.mod_mod]
theorem fe_sub (a b : Nat) (hb : b < Nt.P) : fe (sb a b) = fe a - fe b := by
 apply Fin.ext
 rw [sub_val, fe_val, fe_val, fe_val]
 unfold sb
 exact sub_gen a b Nt.P hb
theorem pow_gen (a e p : Nat) : a ^ e % p % p = (a % p) ^ e % p := by rw [Nat.mod_mod, Nat.pow_mod]
theorem fe_iv (a : Nat) : fe (iv a) = inv (fe a) := by
 apply Fin.ext
 rw [val_inv, fe_val, fe_val]
 unfold iv ivn
 exact pow_gen a _ _
theorem fe_1 : fe 1 = 1 := rfl
theorem fe_0 : fe 0 = 0 := rfl
theorem fe_lt {n : Nat} {a : F} (hn : n < Nt.P) (h : fe n = a) : n = a.val := by
 rw [← h, fe_val, Nat.mod_eq_of_lt hn]
theorem val_lt (a : F) : a.val < Nt.P := Nat.lt_of_lt_of_eq a.isLt Nt.P_val.symm
theorem fe_of (a : F) : fe a.val = a := by
 apply Fin.ext
 rw [fe_val, Nat.mod_eq_of_lt (val_lt a)]
end Ed
def dN : Nat := 37095705934669439343138083508754565189542113879843219016388785533085940283555
theorem dN_lt : dN < Nt.P := by rw [Nt.P_val]; decide
theorem fe_dN : Ed.fe dN = Ed.dd := by decide +kernel
theorem one_lt : 1 < Nt.P := by rw [Nt.P_val]; decide
theorem zero_lt : 0 < Nt.P := by rw [Nt.P_val]; decide
structure Pq where
 x : Nat
 y : Nat
 z : Nat
 t : Nat
def rdy (p : Pq) : Pq := ⟨ad p.y p.x, sb p.y p.x, ad p.z p.z, mq (ad p.t p.t) dN⟩
def jn (e f g h : Nat) : Pq := ⟨mq e f, mq g h, mq f g, mq e h⟩
def pls (p q : Pq) : Pq := jn (sb (mq (ad p.y p.x) q.x) (mq (sb p.y p.x) q.y)) (sb (mq p.z q.z) (mq p.t q.t)) (ad (mq p.z q.z) (mq p.t q.t)) (ad (mq (ad p.y p.x) q.x) (mq (sb p.y p.x) q.y))
def dbq (p : Pq) : Pq := jn (sb (ad (mq p.x p.x) (mq p.y p.y)) (mq (ad p.x p.y) (ad p.x p.y))) (ad (ad (mq p.z p.z) (mq p.z p.z)) (sb (mq p.x p.x) (mq p.y p.y))) (sb (mq p.x p.x) (mq p.y p.y)) (ad (mq p.x p.x) (mq p.y p.y))
def atp (x y : Nat) : Pq := ⟨x, y, 1, mq x y⟩
structure Is (q : Pq) (p : Ed.Pt) : Prop where
 lx : q.x < Nt.P
 ly : q.y < Nt.P
 lz : q.z < Nt.P
 lt : q.t < Nt.P
 z : Ed.fe q.z ≠ 0
 x : Ed.fe q.x = p.x * Ed.fe q.z
 y : Ed.fe q.y = p.y * Ed.fe q.z
 t : Ed.fe q.t = p.x * p.y * Ed.fe q.z
 on : p.On
namespace Ed
theorem plus_x (x1 y1 z1 x2 y2 z2 d X Y t1 t2 U V : F) (ht1 : t1 = x1 * y1 * z1) (ht2 : t2 = x2 * y2 * z2) (hU : X * (1 + d * x1 * x2 * y1 * y2) = x1 * y2 + y1 * x2) :
  (((y1 * z1 + x1 * z1) * (y2 * z2 + x2 * z2)) - ((y1 * z1 - x1 * z1) * (y2 * z2 - x2 * z2))) * (z1 * (z2 + z2) - t1 * ((t2 + t2) * d)) = X * ((z1 * (z2 + z2) - t1 * ((t2 + t2) * d)) * (z1 * (z2 + z2) + t1 * ((t2 + t2) * d))) := by subst ht1; subst ht2; grind -lia
theorem plus_y (x1 y1 z1 x2 y2 z2 d X Y t1 t2 U V : F) (ht1 : t1 = x1 * y1 * z1) (ht2 : t2 = x2 * y2 * z2) (hU : Y * (1 - d * x1 * x2 * y1 * y2) = y1 * y2 + x1 * x2) :
  (z1 * (z2 + z2) + t1 * ((t2 + t2) * d)) * (((y1 * z1 + x1 * z1) * (y2 * z2 + x2 * z2)) + ((y1 * z1 - x1 * z1) * (y2 * z2 - x2 * z2))) = Y * ((z1 * (z2 + z2) - t1 * ((t2 + t2) * d)) * (z1 * (z2 + z2) + t1 * ((t2 + t2) * d))) := by subst ht1; subst ht2; grind -lia
theorem join_t {e f g h X Y : F} (hf : f ≠ 0) (hg : g ≠ 0) (hx : e * f = X * (f * g)) (hy : g * h = Y * (f * g)) : e * h = X * Y * (f * g) := by
 have h1 : e = X * g := cancel hf (by grind -lia)
 have h2 : h = Y * f := cancel hg (by grind -lia)
 subst h1; subst h2
 grind -lia
theorem dbl_x (x y z d X : F) (ho : y * y - x * x = 1 + d * x * x * y * y) (hU : X * (1 + d * x * x * y * y) = x * y + y * x) :
  ((x * z * (x * z) + y * z * (y * z)) - (x * z + y * z) * (x * z + y * z)) * ((z * z + z * z) + (x * z * (x * z) - y * z * (y * z))) = X * (((z * z + z * z) + (x * z * (x * z) - y * z * (y * z))) * (x * z * (x * z) - y * z * (y * z))) := by grind -lia
theorem dbl_y (x y z d Y : F) (ho : y * y - x * x = 1 + d * x * x * y * y) (hU : Y * (1 - d * x * x * y * y) = y * y + x * x) :
  (x * z * (x * z) - y * z * (y * z)) * (x * z * (x * z) + y * z * (y * z)) = Y * (((z * z + z * z) + (x * z * (x * z) - y * z * (y * z))) * (x * z * (x * z) - y * z * (y * z))) := by grind -lia
theorem f_ne (x1 y1 z1 x2 y2 z2 d t1 t2 : F) (ht1 : t1 = x1 * y1 * z1) (ht2 : t2 = x2 * y2 * z2) : z1 * (z2 + z2) - t1 * ((t2 + t2) * d) = 2 * (z1 * z2) * (1 - d * x1 * x2 * y1 * y2) := by subst ht1; subst ht2; grind -lia
theorem g_ne (x1 y1 z1 x2 y2 z2 d t1 t2 : F) (ht1 : t1 = x1 * y1 * z1) (ht2 : t2 = x2 * y2 * z2) : z1 * (z2 + z2) + t1 * ((t2 + t2) * d) = 2 * (z1 * z2) * (1 + d * x1 * x2 * y1 * y2) := by subst ht1; subst ht2; grind -lia
theorem f2_ne (x y z d : F) (ho : y * y - x * x = 1 + d * x * x * y * y) : (z * z + z * z) + (x * z * (x * z) - y * z * (y * z)) = z * z * (1 - d * x * x * y * y) := by grind -lia
theorem g2_ne (x y z d : F) (ho : y * y - x * x = 1 + d * x * x * y * y) : x * z * (x * z) - y * z * (y * z) = -(z * z * (1 + d * x * x * y * y)) := by grind -lia
theorem neg_ne {a : F} (h : a ≠ 0) : -a ≠ 0 := fun e => h (by grind -lia)
end Ed
theorem Is.pls {q r : Pq} {p s : Ed.Pt} (h : Is q p) (k : Is r s) : Is (pls q (rdy r)) (Ed.add p s) := by
 have hx := Ed.add_x h.on k.on
 have hy := Ed.add_y h.on k.on
 have e1 : Ed.fe (sb (mq q.z (rdy r).z) (mq q.t (rdy r).t)) = Ed.fe q.z * (Ed.fe r.z + Ed.fe r.z) - Ed.fe q.t * ((Ed.fe r.t + Ed.fe r.t) * Ed.dd) := by
  rw [Ed.fe_sub _ _ (ml_lt _ _), Ed.fe_mul, Ed.fe_mul]
  show Ed.fe q.z * Ed.fe (ad r.z r.z) - Ed.fe q.t * Ed.fe (mq (ad r.t r.t) dN) = _
  rw [Ed.fe_add, Ed.fe_mul, Ed.fe_add, fe_dN]
 have e2 : Ed.fe (ad (mq q.z (rdy r).z) (mq q.t (rdy r).t)) = Ed.fe q.z * (Ed.fe r.z + Ed.fe r.z) + Ed.fe q.t * ((Ed.fe r.t + Ed.fe r.t) * Ed.dd) := by
  rw [Ed.fe_add, Ed.fe_mul, Ed.fe_mul]
  show Ed.fe q.z * Ed.fe (ad r.z r.z) + Ed.fe q.t * Ed.fe (mq (ad r.t r.t) dN) = _
  rw [Ed.fe_add, Ed.fe_mul, Ed.fe_add, fe_dN]
 have e3 : Ed.fe (sb (mq (ad q.y q.x) (rdy r).x) (mq (sb q.y q.x) (rdy r).y)) = ((Ed.fe q.y + Ed.fe q.x) * (Ed.fe r.y + Ed.fe r.x)) - ((Ed.fe q.y - Ed.fe q.x) * (Ed.fe r.y - Ed.fe r.x)) := by
  rw [Ed.fe_sub _ _ (ml_lt _ _), Ed.fe_mul, Ed.fe_mul]
  show Ed.fe (ad q.y q.x) * Ed.fe (ad r.y r.x) - Ed.fe (sb q.y q.x) * Ed.fe (sb r.y r.x) = _
  rw [Ed.fe_add, Ed.fe_add, Ed.fe_sub _ _ h.lx, Ed.fe_sub _ _ k.lx]
 have e4 : Ed.fe (ad (mq (ad q.y q.x) (rdy r).x) (mq (sb q.y q.x) (rdy r).y)) = ((Ed.fe q.y + Ed.fe q.x) * (Ed.fe r.y + Ed.fe r.x)) + ((Ed.fe q.y - Ed.fe q.x) * (Ed.fe r.y - Ed.fe r.x)) := by
  rw [Ed.fe_add, Ed.fe_mul, Ed.fe_mul]
  show Ed.fe (ad q.y q.x) * Ed.fe (ad r.y r.x) + Ed.fe (sb q.y q.x) * Ed.fe (sb r.y r.x) = _
  rw [Ed.fe_add, Ed.fe_add, Ed.fe_sub _ _ h.lx, Ed.fe_sub _ _ k.lx]
 rw [h.x, h.y, k.x, k.y] at e3 e4
 have n1 := Ed.f_ne _ _ _ _ _ _ Ed.dd _ _ h.t k.t
 have n2 := Ed.g_ne _ _ _ _ _ _ Ed.dd _ _ h.t k.t
 have hf : Ed.fe q.z * (Ed.fe r.z + Ed.fe r.z) - Ed.fe q.t * ((Ed.fe r.t + Ed.fe r.t) * Ed.dd) ≠ 0 := by
  rw [n1]; exact Ed.mul_ne (Ed.mul_ne Ed.two_ne (Ed.mul_ne h.z k.z)) (Ed.dm h.on k.on)
 have hg : Ed.fe q.z * (Ed.fe r.z + Ed.fe r.z) + Ed.fe q.t * ((Ed.fe r.t + Ed.fe r.t) * Ed.dd) ≠ 0 := by
  rw [n2]; exact Ed.mul_ne (Ed.mul_ne Ed.two_ne (Ed.mul_ne h.z k.z)) (Ed.dp h.on k.on)
 have px := Ed.plus_x p.x p.y (Ed.fe q.z) s.x s.y (Ed.fe r.z) Ed.dd _ 0 (Ed.fe q.t) (Ed.fe r.t) 0 0 h.t k.t hx
 have py := Ed.plus_y p.x p.y (Ed.fe q.z) s.x s.y (Ed.fe r.z) Ed.dd 0 _ (Ed.fe q.t) (Ed.fe r.t) 0 0 h.t k.t hy
 refine ⟨ml_lt _ _, ml_lt _ _, ml_lt _ _, ml_lt _ _, ?_, ?_, ?_, ?_, Ed.add_on h.on k.on⟩
 ·show Ed.fe (mq _ _) ≠ 0
  rw [Ed.fe_mul, e1, e2]; exact Ed.mul_ne hf hg
 ·show Ed.fe (mq _ _) = _ * Ed.fe (mq _ _)
  rw [Ed.fe_mul, Ed.fe_mul, e1, e2, e3]; exact px
 ·show Ed.fe (mq _ _) = _ * Ed.fe (mq _ _)
  rw [Ed.fe_mul, Ed.fe_mul, e1, e2, e4]; exact py
 ·show Ed.fe (mq _ _) = _ * Ed.fe (mq _ _)
  rw [Ed.fe_mul, Ed.fe_mul, e1, e2, e3, e4]; exact Ed.join_t hf hg px py
theorem Is.dbl {q : Pq} {p : Ed.Pt} (h : Is q p) : Is (dbq q) (Ed.add p p) := by
 have hx := Ed.add_x h.on h.on
 have hy := Ed.add_y h.on h.on
 have e1 : Ed.fe (ad (ad (mq q.z q.z) (mq q.z q.z)) (sb (mq q.x q.x) (mq q.y q.y))) = (Ed.fe q.z * Ed.fe q.z + Ed.fe q.z * Ed.fe q.z) + (Ed.fe q.x * Ed.fe q.x - Ed.fe q.y * Ed.fe q.y) := by
  rw [Ed.fe_add, Ed.fe_add, Ed.fe_sub _ _ (ml_lt _ _), Ed.fe_mul, Ed.fe_mul, Ed.fe_mul]
 have e2 : Ed.fe (sb (mq q.x q.x) (mq q.y q.y)) = Ed.fe q.x * Ed.fe q.x - Ed.fe q.y * Ed.fe q.y := by rw [Ed.fe_sub _ _ (ml_lt _ _), Ed.fe_mul, Ed.fe_mul]
 have e3 : Ed.fe (sb (ad (mq q.x q.x) (mq q.y q.y)) (mq (ad q.x q.y) (ad q.x q.y))) = (Ed.fe q.x * Ed.fe q.x + Ed.fe q.y * Ed.fe q.y) - (Ed.fe q.x + Ed.fe q.y) * (Ed.fe q.x + Ed.fe q.y) := by
  rw [Ed.fe_sub _ _ (ml_lt _ _), Ed.fe_add, Ed.fe_mul, Ed.fe_mul, Ed.fe_mul, Ed.fe_add]
 have e4 : Ed.fe (ad (mq q.x q.x) (mq q.y q.y)) = Ed.fe q.x * Ed.fe q.x + Ed.fe q.y * Ed.fe q.y := by rw [Ed.fe_add, Ed.fe_mul, Ed.fe_mul]
 rw [h.x, h.y] at e1 e2 e3 e4
 have n1 := Ed.f2_ne p.x p.y (Ed.fe q.z) Ed.dd h.on
 have n2 := Ed.g2_ne p.x p.y (Ed.fe q.z) Ed.dd h.on
 have hf : (Ed.fe q.z * Ed.fe q.z + Ed.fe q.z * Ed.fe q.z) + (p.x * Ed.fe q.z * (p.x * Ed.fe q.z) - p.y * Ed.fe q.z * (p.y * Ed.fe q.z)) ≠ 0 := by
  rw [n1]; exact Ed.mul_ne (Ed.mul_ne h.z h.z) (Ed.dm h.on h.on)
 have hg : p.x * Ed.fe q.z * (p.x * Ed.fe q.z) - p.y * Ed.fe q.z * (p.y * Ed.fe q.z) ≠ 0 := by
  rw [n2]; exact Ed.neg_ne (Ed.mul_ne (Ed.mul_ne h.z h.z) (Ed.dp h.on h.on))
 have px := Ed.dbl_x p.x p.y (Ed.fe q.z) Ed.dd _ h.on hx
 have py := Ed.dbl_y p.x p.y (Ed.fe q.z) Ed.dd _ h.on hy
 refine ⟨ml_lt _ _, ml_lt _ _, ml_lt _ _, ml_lt _ _, ?_, ?_, ?_, ?_, Ed.add_on h.on h.on⟩
 ·show Ed.fe (mq _ _) ≠ 0
  rw [Ed.fe_mul, e1, e2]; exact Ed.mul_ne hf hg
 ·show Ed.fe (mq _ _) = _ * Ed.fe (mq _ _)
  rw [Ed.fe_mul, Ed.fe_mul, e1, e2, e3]; exact px
 ·show Ed.fe (mq _ _) = _ * Ed.fe (mq _ _)
  rw [Ed.fe_mul, Ed.fe_mul, e1, e2, e4]; exact py
 ·show Ed.fe (mq _ _) = _ * Ed.fe (mq _ _)
  rw [Ed.fe_mul, Ed.fe_mul, e1, e2, e3, e4]; exact Ed.join_t hf hg px py
theorem Is.at {x y : Nat} {p : Ed.Pt} (hx : x < Nt.P) (hy : y < Nt.P) (ex : Ed.fe x = p.x) (ey : Ed.fe y = p.y) (on : p.On) : Is (atp x y) p := by
 have h1 : Ed.fe 1 = 1 := Ed.fe_1
 refine ⟨hx, hy, one_lt, ml_lt _ _, ?_, ?_, ?_, ?_, on⟩
 ·show Ed.fe 1 ≠ 0; rw [h1]; exact Ed.one_ne
 ·show Ed.fe x = p.x * Ed.fe 1; rw [h1, ex]; grind -lia
 ·show Ed.fe y = p.y * Ed.fe 1; rw [h1, ey]; grind -lia
 ·show Ed.fe (mq x y) = p.x * p.y * Ed.fe 1; rw [h1, Ed.fe_mul, ex, ey]; grind -lia
theorem Is.vx {q : Pq} {p : Ed.Pt} (h : Is q p) : mq q.x (iv q.z) = p.x.val := Ed.fe_lt (ml_lt _ _) (by
 rw [Ed.fe_mul, Ed.fe_iv, h.x]
 have := Ed.mul_inv h.z
 grind -lia)
theorem Is.vy {q : Pq} {p : Ed.Pt} (h : Is q p) : mq q.y (iv q.z) = p.y.val := Ed.fe_lt (ml_lt _ _) (by
 rw [Ed.fe_mul, Ed.fe_iv, h.y]
 have := Ed.mul_inv h.z
 grind -lia)
theorem same_iff {x1 y1 z1 x2 y2 z2 : Ed.F} {p s : Ed.Pt} (h1 : z1 ≠ 0) (h2 : z2 ≠ 0) (hx1 : x1 = p.x * z1) (hy1 : y1 = p.y * z1) (hx2 : x2 = s.x * z2) (hy2 : y2 = s.y * z2) : (x1 * z2 = x2 * z1 ↔ p.x = s.x) ∧ (y1 * z2 = y2 * z1 ↔ p.y = s.y) := by
 have hz := Ed.mul_ne h1 h2
 subst hx1; subst hy1; subst hx2; subst hy2
 refine ⟨⟨fun h => Ed.cancel hz (by grind -lia), fun h => by rw [h]; grind -lia⟩, ⟨fun h => Ed.cancel hz (by grind -lia), fun h => by rw [h]; grind -lia⟩⟩
theorem fe_eq {a b : Nat} (ha : a < Nt.P) (hb : b < Nt.P) : a = b ↔ Ed.fe a = Ed.fe b := ⟨fun h => by rw [h], fun h => Ed.fe_inj ha hb h⟩
def x2 (y : Nat) : Nat := mq (sb (mq y y) 1) (iv (ad (mq (mq y y) dN) 1))
namespace Ed
theorem den_ne (y : F) : y * y * dd + 1 ≠ 0 := fun e => by
 have h := nsq (r := 1) (s := y) (by grind -lia)
 rw [h] at e
 exact one_ne (by grind -lia)
theorem on_iff (x y : F) : on x y ↔ x * x * (y * y * dd + 1) = y * y - 1 := by
 unfold on
 constructor
 ·intro h; grind -lia
 ·intro h; grind -lia
end Ed
theorem fe_x2 (y : Nat) : Ed.fe (x2 y) = (Ed.fe y * Ed.fe y - 1) * Ed.inv (Ed.fe y * Ed.fe y * Ed.dd + 1) := by
 unfold x2
 rw [Ed.fe_mul, Ed.fe_sub _ _ one_lt, Ed.fe_iv, Ed.fe_add, Ed.fe_mul, Ed.fe_mul (mq y y), Ed.fe_mul, Ed.fe_1, fe_dN]
theorem x2_lt (y : Nat) : x2 y < Nt.P := ml_lt _ _
theorem on_x2 (x y : Nat) : Ed.on (Ed.fe x) (Ed.fe y) ↔ mq x x = x2 y := by
 rw [Ed.on_iff, fe_eq (ml_lt _ _) (x2_lt y), Ed.fe_mul, fe_x2]
 exact (Ed.div_iff (Ed.den_ne _)).symm
theorem root_uniq {a b : Nat} (ha : a < Nt.P) (hb : b < Nt.P) (h : mq a a = mq b b) (hp : a % 2 = b % 2) : a = b := by
 have e : Ed.fe a * Ed.fe a = Ed.fe b * Ed.fe b := by rw [← Ed.fe_mul, ← Ed.fe_mul, h]
 have e2 : (Ed.fe a - Ed.fe b) * (Ed.fe a + Ed.fe b) = 0 := by grind -lia
 rcases Ed.dom e2 with f | f
 ·exact Ed.fe_inj ha hb (by grind -lia)
 ·have f2 : Ed.fe (ad a b) = Ed.fe 0 := by rw [Ed.fe_add, Ed.fe_0]; exact f
  have f3 := Ed.fe_inj (ad_lt _ _) zero_lt f2
  unfold ad at f3
  have hP : Nt.P % 2 = 1 := P_odd
  have h3 : a + b = 0 ∨ a + b = Nt.P := by
   have := Nat.div_add_mod (a + b) Nt.P
   rw [f3] at this
   have h4 : (a + b) / Nt.P < 2 := Nat.div_lt_of_lt_mul (by rw [Nat.mul_comm]; omega)
   generalize (a + b) / Nt.P = n at *
   rcases (show n = 0 ∨ n = 1 by omega) with q | q
   ·subst q; left; omega
   ·subst q; right; omega
  omega
theorem ok_true {a : Nat} {odd : Bool} (h : ok a odd = true) : mq (ro a odd) (ro a odd) = a ∧ decide (ro a odd % 2 = 1) = odd := by
 rw [ro_yes h]
 unfold ok at h
 rw [Bool.and_eq_true] at h
 refine ⟨of_decide_eq_true h.1, ?_⟩
 have h2 := h.2
 cases hd : decide (rs a odd % 2 = 1) <;> cases odd <;> simp_all
theorem has_x2 {x y : Nat} (hx : x < Nt.P) (h : mq x x = x2 y) : Nt.has (x2 y) := by
 by_cases h0 : x2 y = 0
 ·exact Nt.has_zero _ h0
 ·refine Nt.has_of_chi (x2_lt y) (Nt.chi_of_root (r := x) (Nt.not_dvd (by omega) (x2_lt y)) ?_)
  rw [Nat.mod_eq_of_lt (x2_lt y)]; exact h
theorem root_of {x y : Nat} (hx : x < Nt.P) (h : mq x x = x2 y) : ok (x2 y) (decide (x % 2 = 1)) = true ∧ ro (x2 y) (decide (x % 2 = 1)) = x := by
 have hok : ok (x2 y) (decide (x % 2 = 1)) = true := by
  by_cases h0 : x2 y = 0
  ·have hx0 : x = 0 := by
    rw [h0] at h
    have e : Ed.fe x * Ed.fe x = 0 := by rw [← Ed.fe_mul, h, Ed.fe_0]
    have e2 : Ed.fe x = 0 := by rcases Ed.dom e with f | f <;> exact f
    exact Ed.fe_inj hx zero_lt (by rw [e2, Ed.fe_0])
   rw [ok_zero _ _ h0, hx0]; rfl
  ·exact ok_has _ (by omega) (has_x2 hx h)
 refine ⟨hok, ?_⟩
 obtain ⟨h1, h2⟩ := ok_true hok
 refine root_uniq (ro_ltP _ _) hx (h1.trans h.symm) ?_
 have : decide (ro (x2 y) (decide (x % 2 = 1)) % 2 = 1) = decide (x % 2 = 1) := h2
 by_cases c : x % 2 = 1
 ·rw [decide_eq_true c] at this
  rw [decide_eq_true c]
  have := of_decide_eq_true this
  omega
 ·rw [decide_eq_false c] at this
  rw [decide_eq_false c]
  have := of_decide_eq_false this
  omega
theorem on_val {p : Ed.Pt} (h : p.On) : mq p.x.val p.x.val = x2 p.y.val := (on_x2 _ _).1 (by rw [Ed.fe_of, Ed.fe_of]; exact h)
def Bp : Ed.Pt := ⟨15112221349535400772501151409588531511454012693041857206046113283949847762202, 46316835694926478169428394003475163141307993866256225615783033603165251855960⟩
theorem Bp_on : Bp.On := by show Ed.on _ _; unfold Ed.on; decide +kernel
end Mt
end Go.Proofs.YtdfghknonbmadaaGreatDoor
namespace Go.Proofs.YtdfghknonbmadaaGreatDoor
namespace Mt
set_option linter.unusedVariables false
set_option linter.unusedSimpArgs false
set_option maxRecDepth 1000000
set_option maxHeartbeats 4000000
namespace Nt
theorem q1224481 : Pr 1224481 := pr_tr 1107 (by decide) (by decide +kernel) (by decide +kernel)
theorem q531581 : Pr 531581 := pr_tr 730 (by decide) (by decide +kernel) (by decide +kernel)
theorem qq3 : Pr 1257559732178653 := pr_of_root (by decide +kernel) fun r hr hd =>
 above hr (two_dvd q1224481 q531581 (by decide +kernel) (pockB (R := 1027014492) 51 q1224481 (by decide +kernel) (by decide +kernel) (by decide +kernel) (by decide +kernel) (by decide +kernel) (by decide +kernel) r hr hd) (pockB (R := 2365697292) 51 q531581 (by decide +kernel) (by decide +kernel) (by decide +kernel) (by decide +kernel) (by decide +kernel) (by decide +kernel) r hr hd)) (by decide +kernel)
theorem qq4 : Pr 4434155615661930479 := pr_of_root (by decide +kernel) fun r hr hd =>
 above hr (pockB (R := 3526) 62 qq3 (by decide +kernel) (by decide +kernel) (by decide +kernel) (by decide +kernel) (by decide +kernel) (by decide +kernel) r hr hd) (by decide +kernel)
theorem qq5 : Pr 172054593956031949258510691 := pr_of_root (by decide +kernel) fun r hr hd =>
 above hr (pockB (R := 38802110) 88 qq4 (by decide +kernel) (by decide +kernel) (by decide +kernel) (by decide +kernel) (by decide +kernel) (by decide +kernel) r hr hd) (by decide +kernel)
theorem qq6 : Pr 19757330305831588566944191468367130476339 := pr_of_root (by decide +kernel) fun r hr hd =>
 above hr (pockB (R := 114831751082918) 134 qq5 (by decide +kernel) (by decide +kernel) (by decide +kernel) (by decide +kernel) (by decide +kernel) (by decide +kernel) r hr hd) (by decide +kernel)
theorem qq7 : Pr 276602624281642239937218680557139826668747 := pr_of_root (by decide +kernel) fun r hr hd =>
 above hr (pockB (R := 14) 138 qq6 (by decide +kernel) (by decide +kernel) (by decide +kernel) (by decide +kernel) (by decide +kernel) (by decide +kernel) r hr hd) (by decide +kernel)
theorem qq8 : Pr 7237005577332262213973186563042994240857116359379907606001950938285454250989 := pr_of_root (by decide +kernel) fun r hr hd =>
 above hr (pockB (R := 26163907866482859529727157400808004) 253 qq7 (by decide +kernel) (by decide +kernel) (by decide +kernel) (by decide +kernel) (by decide +kernel) (by decide +kernel) r hr hd) (by decide +kernel)
end Nt
def Lq : Nat := 7237005577332262213973186563042994240857116359379907606001950938285454250989
theorem Lq_val : Lq = 7237005577332262213973186563042994240857116359379907606001950938285454250989 := rfl
theorem prL : Nt.Pr Lq := Nt.qq8
def zq : Pq := atp 0 1
def bq : Pq := atp Bp.x.val Bp.y.val
theorem zq_is : Is zq Ed.zero := Is.at zero_lt one_lt Ed.fe_0 Ed.fe_1 Ed.zero_on
theorem bq_is : Is bq Bp := Is.at (Ed.val_lt _) (Ed.val_lt _) (Ed.fe_of _) (Ed.fe_of _) Bp_on
theorem bit_up (n m k : Nat) (hk : k < m) : n / 2 ^ (m - (k + 1)) = 2 * (n / 2 ^ (m - k)) + n / 2 ^ (m - 1 - k) % 2 := by
 rw [show m - k = (m - 1 - k) + 1 by omega, show m - (k + 1) = m - 1 - k by omega, Nat.pow_succ, ← Nat.div_div_eq_div_mul]
 generalize n / 2 ^ (m - 1 - k) = z
 omega
namespace Ed
theorem swap4 {a b c d : Pt} (ha : a.On) (hb : b.On) (hc : c.On) (hd : d.On) : add (add a b) (add c d) = add (add a c) (add b d) := by
 rw [add_assoc ha hb (add_on hc hd), ← add_assoc hb hc hd, add_comm b c, add_assoc hc hb hd, ← add_assoc ha hc (add_on hb hd)]
theorem nm_two {Q : Pt} (hQ : Q.On) (k : Nat) : nm (2 * k) Q = add (nm k Q) (nm k Q) := by rw [show 2 * k = k + k by omega, nm_add hQ]
theorem step {p b : Pt} (hp : p.On) (hb : b.On) (A B α β : Nat) : add (nm (2 * A + α) p) (nm (2 * B + β) b) = add (add (add (nm A p) (nm B b)) (add (nm A p) (nm B b))) (add (nm α p) (nm β b)) := by
 rw [nm_add hp, nm_add hb, nm_two hp, nm_two hb]
 have h1 := nm_on hp A
 have h2 := nm_on hb B
 have h3 := nm_on hp α
 have h4 := nm_on hb β
 rw [swap4 (add_on h1 h1) h3 (add_on h2 h2) h4, swap4 h1 h1 h2 h2]
end Ed
def r4 (q : Pq) (i : Nat) : Pq := if i = 0 then zq else if i = 1 then q else if i = 2 then bq else pls q (rdy bq)
theorem r4_is {q : Pq} {p : Ed.Pt} (h : Is q p) {α β : Nat} (ha : α = 0 ∨ α = 1) (hb : β = 0 ∨ β = 1) : Is (r4 q (2 * β + α)) (Ed.add (Ed.nm α p) (Ed.nm β Bp)) := by
 have z := Ed.zero_on
 have e1 : Ed.nm 1 p = p := Ed.nm_one h.on
 have e2 : Ed.nm 1 Bp = Bp := Ed.nm_one Bp_on
 have e0 : ∀ P, Ed.nm 0 P = Ed.zero := fun _ => rfl
 rcases ha with rfl | rfl <;> rcases hb with rfl | rfl
 ·rw [e0, e0, Ed.add_zero z]; exact zq_is
 ·rw [e0, e2, Ed.zero_add Bp_on]; exact bq_is
 ·rw [e1, e0, Ed.add_zero h.on]; exact h
 ·rw [e1, e2]; exact h.pls bq_is
def st4 (q : Pq) (α β : Nat → Nat) : Nat → Pq
 | 0 => zq
 | k + 1 => pls (dbq (st4 q α β k)) (rdy (r4 q (2 * β k + α k)))
theorem st4_is {q : Pq} {p : Ed.Pt} (h : Is q p) (a b : Nat) (ha : a < 2 ^ 253) (hb : b < 2 ^ 253) : ∀ k, k ≤ 253 → Is (st4 q (fun k => a / 2 ^ (252 - k) % 2) (fun k => b / 2 ^ (252 - k) % 2) k) (Ed.add (Ed.nm (a / 2 ^ (253 - k)) p) (Ed.nm (b / 2 ^ (253 - k)) Bp))
 | 0, _ => by
  rw [Nat.sub_zero, Nat.div_eq_of_lt ha, Nat.div_eq_of_lt hb]
  have e : Ed.add (Ed.nm 0 p) (Ed.nm 0 Bp) = Ed.zero := Ed.add_zero Ed.zero_on
  rw [e]; exact zq_is
 | k + 1, hk => by
  have ih := st4_is h a b ha hb k (by omega)
  rw [bit_up a 253 k (by omega), bit_up b 253 k (by omega), Ed.step h.on Bp_on]
  exact ih.dbl.pls (r4_is h (Nat.mod_two_eq_zero_or_one _) (Nat.mod_two_eq_zero_or_one _))
def bt4 (q : Pq) (a b : Nat) : Pq := st4 q (fun k => a / 2 ^ (252 - k) % 2) (fun k => b / 2 ^ (252 - k) % 2) 253
theorem bt4_is {q : Pq} {p : Ed.Pt} (h : Is q p) {a b : Nat} (ha : a < 2 ^ 253) (hb : b < 2 ^ 253) : Is (bt4 q a b) (Ed.add (Ed.nm a p) (Ed.nm b Bp)) := by
 have := st4_is h a b ha hb 253 (Nat.le_refl _)
 rw [Nat.sub_self, Nat.pow_zero, Nat.div_one, Nat.div_one] at this
 exact this
theorem L_253 {a : Nat} (h : a < Lq) : a < 2 ^ 253 := by
 have : Lq < 2 ^ 253 := by rw [Lq_val]; decide
 omega
theorem L_x : (bt4 bq (Lq - 1) 1).x = 0 := by decide +kernel
theorem L_y : (bt4 bq (Lq - 1) 1).y = (bt4 bq (Lq - 1) 1).z := by decide +kernel
theorem Is.zero_of {q : Pq} {p : Ed.Pt} (h : Is q p) (hx : q.x = 0) (hy : q.y = q.z) : p = Ed.zero := by
 have h1 := h.x
 have h2 := h.y
 rw [hx] at h1
 rw [hy] at h2
 have e1 : p.x = 0 := by
  have h0 : Ed.fe 0 = 0 := rfl
  rw [h0] at h1
  rcases Ed.dom h1.symm with c | c
  ·exact c
  ·exact absurd c h.z
 have e2 : p.y = 1 := by
  refine Ed.cancel h.z ?_
  grind
 cases p
 simp only at e1 e2
 subst e1 e2
 rfl
theorem L_zero : Ed.nm Lq Bp = Ed.zero := by
 have l1 : Lq - 1 < Lq := by rw [Lq_val]; decide
 have l2 : 1 < Lq := by rw [Lq_val]; decide
 have h := (bt4_is bq_is (L_253 l1) (L_253 l2)).zero_of L_x L_y
 rw [← Ed.nm_add Bp_on, show Lq - 1 + 1 = Lq by omega] at h
 exact h
theorem nm_zero : ∀ n, Ed.nm n Ed.zero = Ed.zero
 | 0 => rfl
 | n + 1 => by
  rw [Ed.nm_add Ed.zero_on, nm_zero n, Ed.nm_one Ed.zero_on]
  exact Ed.add_zero Ed.zero_on
theorem nm_mod (n : Nat) : Ed.nm (n % Lq) Bp = Ed.nm n Bp := by
 have h : Ed.nm n Bp = Ed.nm (n / Lq * Lq + n % Lq) Bp := by rw [Nat.mul_comm, Nat.div_add_mod]
 rw [h, Ed.nm_add Bp_on, Ed.nm_mul Bp_on, L_zero, nm_zero, Ed.zero_add (Ed.nm_on Bp_on _)]
theorem Bp_ne : Bp ≠ Ed.zero := fun h => by
 have : Bp.x = Ed.zero.x := by rw [h]
 exact absurd this (by decide)
theorem nm_dvd {n : Nat} (h : Ed.nm n Bp = Ed.zero) : Lq ∣ n := by
 apply Classical.byContradiction
 intro hd
 have hc := prL.cop hd
 -- some multiple of n is one more than a multiple of the order
 have hf : n ^ (Lq - 1) % Lq = 1 := Nt.fermat1 prL hd
 have h2 : 2 < Lq := by rw [Lq_val]; decide
 have e : n ^ (Lq - 1) = n ^ (Lq - 2) * n := by rw [← Nat.pow_succ, show (Lq - 2).succ = Lq - 1 by omega]
 have h1 : Ed.nm 1 Bp = Ed.zero := by
  rw [← hf, nm_mod, e, Ed.nm_mul Bp_on, h, nm_zero]
 rw [Ed.nm_one Bp_on] at h1
 exact Bp_ne h1
end Mt
end Go.Proofs.YtdfghknonbmadaaGreatDoor
