/-
  aead: products, bytes that are read and written, as numbers; the tag is the document's. No statement is proved here.
-/
import Derived.Test.YtgjhkfafmmkimaaDoorAfH
import Derived.Test.YtgjhkfafmmkimaaDoorAfG
namespace Go.Proofs.YtgjhkfafmmkimaaDoor
set_option linter.unusedVariables false
set_option linter.unusedSimpArgs false
set_option maxRecDepth 100000

theorem row5 (a b0 b1 b2 b3 b4 : Nat) : a * (b0 + 67108864 * (b1 + 67108864 * (b2 + 67108864 * (b3 + 67108864 * (b4))))) = a * b0 + 67108864 * (a * b1 + 67108864 * (a * b2 + 67108864 * (a * b3 + 67108864 * (a * b4)))) := by
  simp only [Nat.mul_add, Nat.mul_left_comm a 67108864]
theorem col5 (a0 a1 a2 a3 a4 v : Nat) : (a0 + 67108864 * (a1 + 67108864 * (a2 + 67108864 * (a3 + 67108864 * (a4))))) * v = a0 * v + 67108864 * (a1 * v + 67108864 * (a2 * v + 67108864 * (a3 * v + 67108864 * (a4 * v)))) := by
  simp only [Nat.add_mul, Nat.mul_assoc]
theorem mul5 (a0 a1 a2 a3 a4 b0 b1 b2 b3 b4 : Nat) : ((a0 * b0 + 5 * (a1 * b4) + 5 * (a2 * b3) + 5 * (a3 * b2) + 5 * (a4 * b1)) + 67108864 * ((a0 * b1 + a1 * b0 + 5 * (a2 * b4) + 5 * (a3 * b3) + 5 * (a4 * b2)) + 67108864 * ((a0 * b2 + a1 * b1 + a2 * b0 + 5 * (a3 * b4) + 5 * (a4 * b3)) + 67108864 * ((a0 * b3 + a1 * b2 + a2 * b1 + a3 * b0 + 5 * (a4 * b4)) + 67108864 * ((a0 * b4 + a1 * b3 + a2 * b2 + a3 * b1 + a4 * b0)))))) + 1361129467683753853853498429727072845819 * (1 * (a1 * b4) + 1 * (a2 * b3) + 67108864 * (a2 * b4) + 1 * (a3 * b2) + 67108864 * (a3 * b3) + 4503599627370496 * (a3 * b4) + 1 * (a4 * b1) + 67108864 * (a4 * b2) + 4503599627370496 * (a4 * b3) + 302231454903657293676544 * (a4 * b4)) = (a0 + 67108864 * (a1 + 67108864 * (a2 + 67108864 * (a3 + 67108864 * (a4))))) * (b0 + 67108864 * (b1 + 67108864 * (b2 + 67108864 * (b3 + 67108864 * (b4))))) := by
  rw [col5, row5, row5, row5, row5, row5]
  omega
theorem touP_5 (a0 a1 a2 a3 a4 b0 b1 b2 b3 b4 : BitVec 64) : touP [a0, a1, a2, a3, a4] [b0, b1, b2, b3, b4] 5 = [((((((0 : BitVec 64) + a0 * b0) + BitVec.ofInt 64 5 * a1 * b4) + BitVec.ofInt 64 5 * a2 * b3) + BitVec.ofInt 64 5 * a3 * b2) + BitVec.ofInt 64 5 * a4 * b1), ((((((0 : BitVec 64) + a0 * b1) + a1 * b0) + BitVec.ofInt 64 5 * a2 * b4) + BitVec.ofInt 64 5 * a3 * b3) + BitVec.ofInt 64 5 * a4 * b2), ((((((0 : BitVec 64) + a0 * b2) + a1 * b1) + a2 * b0) + BitVec.ofInt 64 5 * a3 * b4) + BitVec.ofInt 64 5 * a4 * b3), ((((((0 : BitVec 64) + a0 * b3) + a1 * b2) + a2 * b1) + a3 * b0) + BitVec.ofInt 64 5 * a4 * b4), ((((((0 : BitVec 64) + a0 * b4) + a1 * b3) + a2 * b2) + a3 * b1) + a4 * b0)] := by kernel_rfl
theorem mulA {x y : BitVec 64} (hx : x.toNat < 2 ^ 28) (hy : y.toNat < 67108864) : (x * y).toNat = x.toNat * y.toNat ∧ x.toNat * y.toNat < 2 ^ 54 := by
  have h : x.toNat * y.toNat < 2 ^ 54 := by
    have := Nat.mul_lt_mul'' hx hy
    omega
  exact ⟨mul_nat (by omega), h⟩
theorem mulB {x y : BitVec 64} (hx : x.toNat < 2 ^ 28) (hy : y.toNat < 67108864) : (BitVec.ofInt 64 5 * x * y).toNat = 5 * (x.toNat * y.toNat) ∧ x.toNat * y.toNat < 2 ^ 54 := by
  have h : x.toNat * y.toNat < 2 ^ 54 := by
    have := Nat.mul_lt_mul'' hx hy
    omega
  have e : (BitVec.ofInt 64 5 * x).toNat = 5 * x.toNat := mul_nat (x := BitVec.ofInt 64 5) (by rw [show (BitVec.ofInt 64 5).toNat = 5 from rfl]; omega)
  have e2 : (BitVec.ofInt 64 5 * x * y).toNat = (BitVec.ofInt 64 5 * x).toNat * y.toNat := mul_nat (by rw [e, Nat.mul_assoc]; omega)
  exact ⟨by rw [e2, e, Nat.mul_assoc], h⟩
theorem z0 (x : BitVec 64) : (0 : BitVec 64) + x = x := BitVec.zero_add x
theorem sum5 {x y z u v : BitVec 64} (h : x.toNat + y.toNat + z.toNat + u.toNat + v.toNat < 2 ^ 64) : (((((0 : BitVec 64) + x) + y) + z + u) + v).toNat = x.toNat + y.toNat + z.toNat + u.toNat + v.toNat := by
  rw [z0]
  have h1 := add_nat (x := x) (y := y) (by omega)
  have h2 := add_nat (x := x + y) (y := z) (by omega)
  have h3 := add_nat (x := x + y + z) (y := u) (by omega)
  have h4 := add_nat (x := x + y + z + u) (y := v) (by omega)
  omega
/-- What is multiplied. -/
theorem touP_ok {l m : Ds} (hl : l.length = 5) (hm : m.length = 5) (hb : Lt (2 ^ 28) l) (hc : Lt 67108864 m) : V5 (touP l m 5) % PP = V5 l * V5 m % PP ∧ Lt (2 ^ 60) (touP l m 5) := by
  obtain ⟨a0, a1, a2, a3, a4, rfl⟩ := len5 hl
  obtain ⟨b0, b1, b2, b3, b4, rfl⟩ := len5 hm
  obtain ⟨h0, h1, h2, h3, h4⟩ := Lt5 hb
  obtain ⟨g0, g1, g2, g3, g4⟩ := Lt5 hc
  rw [touP_5]
  obtain ⟨m00, n00⟩ := mulA h0 g0
  obtain ⟨m01, n01⟩ := mulA h0 g1
  obtain ⟨m02, n02⟩ := mulA h0 g2
  obtain ⟨m03, n03⟩ := mulA h0 g3
  obtain ⟨m04, n04⟩ := mulA h0 g4
  obtain ⟨m10, n10⟩ := mulA h1 g0
  obtain ⟨m11, n11⟩ := mulA h1 g1
  obtain ⟨m12, n12⟩ := mulA h1 g2
  obtain ⟨m13, n13⟩ := mulA h1 g3
  obtain ⟨m14, n14⟩ := mulB h1 g4
  obtain ⟨m20, n20⟩ := mulA h2 g0
  obtain ⟨m21, n21⟩ := mulA h2 g1
  obtain ⟨m22, n22⟩ := mulA h2 g2
  obtain ⟨m23, n23⟩ := mulB h2 g3
  obtain ⟨m24, n24⟩ := mulB h2 g4
  obtain ⟨m30, n30⟩ := mulA h3 g0
  obtain ⟨m31, n31⟩ := mulA h3 g1
  obtain ⟨m32, n32⟩ := mulB h3 g2
  obtain ⟨m33, n33⟩ := mulB h3 g3
  obtain ⟨m34, n34⟩ := mulB h3 g4
  obtain ⟨m40, n40⟩ := mulA h4 g0
  obtain ⟨m41, n41⟩ := mulB h4 g1
  obtain ⟨m42, n42⟩ := mulB h4 g2
  obtain ⟨m43, n43⟩ := mulB h4 g3
  obtain ⟨m44, n44⟩ := mulB h4 g4
  have s0 := sum5 (x := a0 * b0) (y := BitVec.ofInt 64 5 * a1 * b4) (z := BitVec.ofInt 64 5 * a2 * b3) (u := BitVec.ofInt 64 5 * a3 * b2) (v := BitVec.ofInt 64 5 * a4 * b1) (by omega)
  have s1 := sum5 (x := a0 * b1) (y := a1 * b0) (z := BitVec.ofInt 64 5 * a2 * b4) (u := BitVec.ofInt 64 5 * a3 * b3) (v := BitVec.ofInt 64 5 * a4 * b2) (by omega)
  have s2 := sum5 (x := a0 * b2) (y := a1 * b1) (z := a2 * b0) (u := BitVec.ofInt 64 5 * a3 * b4) (v := BitVec.ofInt 64 5 * a4 * b3) (by omega)
  have s3 := sum5 (x := a0 * b3) (y := a1 * b2) (z := a2 * b1) (u := a3 * b0) (v := BitVec.ofInt 64 5 * a4 * b4) (by omega)
  have s4 := sum5 (x := a0 * b4) (y := a1 * b3) (z := a2 * b2) (u := a3 * b1) (v := a4 * b0) (by omega)
  refine ⟨?_, Lt5_of ⟨by omega, by omega, by omega, by omega, by omega⟩⟩
  rw [V5_5, V5_5, V5_5, s0, s1, s2, s3, s4, m00, m01, m02, m03, m04, m10, m11, m12, m13, m14, m20, m21, m22, m23, m24, m30, m31, m32, m33, m34, m40, m41, m42, m43, m44]
  have := mul5 a0.toNat a1.toNat a2.toNat a3.toNat a4.toNat b0.toNat b1.toNat b2.toNat b3.toNat b4.toNat
  rw [← this, PP_eq, Nat.add_mul_mod_self_left]
theorem tms_ok {l m : Ds} (hl : l.length = 5) (hm : m.length = 5) (hb : Lt (2 ^ 28) l) (hc : Lt 67108864 m) : Ok5 (tms l m) ∧ V5 (tms l m) % PP = V5 l * V5 m % PP := by
  obtain ⟨h1, h2⟩ := touP_ok hl hm hb hc
  obtain ⟨h3, h4⟩ := stl_ok (touP_len l m 5) h2
  exact ⟨h3, h4.trans h1⟩
theorem shl_nat (x : BitVec 8) (k : Nat) (hk : k < 26) : ((x.setWidth 64 : BitVec 64) <<< k).toNat = x.toNat * 2 ^ k := by
  have hx : x.toNat < 256 := x.isLt
  have h1 : (x.setWidth 64 : BitVec 64).toNat = x.toNat := by simp; omega
  rw [BitVec.toNat_shiftLeft, h1, Nat.shiftLeft_eq]
  apply Nat.mod_eq_of_lt
  have h2 : 2 ^ k ≤ 2 ^ 25 := Nat.pow_le_pow_right (by decide) (by omega)
  have h3 : x.toNat * 2 ^ k ≤ 255 * 2 ^ 25 := Nat.mul_le_mul (by omega) h2
  omega
theorem rpS_16 (x0 x1 x2 x3 x4 x5 x6 x7 x8 x9 x10 x11 x12 x13 x14 x15 : BitVec 8) : rpS [x0, x1, x2, x3, x4, x5, x6, x7, x8, x9, x10, x11, x12, x13, x14, x15] 16 = [(((((0 : BitVec 64) + x0.setWidth 64 <<< 0) + x1.setWidth 64 <<< 8) + x2.setWidth 64 <<< 16) + x3.setWidth 64 <<< 24), ((((0 : BitVec 64) + x4.setWidth 64 <<< 6) + x5.setWidth 64 <<< 14) + x6.setWidth 64 <<< 22), ((((0 : BitVec 64) + x7.setWidth 64 <<< 4) + x8.setWidth 64 <<< 12) + x9.setWidth 64 <<< 20), ((((0 : BitVec 64) + x10.setWidth 64 <<< 2) + x11.setWidth 64 <<< 10) + x12.setWidth 64 <<< 18), ((((0 : BitVec 64) + x13.setWidth 64 <<< 0) + x14.setWidth 64 <<< 8) + x15.setWidth 64 <<< 16)] := by kernel_rfl
theorem len16t {l : Tx} (h : l.length = 16) : ∃ x0 x1 x2 x3 x4 x5 x6 x7 x8 x9 x10 x11 x12 x13 x14 x15, l = [x0, x1, x2, x3, x4, x5, x6, x7, x8, x9, x10, x11, x12, x13, x14, x15] := by
  match l, h with
  | [x0, x1, x2, x3, x4, x5, x6, x7, x8, x9, x10, x11, x12, x13, x14, x15], _ => exact ⟨x0, x1, x2, x3, x4, x5, x6, x7, x8, x9, x10, x11, x12, x13, x14, x15, rfl⟩
theorem rpS_ok16 (s : Tx) (h : s.length = 16) : V5 (rpS s 16) = numS s ∧ Lt (2 ^ 60) (rpS s 16) := by
  obtain ⟨x0, x1, x2, x3, x4, x5, x6, x7, x8, x9, x10, x11, x12, x13, x14, x15, rfl⟩ := len16t h
  rw [rpS_16]
  have h0 := shl_nat x0 0 (by decide)
  have i0 := x0.isLt
  have h1 := shl_nat x1 8 (by decide)
  have i1 := x1.isLt
  have h2 := shl_nat x2 16 (by decide)
  have i2 := x2.isLt
  have h3 := shl_nat x3 24 (by decide)
  have i3 := x3.isLt
  have h4 := shl_nat x4 6 (by decide)
  have i4 := x4.isLt
  have h5 := shl_nat x5 14 (by decide)
  have i5 := x5.isLt
  have h6 := shl_nat x6 22 (by decide)
  have i6 := x6.isLt
  have h7 := shl_nat x7 4 (by decide)
  have i7 := x7.isLt
  have h8 := shl_nat x8 12 (by decide)
  have i8 := x8.isLt
  have h9 := shl_nat x9 20 (by decide)
  have i9 := x9.isLt
  have h10 := shl_nat x10 2 (by decide)
  have i10 := x10.isLt
  have h11 := shl_nat x11 10 (by decide)
  have i11 := x11.isLt
  have h12 := shl_nat x12 18 (by decide)
  have i12 := x12.isLt
  have h13 := shl_nat x13 0 (by decide)
  have i13 := x13.isLt
  have h14 := shl_nat x14 8 (by decide)
  have i14 := x14.isLt
  have h15 := shl_nat x15 16 (by decide)
  have i15 := x15.isLt
  have e0 : ((((((0 : BitVec 64) + x0.setWidth 64 <<< 0) + x1.setWidth 64 <<< 8) + x2.setWidth 64 <<< 16) + x3.setWidth 64 <<< 24) : BitVec 64).toNat = x0.toNat * 1 + x1.toNat * 256 + x2.toNat * 65536 + x3.toNat * 16777216 := by
    rw [z0]
    have q1 := add_nat (x := x0.setWidth 64 <<< 0) (y := x1.setWidth 64 <<< 8) (by omega)
    have q2 := add_nat (x := x0.setWidth 64 <<< 0 + x1.setWidth 64 <<< 8) (y := x2.setWidth 64 <<< 16) (by omega)
    have q3 := add_nat (x := x0.setWidth 64 <<< 0 + x1.setWidth 64 <<< 8 + x2.setWidth 64 <<< 16) (y := x3.setWidth 64 <<< 24) (by omega)
    omega
  have e1 : (((((0 : BitVec 64) + x4.setWidth 64 <<< 6) + x5.setWidth 64 <<< 14) + x6.setWidth 64 <<< 22) : BitVec 64).toNat = x4.toNat * 64 + x5.toNat * 16384 + x6.toNat * 4194304 := by
    rw [z0]
    have q1 := add_nat (x := x4.setWidth 64 <<< 6) (y := x5.setWidth 64 <<< 14) (by omega)
    have q2 := add_nat (x := x4.setWidth 64 <<< 6 + x5.setWidth 64 <<< 14) (y := x6.setWidth 64 <<< 22) (by omega)
    omega
  have e2 : (((((0 : BitVec 64) + x7.setWidth 64 <<< 4) + x8.setWidth 64 <<< 12) + x9.setWidth 64 <<< 20) : BitVec 64).toNat = x7.toNat * 16 + x8.toNat * 4096 + x9.toNat * 1048576 := by
    rw [z0]
    have q1 := add_nat (x := x7.setWidth 64 <<< 4) (y := x8.setWidth 64 <<< 12) (by omega)
    have q2 := add_nat (x := x7.setWidth 64 <<< 4 + x8.setWidth 64 <<< 12) (y := x9.setWidth 64 <<< 20) (by omega)
    omega
  have e3 : (((((0 : BitVec 64) + x10.setWidth 64 <<< 2) + x11.setWidth 64 <<< 10) + x12.setWidth 64 <<< 18) : BitVec 64).toNat = x10.toNat * 4 + x11.toNat * 1024 + x12.toNat * 262144 := by
    rw [z0]
    have q1 := add_nat (x := x10.setWidth 64 <<< 2) (y := x11.setWidth 64 <<< 10) (by omega)
    have q2 := add_nat (x := x10.setWidth 64 <<< 2 + x11.setWidth 64 <<< 10) (y := x12.setWidth 64 <<< 18) (by omega)
    omega
  have e4 : (((((0 : BitVec 64) + x13.setWidth 64 <<< 0) + x14.setWidth 64 <<< 8) + x15.setWidth 64 <<< 16) : BitVec 64).toNat = x13.toNat * 1 + x14.toNat * 256 + x15.toNat * 65536 := by
    rw [z0]
    have q1 := add_nat (x := x13.setWidth 64 <<< 0) (y := x14.setWidth 64 <<< 8) (by omega)
    have q2 := add_nat (x := x13.setWidth 64 <<< 0 + x14.setWidth 64 <<< 8) (y := x15.setWidth 64 <<< 16) (by omega)
    omega
  refine ⟨?_, Lt5_of ⟨by omega, by omega, by omega, by omega, by omega⟩⟩
  rw [V5_5, e0, e1, e2, e3, e4]
  simp only [numS]
  omega
theorem rpS_17 (x0 x1 x2 x3 x4 x5 x6 x7 x8 x9 x10 x11 x12 x13 x14 x15 x16 : BitVec 8) : rpS [x0, x1, x2, x3, x4, x5, x6, x7, x8, x9, x10, x11, x12, x13, x14, x15, x16] 17 = [(((((0 : BitVec 64) + x0.setWidth 64 <<< 0) + x1.setWidth 64 <<< 8) + x2.setWidth 64 <<< 16) + x3.setWidth 64 <<< 24), ((((0 : BitVec 64) + x4.setWidth 64 <<< 6) + x5.setWidth 64 <<< 14) + x6.setWidth 64 <<< 22), ((((0 : BitVec 64) + x7.setWidth 64 <<< 4) + x8.setWidth 64 <<< 12) + x9.setWidth 64 <<< 20), ((((0 : BitVec 64) + x10.setWidth 64 <<< 2) + x11.setWidth 64 <<< 10) + x12.setWidth 64 <<< 18), (((((0 : BitVec 64) + x13.setWidth 64 <<< 0) + x14.setWidth 64 <<< 8) + x15.setWidth 64 <<< 16) + x16.setWidth 64 <<< 24)] := by kernel_rfl
theorem len17t {l : Tx} (h : l.length = 17) : ∃ x0 x1 x2 x3 x4 x5 x6 x7 x8 x9 x10 x11 x12 x13 x14 x15 x16, l = [x0, x1, x2, x3, x4, x5, x6, x7, x8, x9, x10, x11, x12, x13, x14, x15, x16] := by
  match l, h with
  | [x0, x1, x2, x3, x4, x5, x6, x7, x8, x9, x10, x11, x12, x13, x14, x15, x16], _ => exact ⟨x0, x1, x2, x3, x4, x5, x6, x7, x8, x9, x10, x11, x12, x13, x14, x15, x16, rfl⟩
theorem rpS_ok17 (s : Tx) (h : s.length = 17) : V5 (rpS s 17) = numS s ∧ Lt (2 ^ 60) (rpS s 17) := by
  obtain ⟨x0, x1, x2, x3, x4, x5, x6, x7, x8, x9, x10, x11, x12, x13, x14, x15, x16, rfl⟩ := len17t h
  rw [rpS_17]
  have h0 := shl_nat x0 0 (by decide)
  have i0 := x0.isLt
  have h1 := shl_nat x1 8 (by decide)
  have i1 := x1.isLt
  have h2 := shl_nat x2 16 (by decide)
  have i2 := x2.isLt
  have h3 := shl_nat x3 24 (by decide)
  have i3 := x3.isLt
  have h4 := shl_nat x4 6 (by decide)
  have i4 := x4.isLt
  have h5 := shl_nat x5 14 (by decide)
  have i5 := x5.isLt
  have h6 := shl_nat x6 22 (by decide)
  have i6 := x6.isLt
  have h7 := shl_nat x7 4 (by decide)
  have i7 := x7.isLt
  have h8 := shl_nat x8 12 (by decide)
  have i8 := x8.isLt
  have h9 := shl_nat x9 20 (by decide)
  have i9 := x9.isLt
  have h10 := shl_nat x10 2 (by decide)
  have i10 := x10.isLt
  have h11 := shl_nat x11 10 (by decide)
  have i11 := x11.isLt
  have h12 := shl_nat x12 18 (by decide)
  have i12 := x12.isLt
  have h13 := shl_nat x13 0 (by decide)
  have i13 := x13.isLt
  have h14 := shl_nat x14 8 (by decide)
  have i14 := x14.isLt
  have h15 := shl_nat x15 16 (by decide)
  have i15 := x15.isLt
  have h16 := shl_nat x16 24 (by decide)
  have i16 := x16.isLt
  have e0 : ((((((0 : BitVec 64) + x0.setWidth 64 <<< 0) + x1.setWidth 64 <<< 8) + x2.setWidth 64 <<< 16) + x3.setWidth 64 <<< 24) : BitVec 64).toNat = x0.toNat * 1 + x1.toNat * 256 + x2.toNat * 65536 + x3.toNat * 16777216 := by
    rw [z0]
    have q1 := add_nat (x := x0.setWidth 64 <<< 0) (y := x1.setWidth 64 <<< 8) (by omega)
    have q2 := add_nat (x := x0.setWidth 64 <<< 0 + x1.setWidth 64 <<< 8) (y := x2.setWidth 64 <<< 16) (by omega)
    have q3 := add_nat (x := x0.setWidth 64 <<< 0 + x1.setWidth 64 <<< 8 + x2.setWidth 64 <<< 16) (y := x3.setWidth 64 <<< 24) (by omega)
    omega
  have e1 : (((((0 : BitVec 64) + x4.setWidth 64 <<< 6) + x5.setWidth 64 <<< 14) + x6.setWidth 64 <<< 22) : BitVec 64).toNat = x4.toNat * 64 + x5.toNat * 16384 + x6.toNat * 4194304 := by
    rw [z0]
    have q1 := add_nat (x := x4.setWidth 64 <<< 6) (y := x5.setWidth 64 <<< 14) (by omega)
    have q2 := add_nat (x := x4.setWidth 64 <<< 6 + x5.setWidth 64 <<< 14) (y := x6.setWidth 64 <<< 22) (by omega)
    omega
  have e2 : (((((0 : BitVec 64) + x7.setWidth 64 <<< 4) + x8.setWidth 64 <<< 12) + x9.setWidth 64 <<< 20) : BitVec 64).toNat = x7.toNat * 16 + x8.toNat * 4096 + x9.toNat * 1048576 := by
    rw [z0]
    have q1 := add_nat (x := x7.setWidth 64 <<< 4) (y := x8.setWidth 64 <<< 12) (by omega)
    have q2 := add_nat (x := x7.setWidth 64 <<< 4 + x8.setWidth 64 <<< 12) (y := x9.setWidth 64 <<< 20) (by omega)
    omega
  have e3 : (((((0 : BitVec 64) + x10.setWidth 64 <<< 2) + x11.setWidth 64 <<< 10) + x12.setWidth 64 <<< 18) : BitVec 64).toNat = x10.toNat * 4 + x11.toNat * 1024 + x12.toNat * 262144 := by
    rw [z0]
    have q1 := add_nat (x := x10.setWidth 64 <<< 2) (y := x11.setWidth 64 <<< 10) (by omega)
    have q2 := add_nat (x := x10.setWidth 64 <<< 2 + x11.setWidth 64 <<< 10) (y := x12.setWidth 64 <<< 18) (by omega)
    omega
  have e4 : ((((((0 : BitVec 64) + x13.setWidth 64 <<< 0) + x14.setWidth 64 <<< 8) + x15.setWidth 64 <<< 16) + x16.setWidth 64 <<< 24) : BitVec 64).toNat = x13.toNat * 1 + x14.toNat * 256 + x15.toNat * 65536 + x16.toNat * 16777216 := by
    rw [z0]
    have q1 := add_nat (x := x13.setWidth 64 <<< 0) (y := x14.setWidth 64 <<< 8) (by omega)
    have q2 := add_nat (x := x13.setWidth 64 <<< 0 + x14.setWidth 64 <<< 8) (y := x15.setWidth 64 <<< 16) (by omega)
    have q3 := add_nat (x := x13.setWidth 64 <<< 0 + x14.setWidth 64 <<< 8 + x15.setWidth 64 <<< 16) (y := x16.setWidth 64 <<< 24) (by omega)
    omega
  refine ⟨?_, Lt5_of ⟨by omega, by omega, by omega, by omega, by omega⟩⟩
  rw [V5_5, e0, e1, e2, e3, e4]
  simp only [numS]
  omega
/-- Bytes that are read are their number. -/
theorem rdn_ok (s : Tx) (h : s.length = 16 ∨ s.length = 17) (h2 : numS s < P130) : V5 (rdn s) = numS s ∧ Lt 67108864 (rdn s) ∧ (rdn s).length = 5 := by
  have key : V5 (rpS s s.length) = numS s ∧ Lt (2 ^ 60) (rpS s s.length) := by
    rcases h with h | h
    · rw [h]; exact rpS_ok16 s h
    · rw [h]; exact rpS_ok17 s h
  obtain ⟨k1, k2⟩ := key
  obtain ⟨c1, c2, c3⟩ := cr_ok (rpS_len s s.length) (k2.mono (by decide))
  refine ⟨?_, c2, c3⟩
  show V5 (crX (rpS s s.length)) = numS s
  have hy : (crY (rpS s s.length)).toNat = 0 := by
    rcases Nat.eq_zero_or_pos (crY (rpS s s.length)).toNat with q | q
    · exact q
    · exfalso
      have : P130 * 1 ≤ P130 * (crY (rpS s s.length)).toNat := Nat.mul_le_mul (Nat.le_refl _) q
      omega
  rw [hy, Nat.mul_zero, Nat.add_zero] at c1
  rw [c1, k1]
theorem numS_zero : ∀ n, numS (List.replicate n (0 : BitVec 8)) = 0
  | 0 => rfl
  | n + 1 => by rw [List.replicate_succ, numS, numS_zero n]; rfl
theorem enD_ok (p : Tx) (h : p.length ≤ 16) : V5 (enD p) = numS (p ++ [1]) ∧ Lt 67108864 (enD p) ∧ (enD p).length = 5 := by
  have e : numS (enB p) = numS (p ++ [1]) := by unfold enB; rw [numS_app, numS_zero]; omega
  have hlt : numS (p ++ [1]) < P130 := by
    have h1 := numS_lt p
    have h3 : 256 ^ p.length ≤ 256 ^ 16 := Nat.pow_le_pow_right (by decide) h
    rw [numS_app]
    have e1 : numS [1] = 1 := rfl
    rw [e1, P130]
    have e2 : (256 : Nat) ^ 16 = 340282366920938463463374607431768211456 := by decide
    rw [e2] at h3
    omega
  have := rdn_ok (enB p) (.inr (by unfold enB; simp; omega)) (by rw [e]; exact hlt)
  rw [e] at this
  exact this
theorem leN_app : ∀ (a b n : Nat), leN n (a + b) = leN n a ++ leN (n / 256 ^ a) b
  | 0, b, n => by simp [leN]
  | a + 1, b, n => by rw [Nat.add_right_comm, leN, leN, leN_app a b, Nat.div_div_eq_div_mul, ← Nat.pow_succ']; rfl
theorem leN_congr : ∀ (k n m : Nat), n % 256 ^ k = m % 256 ^ k → leN n k = leN m k
  | 0, _, _, _ => rfl
  | k + 1, n, m, h => by
    rw [leN, leN]
    have h8 : n % 256 = m % 256 := by
      have e : ∀ x : Nat, x % 256 ^ (k + 1) % 256 = x % 256 := fun x => Nat.mod_mod_of_dvd x (Nat.dvd_mul_left 256 (256 ^ k))
      rw [← e n, h, e m]
    have h9 : n / 256 % 256 ^ k = m / 256 % 256 ^ k := by
      rw [Nat.pow_succ, Nat.mul_comm] at h
      rw [← Nat.mod_mul_right_div_self, ← Nat.mod_mul_right_div_self, h]
    have e8 : BitVec.ofNat 8 n = BitVec.ofNat 8 m := BitVec.eq_of_toNat_eq (by simp; exact h8)
    rw [e8, leN_congr k _ _ h9]
theorem byte_is (w : BitVec 64) (k : Nat) : (w >>> (8 * k)).setWidth 8 = BitVec.ofNat 8 (w.toNat / 256 ^ k) := by
  apply BitVec.eq_of_toNat_eq
  rw [BitVec.toNat_setWidth, BitVec.toNat_ushiftRight, Nat.shiftRight_eq_div_pow, BitVec.toNat_ofNat, Nat.pow_mul]
theorem lo_leN (w : BitVec 64) (n : Nat) : lo w n = leN w.toNat n := by
  apply List.ext_getElem
  · rw [lo_len, leN_len]
  · intro i h1 h2
    rw [lo_len] at h1
    have e1 : (lo w n)[i] = BitVec.ofNat 8 (w.toNat / 256 ^ i) := by
      simp only [lo, List.getElem_map, List.getElem_range]
      exact byte_is w i
    have e2 := leN_at n w.toNat i h1
    rw [List.getD_eq_getElem?_getD, List.getElem?_eq_getElem h2, Option.getD_some] at e2
    rw [e1, e2]
theorem or_lo (x y k : Nat) (h : x < 2 ^ k) : x ||| y * 2 ^ k = x + y * 2 ^ k := by
  rw [Nat.or_comm, Nat.mul_comm y, ← Nat.two_pow_add_eq_or_of_lt h, Nat.add_comm]
theorem shl_mod (x : BitVec 64) (k : Nat) (hk : k < 64) : (x <<< k).toNat = x.toNat % 2 ^ (64 - k) * 2 ^ k := by
  rw [BitVec.toNat_shiftLeft, Nat.shiftLeft_eq]
  have e : (2 : Nat) ^ 64 = 2 ^ (64 - k) * 2 ^ k := by rw [← Nat.pow_add]; congr 1; omega
  rw [e, Nat.mul_mod_mul_right]
/-- The lowest bytes are written. -/
theorem wrD_ok {l : Ds} (hl : l.length = 5) (hb : Lt (2 ^ 62) l) : wrD l = leN (V5 l) 16 := by
  obtain ⟨c1, c2, c3⟩ := cr_ok hl hb
  obtain ⟨d0, d1, d2, d3, d4, hx⟩ := len5 c3
  rw [hx] at c1 c2
  obtain ⟨g0, g1, g2, g3, g4⟩ := Lt5 c2
  unfold wrD
  rw [hx]
  show lo (d0 ||| d1 <<< 26 ||| d2 <<< 52) 8 ++ lo (d2 >>> 12 ||| d3 <<< 14 ||| d4 <<< 40) 8 = _
  have a1 : (d0 ||| d1 <<< 26 ||| d2 <<< 52).toNat = d0.toNat + d1.toNat * 2 ^ 26 + d2.toNat % 4096 * 2 ^ 52 := by
    rw [BitVec.toNat_or, BitVec.toNat_or, shl_mod d1 26 (by decide), shl_mod d2 52 (by decide), Nat.mod_eq_of_lt (a := d1.toNat) (by omega), or_lo _ _ 26 (by omega), or_lo _ _ 52 (by omega)]
  have a2 : (d2 >>> 12 ||| d3 <<< 14 ||| d4 <<< 40).toNat = d2.toNat / 4096 + d3.toNat * 2 ^ 14 + d4.toNat % 16777216 * 2 ^ 40 := by
    rw [BitVec.toNat_or, BitVec.toNat_or, shl_mod d3 14 (by decide), shl_mod d4 40 (by decide), BitVec.toNat_ushiftRight, Nat.shiftRight_eq_div_pow, Nat.mod_eq_of_lt (a := d3.toNat) (by omega), or_lo _ _ 14 (by omega), or_lo _ _ 40 (by omega)]
  rw [lo_leN, lo_leN, a1, a2, show (16 : Nat) = 8 + 8 from rfl, leN_app]
  have e8 : (256 : Nat) ^ 8 = 18446744073709551616 := by decide
  rw [V5_5, P130] at c1
  congr 1
  · apply leN_congr
    rw [e8, ← c1]
    omega
  · apply leN_congr
    rw [e8, ← c1]
    omega
/-- The number of a text's pieces, in five digits. -/
def agP (r : Ds) (s : Tx) : Nat → Ds
  | 0 => Z5
  | m + 1 => tms (pls (agP r s m) (enD (chk s m))) r
theorem agP_len (r : Ds) (s : Tx) : ∀ m, (agP r s m).length = 5
  | 0 => rfl
  | m + 1 => tms_len _ _
def tgP (key s : Tx) : Tx := wrD (pls (lst (agP (rdn (clP (key.take 16))) s (Nc s))) (rdn (key.drop 16)))
theorem agP_ok (r : Ds) (hr : Lt 67108864 r) (hrl : r.length = 5) (s : Tx) : ∀ m, Ok5 (agP r s m) ∧ V5 (agP r s m) % PP = polyN (V5 r) s m % PP
  | 0 => ⟨⟨rfl, show Lt _ [0, 0, 0, 0, 0] from Lt5_of (by decide), show V5 [0, 0, 0, 0, 0] < P130 by decide⟩, rfl⟩
  | m + 1 => by
    obtain ⟨h1, h2⟩ := agP_ok r hr hrl s m
    obtain ⟨p1, p2, p3⟩ := enD_ok (chk s m) (chk_len s m)
    obtain ⟨a1, a2, a3⟩ := pls_ok h1.1 p3 h1.2.1 p2 (by decide)
    obtain ⟨t1, t2⟩ := tms_ok a3 hrl (a2.mono (by decide)) hr
    refine ⟨t1, ?_⟩
    show V5 (tms (pls (agP r s m) (enD (chk s m))) r) % PP = _
    rw [t2, a1, p1, polyN, Nat.mod_mod, Nat.mul_mod, Nat.add_mod, h2, ← Nat.add_mod, ← Nat.mul_mod]
theorem P130_16 (s : Tx) (h : s.length = 16) : numS s < P130 := by
  have h1 := numS_lt s
  rw [h] at h1
  have e2 : (256 : Nat) ^ 16 = 340282366920938463463374607431768211456 := by decide
  rw [e2] at h1
  rw [P130]
  omega
theorem tgP_ok (key s : Tx) (h : key.length = 32) : tgP key s = tagD key s := by
  have hk : (key.take 16).length = 16 := by rw [List.length_take]; omega
  have hd : (key.drop 16).length = 16 := by rw [List.length_drop]; omega
  have hcl : clP (key.take 16) = clamp key := clP_clN _ hk
  have hc16 : (clP (key.take 16)).length = 16 := (clP_len _).trans hk
  obtain ⟨r1, r2, r3⟩ := rdn_ok (clP (key.take 16)) (.inl hc16) (P130_16 _ hc16)
  obtain ⟨g1, g2⟩ := agP_ok (rdn (clP (key.take 16))) r2 r3 s (Nc s)
  obtain ⟨l1, l2, l3⟩ := lst_ok g1
  obtain ⟨k1, k2, k3⟩ := rdn_ok (key.drop 16) (.inl hd) (P130_16 _ hd)
  obtain ⟨a1, a2, a3⟩ := pls_ok l3 k3 l2 k2 (by decide)
  rw [tagD_ok]
  unfold tgP tagN
  rw [wrD_ok a3 (a2.mono (by decide)), a1, l1, k1, g2, r1, hcl]
end Go.Proofs.YtgjhkfafmmkimaaDoor
