/-
  sha: the digest of texts, as the program reckons it. No statement is proved here.
-/
import Derived.Test.YtdejfaccoepfhaaDoorShF
namespace Go.Proofs.YtdejfaccoepfhaaDoor
open Go.RowKit
set_option linter.unusedVariables false
set_option linter.unusedSimpArgs false
set_option maxRecDepth 100000

def B7 (pre : List Value) (l : List (List (BitVec 8))) : Mm := [⟨false, .a64 H0⟩, ⟨false, .a64 K80⟩, ⟨false, .strs pre l⟩]
def M7 (pre : List Value) (l : List (List (BitVec 8))) (x : St) : Mm := [⟨false, .a64 H0⟩, ⟨false, .a64 K80⟩, ⟨false, .strs pre l⟩, ⟨true, .a64 x.h.l⟩, ⟨true, .a8 x.b⟩, ⟨true, .row [.w64 x.c]⟩]
def N7 (x : St) : Mm := [⟨false, .a64 H0⟩, ⟨false, .a64 K80⟩, ⟨true, .a64 x.h.l⟩, ⟨true, .a8 x.b⟩, ⟨true, .row [.w64 x.c]⟩]
def p7 : List (Nat × SV) := [(3, .ptr 3 0), (4, .ptr 4 0), (5, .ptr 5 0), (6, .fn 13 [.ptr 4 0, .ptr 5 0, .ptr 3 0])]
def z7 : List (Nat × SV) := [(3, .ptr 2 0), (4, .ptr 3 0), (5, .ptr 4 0), (6, .fn 13 [.ptr 3 0, .ptr 4 0, .ptr 2 0])]
def i7 (off len cap j : Nat) : List (Nat × SV) := (11, .sl 2 off len cap) :: (12, .i (len : Nat)) :: (13, .i (j : Nat)) :: p7
def y7 (a : Option Addr) (c : Nat) : List (Nat × SV) := (11, .v (.slice a 0 c)) :: (12, .i 0) :: (13, .i 0) :: z7
/-- The first words, and what is held before any text. -/
def h0 : S8 := ⟨H0.getD 0 0, H0.getD 1 0, H0.getD 2 0, H0.getD 3 0, H0.getD 4 0, H0.getD 5 0, H0.getD 6 0, H0.getD 7 0⟩
def x0 : St := ⟨List.replicate 128 0, 0, h0⟩
def L7 (pre : List Value) (l : List (List (BitVec 8))) (off len cap : Nat) (x0 fin : St) : LT := noL.add 0 (vLoop (B7 pre l) 27 (i7 off len cap 0) (M7 pre l x0) p7 (M7 pre l fin))
def Z7 (a : Option Addr) (c : Nat) (x0 : St) : LT := noL.add 0 (vLoop G 27 (y7 a c) (N7 x0) z7 (N7 x0))
theorem vc7 (pre : List Value) (l : List (List (BitVec 8))) (off len cap : Nat) (x0 fin : St) (K : SV → Mm → Prop) : (vf Tryd.prog E6 (L7 pre l off len cap x0 fin) 7 [.sl 2 off len cap] (B7 pre l) K) = (loopOf Tryd.prog 7 0 = loopOf Tryd.prog 7 0 ∧ SV.ptr (List.length (B7 pre l)) 0 = SV.ptr 3 0 ∧ SV.ptr (0 + 1 + 1 + 1 + 1) 0 = SV.ptr 4 0 ∧ SV.ptr (0 + 1 + 1 + 1 + 1 + 1) 0 = SV.ptr 5 0 ∧ SV.fn 13 [SV.ptr (0 + 1 + 1 + 1 + 1) 0, SV.ptr (0 + 1 + 1 + 1 + 1 + 1) 0, SV.ptr (List.length (B7 pre l)) 0] = SV.fn 13 [SV.ptr 4 0, SV.ptr 5 0, SV.ptr 3 0] ∧ SV.sl 2 off len cap = SV.sl 2 off len cap ∧ SV.i (↑len : Int) = SV.i (↑len : Int) ∧ SV.i 0 = SV.i (↑0 : Int) ∧ (false = false ∧ Cont.a64 H0 = Cont.a64 H0) ∧ (false = false ∧ Cont.a64 K80 = Cont.a64 K80) ∧ (false = false ∧ Cont.strs pre l = Cont.strs pre l) ∧ (true = true ∧ Cont.a64 H0 = Cont.a64 x0.h.l) ∧ (true = true ∧ Cont.a8 (List.replicate 128 0) = Cont.a8 x0.b) ∧ (true = true ∧ Cont.row [SV.w64 0] = Cont.row [SV.w64 x0.c]) ∧ bif fin.b.length.beq 128 && (ends fin.c).length.ble 1099511627776 then K (SV.s (wr { a := (fd { b := fin.b, c := fin.c, h := { a := fin.h.a, b := fin.h.b, c := fin.h.c, d := fin.h.d, e := fin.h.e, f := fin.h.f, g := fin.h.g, h := fin.h.h } } (ends fin.c)).h.a, b := (fd { b := fin.b, c := fin.c, h := { a := fin.h.a, b := fin.h.b, c := fin.h.c, d := fin.h.d, e := fin.h.e, f := fin.h.f, g := fin.h.g, h := fin.h.h } } (ends fin.c)).h.b, c := (fd { b := fin.b, c := fin.c, h := { a := fin.h.a, b := fin.h.b, c := fin.h.c, d := fin.h.d, e := fin.h.e, f := fin.h.f, g := fin.h.g, h := fin.h.h } } (ends fin.c)).h.c, d := (fd { b := fin.b, c := fin.c, h := { a := fin.h.a, b := fin.h.b, c := fin.h.c, d := fin.h.d, e := fin.h.e, f := fin.h.f, g := fin.h.g, h := fin.h.h } } (ends fin.c)).h.d, e := (fd { b := fin.b, c := fin.c, h := { a := fin.h.a, b := fin.h.b, c := fin.h.c, d := fin.h.d, e := fin.h.e, f := fin.h.f, g := fin.h.g, h := fin.h.h } } (ends fin.c)).h.e, f := (fd { b := fin.b, c := fin.c, h := { a := fin.h.a, b := fin.h.b, c := fin.h.c, d := fin.h.d, e := fin.h.e, f := fin.h.f, g := fin.h.g, h := fin.h.h } } (ends fin.c)).h.f, g := (fd { b := fin.b, c := fin.c, h := { a := fin.h.a, b := fin.h.b, c := fin.h.c, d := fin.h.d, e := fin.h.e, f := fin.h.f, g := fin.h.g, h := fin.h.h } } (ends fin.c)).h.g, h := (fd { b := fin.b, c := fin.c, h := { a := fin.h.a, b := fin.h.b, c := fin.h.c, d := fin.h.d, e := fin.h.e, f := fin.h.f, g := fin.h.g, h := fin.h.h } } (ends fin.c)).h.h })) [{ rw := false, c := Cont.a64 H0 }, { rw := false, c := Cont.a64 K80 }, { rw := false, c := Cont.strs pre l }, { rw := true, c := Cont.a64 (fd { b := fin.b, c := fin.c, h := { a := fin.h.a, b := fin.h.b, c := fin.h.c, d := fin.h.d, e := fin.h.e, f := fin.h.f, g := fin.h.g, h := fin.h.h } } (ends fin.c)).h.l }, { rw := true, c := Cont.a8 (fd { b := fin.b, c := fin.c, h := { a := fin.h.a, b := fin.h.b, c := fin.h.c, d := fin.h.d, e := fin.h.e, f := fin.h.f, g := fin.h.g, h := fin.h.h } } (ends fin.c)).b }, { rw := true, c := Cont.row [SV.w64 (fd { b := fin.b, c := fin.c, h := { a := fin.h.a, b := fin.h.b, c := fin.h.c, d := fin.h.d, e := fin.h.e, f := fin.h.f, g := fin.h.g, h := fin.h.h } } (ends fin.c)).c] }] else False) := by kernel_rfl
theorem vr7 (pre : List Value) (l : List (List (BitVec 8))) (off len cap j : Nat) (x x' fin : St) (a : Prop) : (frK 27 (i7 off len cap j) fun fr => vround Tryd.prog E6 noL 7 0 fr (M7 pre l x) (Kn (B7 pre l) 0 27 a (i7 off len cap (j + 1)) (M7 pre l x') p7 (M7 pre l fin))) = (bif ilt (↑j : Int) (↑len : Int) then bif inR (↑j : Int) len then bif pre.length.ble (j + off) && (j + off).blt (pre.length + l.length) then bif x.b.length.beq 128 && (l.getD (j + off - pre.length) []).length.ble 1099511627776 then bif inI ((↑j : Int) + 1) then a ∧ SV.ptr 3 0 = SV.ptr 3 0 ∧ SV.ptr 4 0 = SV.ptr 4 0 ∧ SV.ptr 5 0 = SV.ptr 5 0 ∧ SV.fn 13 [SV.ptr 4 0, SV.ptr 5 0, SV.ptr 3 0] = SV.fn 13 [SV.ptr 4 0, SV.ptr 5 0, SV.ptr 3 0] ∧ SV.sl 2 off len cap = SV.sl 2 off len cap ∧ SV.i (↑len : Int) = SV.i (↑len : Int) ∧ SV.i ((↑j : Int) + 1) = SV.i (↑(j + 1) : Int) ∧ (false = false ∧ Cont.a64 H0 = Cont.a64 H0) ∧ (false = false ∧ Cont.a64 K80 = Cont.a64 K80) ∧ (false = false ∧ Cont.strs pre l = Cont.strs pre l) ∧ (true = true ∧ Cont.a64 (fd { b := x.b, c := x.c, h := { a := x.h.a, b := x.h.b, c := x.h.c, d := x.h.d, e := x.h.e, f := x.h.f, g := x.h.g, h := x.h.h } } (l.getD (j + off - pre.length) [])).h.l = Cont.a64 x'.h.l) ∧ (true = true ∧ Cont.a8 (fd { b := x.b, c := x.c, h := { a := x.h.a, b := x.h.b, c := x.h.c, d := x.h.d, e := x.h.e, f := x.h.f, g := x.h.g, h := x.h.h } } (l.getD (j + off - pre.length) [])).b = Cont.a8 x'.b) ∧ (true = true ∧ Cont.row [SV.w64 (fd { b := x.b, c := x.c, h := { a := x.h.a, b := x.h.b, c := x.h.c, d := x.h.d, e := x.h.e, f := x.h.f, g := x.h.g, h := x.h.h } } (l.getD (j + off - pre.length) [])).c] = Cont.row [SV.w64 x'.c]) ∧ True else False else False else False else False else 0 = 0 ∧ SV.ptr 3 0 = SV.ptr 3 0 ∧ SV.ptr 4 0 = SV.ptr 4 0 ∧ SV.ptr 5 0 = SV.ptr 5 0 ∧ SV.fn 13 [SV.ptr 4 0, SV.ptr 5 0, SV.ptr 3 0] = SV.fn 13 [SV.ptr 4 0, SV.ptr 5 0, SV.ptr 3 0] ∧ (false = false ∧ Cont.a64 H0 = Cont.a64 H0) ∧ (false = false ∧ Cont.a64 K80 = Cont.a64 K80) ∧ (false = false ∧ Cont.strs pre l = Cont.strs pre l) ∧ (true = true ∧ Cont.a64 x.h.l = Cont.a64 fin.h.l) ∧ (true = true ∧ Cont.a8 x.b = Cont.a8 fin.b) ∧ (true = true ∧ Cont.row [SV.w64 x.c] = Cont.row [SV.w64 fin.c]) ∧ True) := by kernel_rfl
theorem vc7z (a : Option Addr) (c : Nat) (x0 : St) (K : SV → Mm → Prop) : (vf Tryd.prog E6 (Z7 a c x0) 7 [.v (.slice a 0 c)] G K) = (loopOf Tryd.prog 7 0 = loopOf Tryd.prog 7 0 ∧ SV.ptr 2 0 = SV.ptr 2 0 ∧ SV.ptr 3 0 = SV.ptr 3 0 ∧ SV.ptr 4 0 = SV.ptr 4 0 ∧ SV.fn 13 [SV.ptr 3 0, SV.ptr 4 0, SV.ptr 2 0] = SV.fn 13 [SV.ptr 3 0, SV.ptr 4 0, SV.ptr 2 0] ∧ SV.v (Value.slice a 0 c) = SV.v (Value.slice a 0 c) ∧ SV.i (↑0 : Int) = SV.i 0 ∧ SV.i 0 = SV.i 0 ∧ (false = false ∧ Cont.a64 H0 = Cont.a64 H0) ∧ (false = false ∧ Cont.a64 K80 = Cont.a64 K80) ∧ (true = true ∧ Cont.a64 H0 = Cont.a64 x0.h.l) ∧ (true = true ∧ Cont.a8 (List.replicate 128 0) = Cont.a8 x0.b) ∧ (true = true ∧ Cont.row [SV.w64 0] = Cont.row [SV.w64 x0.c]) ∧ bif x0.b.length.beq 128 && (ends x0.c).length.ble 1099511627776 then K (SV.s (wr { a := (fd { b := x0.b, c := x0.c, h := { a := x0.h.a, b := x0.h.b, c := x0.h.c, d := x0.h.d, e := x0.h.e, f := x0.h.f, g := x0.h.g, h := x0.h.h } } (ends x0.c)).h.a, b := (fd { b := x0.b, c := x0.c, h := { a := x0.h.a, b := x0.h.b, c := x0.h.c, d := x0.h.d, e := x0.h.e, f := x0.h.f, g := x0.h.g, h := x0.h.h } } (ends x0.c)).h.b, c := (fd { b := x0.b, c := x0.c, h := { a := x0.h.a, b := x0.h.b, c := x0.h.c, d := x0.h.d, e := x0.h.e, f := x0.h.f, g := x0.h.g, h := x0.h.h } } (ends x0.c)).h.c, d := (fd { b := x0.b, c := x0.c, h := { a := x0.h.a, b := x0.h.b, c := x0.h.c, d := x0.h.d, e := x0.h.e, f := x0.h.f, g := x0.h.g, h := x0.h.h } } (ends x0.c)).h.d, e := (fd { b := x0.b, c := x0.c, h := { a := x0.h.a, b := x0.h.b, c := x0.h.c, d := x0.h.d, e := x0.h.e, f := x0.h.f, g := x0.h.g, h := x0.h.h } } (ends x0.c)).h.e, f := (fd { b := x0.b, c := x0.c, h := { a := x0.h.a, b := x0.h.b, c := x0.h.c, d := x0.h.d, e := x0.h.e, f := x0.h.f, g := x0.h.g, h := x0.h.h } } (ends x0.c)).h.f, g := (fd { b := x0.b, c := x0.c, h := { a := x0.h.a, b := x0.h.b, c := x0.h.c, d := x0.h.d, e := x0.h.e, f := x0.h.f, g := x0.h.g, h := x0.h.h } } (ends x0.c)).h.g, h := (fd { b := x0.b, c := x0.c, h := { a := x0.h.a, b := x0.h.b, c := x0.h.c, d := x0.h.d, e := x0.h.e, f := x0.h.f, g := x0.h.g, h := x0.h.h } } (ends x0.c)).h.h })) [{ rw := false, c := Cont.a64 H0 }, { rw := false, c := Cont.a64 K80 }, { rw := true, c := Cont.a64 (fd { b := x0.b, c := x0.c, h := { a := x0.h.a, b := x0.h.b, c := x0.h.c, d := x0.h.d, e := x0.h.e, f := x0.h.f, g := x0.h.g, h := x0.h.h } } (ends x0.c)).h.l }, { rw := true, c := Cont.a8 (fd { b := x0.b, c := x0.c, h := { a := x0.h.a, b := x0.h.b, c := x0.h.c, d := x0.h.d, e := x0.h.e, f := x0.h.f, g := x0.h.g, h := x0.h.h } } (ends x0.c)).b }, { rw := true, c := Cont.row [SV.w64 (fd { b := x0.b, c := x0.c, h := { a := x0.h.a, b := x0.h.b, c := x0.h.c, d := x0.h.d, e := x0.h.e, f := x0.h.f, g := x0.h.g, h := x0.h.h } } (ends x0.c)).c] }] else False) := by kernel_rfl
theorem vr7z (d : Option Addr) (c : Nat) (x x' : St) (a : Prop) : (frK 27 (y7 d c) fun fr => vround Tryd.prog E6 noL 7 0 fr (N7 x) (Kn G 0 27 a (y7 d c) (N7 x') z7 (N7 x))) = (0 = 0 ∧ SV.ptr 2 0 = SV.ptr 2 0 ∧ SV.ptr 3 0 = SV.ptr 3 0 ∧ SV.ptr 4 0 = SV.ptr 4 0 ∧ SV.fn 13 [SV.ptr 3 0, SV.ptr 4 0, SV.ptr 2 0] = SV.fn 13 [SV.ptr 3 0, SV.ptr 4 0, SV.ptr 2 0] ∧ (false = false ∧ Cont.a64 H0 = Cont.a64 H0) ∧ (false = false ∧ Cont.a64 K80 = Cont.a64 K80) ∧ (true = true ∧ Cont.a64 x.h.l = Cont.a64 x.h.l) ∧ (true = true ∧ Cont.a8 x.b = Cont.a8 x.b) ∧ (true = true ∧ Cont.row [SV.w64 x.c] = Cont.row [SV.w64 x.c]) ∧ True) := by kernel_rfl
theorem h0_l : h0.l = H0 := by kernel_rfl
/-- The digest of texts. -/
def tak (l : List (List (BitVec 8))) : St := l.foldl fd x0
def dOf (l : List (List (BitVec 8))) : List (BitVec 8) := wr (fd (tak l) (ends (tak l).c)).h
theorem tak_blen : ∀ (l : List (List (BitVec 8))) (x : St), x.b.length = 128 → (l.foldl fd x).b.length = 128
  | [], x, h => h
  | s :: l, x, h => tak_blen l _ (fd_blen x s h)
theorem ends_len (c : BitVec 64) : (ends c).length ≤ 256 := by
  have := zs_val c
  unfold ends
  simp only [List.length_append, List.length_take, by64_len]
  omega
theorem tak_succ (l : List (List (BitVec 8))) (j : Nat) (h : j < l.length) : tak (l.take (j + 1)) = fd (tak (l.take j)) (l.getD j []) := by
  unfold tak
  rw [List.take_add_one, getD_get [] h, Option.toList_some, List.foldl_append]
  rfl
def okL (l : List (List (BitVec 8))) : Bool := l.all fun s => Nat.ble s.length 1099511627776
theorem getD_drop' {α : Type} (l : List α) (d : α) (off j : Nat) : (l.drop off).getD j d = l.getD (j + off) d := by
  rw [List.getD_eq_getElem?_getD, List.getElem?_drop, ← List.getD_eq_getElem?_getD, Nat.add_comm]
theorem getD_take' {α : Type} (l : List α) (d : α) (n j : Nat) (h : j < n) : (l.take n).getD j d = l.getD j d := by
  rw [List.getD_eq_getElem?_getD, List.getElem?_take_of_lt h, ← List.getD_eq_getElem?_getD]
theorem loop7 (pre : List Value) (l : List (List (BitVec 8))) (off len cap : Nat) (h0 : pre.length ≤ off) (h1 : off + len ≤ pre.length + l.length) (h2 : len ≤ 1099511627776) (h3 : okL ((l.drop (off - pre.length)).take len) = true) : LOk Tryd.prog G (B7 pre l) 7 (L7 pre l off len cap x0 (tak ((l.drop (off - pre.length)).take len))) := by
  have hL : ((l.drop (off - pre.length)).take len).length = len := by simp; omega
  refine LT.add_ok (noL_ok _ _ _ _) (loop_next e6_ok mixed (noL_ok _ _ _ _) (by show 2 ≤ 3; decide) (by kernel_rfl) (fun j => i7 off len cap j) (fun j => M7 pre l (tak (((l.drop (off - pre.length)).take len).take j))) (fun j => j ≤ len) (fun j => len - j) (fun j => j + 1) 0 (Nat.zero_le _) fun j hj => of_eq (vr7 pre l off len cap j _ _ _ _) ?_)
  have hb : (tak (((l.drop (off - pre.length)).take len).take j)).b.length = 128 := tak_blen _ _ rfl
  cases hc : ilt (j : Int) (len : Int)
  · have hj2 : j = len := by rw [ilt_eq] at hc; have := of_decide_eq_false hc; omega
    subst hj2
    rw [show List.take j (List.take j (List.drop (off - pre.length) l)) = List.take j (List.drop (off - pre.length) l) by rw [List.take_take, Nat.min_self]]
    simp
  · have hj2 : j < len := by rw [ilt_eq] at hc; have := of_decide_eq_true hc; omega
    have e : ((l.drop (off - pre.length)).take len).getD j [] = l.getD (j + off - pre.length) [] := by rw [getD_take' _ _ _ _ hj2, getD_drop', show j + off - pre.length = j + (off - pre.length) by omega]
    have hs : Nat.ble (l.getD (j + off - pre.length) []).length 1099511627776 = true := by
      rw [← e]
      refine (List.all_eq_true.1 h3) _ ?_
      rw [List.getD_eq_getElem?_getD, List.getElem?_eq_getElem (by omega)]
      exact List.getElem_mem _
    rw [tak_succ _ j (by omega), e]
    refine bif_of (inR_nat hj2) (bif_of (by rw [Bool.and_eq_true]; exact ⟨Nat.ble_eq_true_of_le (by omega), blt_of (by omega)⟩) (bif_of (by rw [hb, hs]; rfl) (bif_of (inI_iff.2 (by omega)) ?_)))
    refine ⟨⟨by omega, by omega⟩, ?_⟩
    simp
theorem loop7z (d : Option Addr) (c : Nat) (x : St) : LOk Tryd.prog G G 7 (Z7 d c x) := by
  refine LT.add_ok (noL_ok _ _ _ _) (loop_next e6_ok mixed (noL_ok _ _ _ _) (Nat.le_refl _) (by kernel_rfl) (fun _ : Unit => y7 d c) (fun _ => N7 x) (fun _ => True) (fun _ => 0) id () trivial fun j hj => of_eq (vr7z d c x x _) ?_)
  simp
def cOf (D : List (List (BitVec 8)) → List (BitVec 8)) : List SV → List Cont → Option (Bool × SV)
  | [.sl k off len cap], [.strs pre l] => some (Nat.ble pre.length off && (Nat.ble (off + len) (pre.length + l.length) && (Nat.ble len 1099511627776 && okL ((l.drop (off - pre.length)).take len))), .s (D ((l.drop (off - pre.length)).take len)))
  | [.v (.slice _ 0 _)], _ => some (true, .s (D []))
  | _, _ => none
theorem of_ok : POk Tryd.prog G 7 (cOf dOf) := by
  intro args acs r h β M w hR hw ha
  unfold cOf at h
  split at h
  · rename_i k off len cap pre l
    simp only [Option.some.injEq, Prod.mk.injEq, Bool.and_eq_true] at h
    obtain ⟨⟨h0, h1, h2, h3⟩, rfl⟩ := h
    have h0 := Nat.le_of_ble_eq_true h0
    have h1 := Nat.le_of_ble_eq_true h1
    have h2 := Nat.le_of_ble_eq_true h2
    simp only [List.map_cons, List.map_nil, List.cons.injEq, and_true] at ha
    refine pure1 (args0 := [.sl 2 off len cap]) (c := .strs pre l) (k := k) (vf_ok (M := B7 pre l) e6_ok mixed (loop7 pre l off len cap h0 h1 h2 h3) (of_eq (vc7 pre l off len cap _ _ _) ?_)) rfl rfl rfl rfl rfl (fun _ => rfl) hR (tgt_some ha.symm rfl)
    refine ⟨rfl, rfl, rfl, rfl, rfl, rfl, rfl, rfl, ⟨rfl, rfl⟩, ⟨rfl, rfl⟩, ⟨rfl, rfl⟩, ⟨rfl, congrArg Cont.a64 h0_l.symm⟩, ⟨rfl, rfl⟩, ⟨rfl, rfl⟩, bif_of ?_ rfl⟩
    rw [show (tak (List.take len (List.drop (off - pre.length) l))).b.length = 128 from tak_blen _ _ rfl]
    exact Nat.ble_eq_true_of_le (Nat.le_trans (ends_len _) (by decide))
  · rename_i d c
    simp only [Option.some.injEq, Prod.mk.injEq, true_and] at h
    subst h
    refine pure0 (vf_ok e6_ok mixed (loop7z d c x0) (of_eq (vc7z d c _ _) ?_)) rfl rfl hR
    refine ⟨rfl, rfl, rfl, rfl, rfl, rfl, rfl, rfl, ⟨rfl, rfl⟩, ⟨rfl, rfl⟩, ⟨rfl, congrArg Cont.a64 h0_l.symm⟩, ⟨rfl, rfl⟩, ⟨rfl, rfl⟩, ?_⟩
    rfl
  · cases h
end Go.Proofs.YtdejfaccoepfhaaDoor
