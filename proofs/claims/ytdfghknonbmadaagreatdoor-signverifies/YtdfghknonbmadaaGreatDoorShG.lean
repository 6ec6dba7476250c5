/-
  sha: the digest of texts, as the program reckons it. No statement is proved here.
-/
import Derived.Test.YtdfghknonbmadaaGreatDoorShF
import Derived.Test.YtdfghknonbmadaaGreatDoorOrD
namespace Go.Proofs.YtdfghknonbmadaaGreatDoor
namespace Sh
open Go.RowKit
set_option linter.unusedVariables false
set_option linter.unusedSimpArgs false
set_option maxRecDepth 100000
def B7 (pre : List Value) (l : List (List (BitVec 8))) : Mm := [⟨false, .a64 BEG⟩, ⟨false, .a64 PRI⟩, ⟨false, .a64 CON⟩, ⟨false, .a64 WHO⟩, ⟨false, .a64 ROM⟩, ⟨false, .strs pre l⟩]
def M7 (pre : List Value) (l : List (List (BitVec 8))) (x : St) : Mm := [⟨false, .a64 BEG⟩, ⟨false, .a64 PRI⟩, ⟨false, .a64 CON⟩, ⟨false, .a64 WHO⟩, ⟨false, .a64 ROM⟩, ⟨false, .strs pre l⟩, ⟨true, .a64 x.h.l⟩, ⟨true, .a8 x.b⟩, ⟨true, .row [.w64 x.c]⟩]
def N7 (x : St) : Mm := [⟨false, .a64 BEG⟩, ⟨false, .a64 PRI⟩, ⟨false, .a64 CON⟩, ⟨false, .a64 WHO⟩, ⟨false, .a64 ROM⟩, ⟨true, .a64 x.h.l⟩, ⟨true, .a8 x.b⟩, ⟨true, .row [.w64 x.c]⟩]
def p7 : List (Nat × SV) := [(3, .ptr 6 0), (4, .ptr 7 0), (5, .ptr 8 0), (6, .fn 75 [.ptr 7 0, .ptr 8 0, .ptr 6 0])]
def z7 : List (Nat × SV) := [(3, .ptr 5 0), (4, .ptr 6 0), (5, .ptr 7 0), (6, .fn 75 [.ptr 6 0, .ptr 7 0, .ptr 5 0])]
def i7 (off len cap j : Nat) : List (Nat × SV) := (11, .sl 5 off len cap) :: (12, .i (len : Nat)) :: (13, .i (j : Nat)) :: p7
def y7 (a : Option Addr) (c : Nat) : List (Nat × SV) := (11, .v (.slice a 0 c)) :: (12, .i 0) :: (13, .i 0) :: z7
def h0 : S8 := ⟨H0.getD 0 0, H0.getD 1 0, H0.getD 2 0, H0.getD 3 0, H0.getD 4 0, H0.getD 5 0, H0.getD 6 0, H0.getD 7 0⟩
def x0 : St := ⟨List.replicate 128 0, 0, h0⟩
def L7 (pre : List Value) (l : List (List (BitVec 8))) (off len cap : Nat) (x0 fin : St) : LT := noL.add 0 (vLoop (B7 pre l) 27 (i7 off len cap 0) (M7 pre l x0) p7 (M7 pre l fin))
def Z7 (a : Option Addr) (c : Nat) (x0 : St) : LT := noL.add 0 (vLoop G 27 (y7 a c) (N7 x0) z7 (N7 x0))
theorem vc7 (pre : List Value) (l : List (List (BitVec 8))) (off len cap : Nat) (x0 fin : St) (K : SV → Mm → Prop) : (vf Tryz.prog E6 (L7 pre l off len cap x0 fin) 38 [.sl 5 off len cap] (B7 pre l) K) = (loopOf Tryz.prog 38 0 = loopOf Tryz.prog 38 0 ∧ SV.ptr (List.length (B7 pre l)) 0 = SV.ptr 6 0 ∧ SV.ptr (0 + 1 + 1 + 1 + 1 + 1 + 1 + 1) 0 = SV.ptr 7 0 ∧ SV.ptr (0 + 1 + 1 + 1 + 1 + 1 + 1 + 1 + 1) 0 = SV.ptr 8 0 ∧ SV.fn 75 [SV.ptr (0 + 1 + 1 + 1 + 1 + 1 + 1 + 1) 0, SV.ptr (0 + 1 + 1 + 1 + 1 + 1 + 1 + 1 + 1) 0, SV.ptr (List.length (B7 pre l)) 0] = SV.fn 75 [SV.ptr 7 0, SV.ptr 8 0, SV.ptr 6 0] ∧ SV.sl 5 off len cap = SV.sl 5 off len cap ∧ SV.i (↑len : Int) = SV.i (↑len : Int) ∧ SV.i 0 = SV.i (↑0 : Int) ∧ (false = false ∧ Cont.a64 BEG = Cont.a64 BEG) ∧ (false = false ∧ Cont.a64 PRI = Cont.a64 PRI) ∧ (false = false ∧ Cont.a64 CON = Cont.a64 CON) ∧ (false = false ∧ Cont.a64 WHO = Cont.a64 WHO) ∧ (false = false ∧ Cont.a64 ROM = Cont.a64 ROM) ∧ (false = false ∧ Cont.strs pre l = Cont.strs pre l) ∧ (true = true ∧ Cont.a64 BEG = Cont.a64 x0.h.l) ∧ (true = true ∧ Cont.a8 (List.replicate 128 0) = Cont.a8 x0.b) ∧ (true = true ∧ Cont.row [SV.w64 0] = Cont.row [SV.w64 x0.c]) ∧ bif fin.b.length.beq 128 && (ends fin.c).length.ble 1099511627776 then K (SV.s (wr (fd { b := fin.b, c := fin.c, h := fin.h } (ends fin.c)).h)) [{ rw := false, c := Cont.a64 BEG }, { rw := false, c := Cont.a64 PRI }, { rw := false, c := Cont.a64 CON }, { rw := false, c := Cont.a64 WHO }, { rw := false, c := Cont.a64 ROM }, { rw := false, c := Cont.strs pre l }, { rw := true, c := Cont.a64 (fd { b := fin.b, c := fin.c, h := fin.h } (ends fin.c)).h.l }, { rw := true, c := Cont.a8 (fd { b := fin.b, c := fin.c, h := fin.h } (ends fin.c)).b }, { rw := true, c := Cont.row [SV.w64 (fd { b := fin.b, c := fin.c, h := fin.h } (ends fin.c)).c] }] else False) := by kernel_rfl
theorem vr7 (pre : List Value) (l : List (List (BitVec 8))) (off len cap j : Nat) (x x' fin : St) (a : Prop) : (frK 27 (i7 off len cap j) fun fr => vround Tryz.prog E6 noL 38 0 fr (M7 pre l x) (Kn (B7 pre l) 0 27 a (i7 off len cap (j + 1)) (M7 pre l x') p7 (M7 pre l fin))) = (bif ilt (↑j : Int) (↑len : Int) then bif inR (↑j : Int) len then bif pre.length.ble (j + off) && (j + off).blt (pre.length + l.length) then bif x.b.length.beq 128 && (l.getD (j + off - pre.length) []).length.ble 1099511627776 then bif inI ((↑j : Int) + 1) then a ∧ SV.ptr 6 0 = SV.ptr 6 0 ∧ SV.ptr 7 0 = SV.ptr 7 0 ∧ SV.ptr 8 0 = SV.ptr 8 0 ∧ SV.fn 75 [SV.ptr 7 0, SV.ptr 8 0, SV.ptr 6 0] = SV.fn 75 [SV.ptr 7 0, SV.ptr 8 0, SV.ptr 6 0] ∧ SV.sl 5 off len cap = SV.sl 5 off len cap ∧ SV.i (↑len : Int) = SV.i (↑len : Int) ∧ SV.i ((↑j : Int) + 1) = SV.i (↑(j + 1) : Int) ∧ (false = false ∧ Cont.a64 BEG = Cont.a64 BEG) ∧ (false = false ∧ Cont.a64 PRI = Cont.a64 PRI) ∧ (false = false ∧ Cont.a64 CON = Cont.a64 CON) ∧ (false = false ∧ Cont.a64 WHO = Cont.a64 WHO) ∧ (false = false ∧ Cont.a64 ROM = Cont.a64 ROM) ∧ (false = false ∧ Cont.strs pre l = Cont.strs pre l) ∧ (true = true ∧ Cont.a64 (fd { b := x.b, c := x.c, h := x.h } (l.getD (j + off - pre.length) [])).h.l = Cont.a64 x'.h.l) ∧ (true = true ∧ Cont.a8 (fd { b := x.b, c := x.c, h := x.h } (l.getD (j + off - pre.length) [])).b = Cont.a8 x'.b) ∧ (true = true ∧ Cont.row [SV.w64 (fd { b := x.b, c := x.c, h := x.h } (l.getD (j + off - pre.length) [])).c] = Cont.row [SV.w64 x'.c]) ∧ True else False else False else False else False else 0 = 0 ∧ SV.ptr 6 0 = SV.ptr 6 0 ∧ SV.ptr 7 0 = SV.ptr 7 0 ∧ SV.ptr 8 0 = SV.ptr 8 0 ∧ SV.fn 75 [SV.ptr 7 0, SV.ptr 8 0, SV.ptr 6 0] = SV.fn 75 [SV.ptr 7 0, SV.ptr 8 0, SV.ptr 6 0] ∧ (false = false ∧ Cont.a64 BEG = Cont.a64 BEG) ∧ (false = false ∧ Cont.a64 PRI = Cont.a64 PRI) ∧ (false = false ∧ Cont.a64 CON = Cont.a64 CON) ∧ (false = false ∧ Cont.a64 WHO = Cont.a64 WHO) ∧ (false = false ∧ Cont.a64 ROM = Cont.a64 ROM) ∧ (false = false ∧ Cont.strs pre l = Cont.strs pre l) ∧ (true = true ∧ Cont.a64 x.h.l = Cont.a64 fin.h.l) ∧ (true = true ∧ Cont.a8 x.b = Cont.a8 fin.b) ∧ (true = true ∧ Cont.row [SV.w64 x.c] = Cont.row [SV.w64 fin.c]) ∧ True) := by kernel_rfl
theorem vc7z (a : Option Addr) (c : Nat) (x0 : St) (K : SV → Mm → Prop) : (vf Tryz.prog E6 (Z7 a c x0) 38 [.v (.slice a 0 c)] G K) = (loopOf Tryz.prog 38 0 = loopOf Tryz.prog 38 0 ∧ SV.ptr 5 0 = SV.ptr 5 0 ∧ SV.ptr 6 0 = SV.ptr 6 0 ∧ SV.ptr 7 0 = SV.ptr 7 0 ∧ SV.fn 75 [SV.ptr 6 0, SV.ptr 7 0, SV.ptr 5 0] = SV.fn 75 [SV.ptr 6 0, SV.ptr 7 0, SV.ptr 5 0] ∧ SV.v (Value.slice a 0 c) = SV.v (Value.slice a 0 c) ∧ SV.i (↑0 : Int) = SV.i 0 ∧ SV.i 0 = SV.i 0 ∧ (false = false ∧ Cont.a64 BEG = Cont.a64 BEG) ∧ (false = false ∧ Cont.a64 PRI = Cont.a64 PRI) ∧ (false = false ∧ Cont.a64 CON = Cont.a64 CON) ∧ (false = false ∧ Cont.a64 WHO = Cont.a64 WHO) ∧ (false = false ∧ Cont.a64 ROM = Cont.a64 ROM) ∧ (true = true ∧ Cont.a64 BEG = Cont.a64 x0.h.l) ∧ (true = true ∧ Cont.a8 (List.replicate 128 0) = Cont.a8 x0.b) ∧ (true = true ∧ Cont.row [SV.w64 0] = Cont.row [SV.w64 x0.c]) ∧ bif x0.b.length.beq 128 && (ends x0.c).length.ble 1099511627776 then K (SV.s (wr (fd { b := x0.b, c := x0.c, h := x0.h } (ends x0.c)).h)) [{ rw := false, c := Cont.a64 BEG }, { rw := false, c := Cont.a64 PRI }, { rw := false, c := Cont.a64 CON }, { rw := false, c := Cont.a64 WHO }, { rw := false, c := Cont.a64 ROM }, { rw := true, c := Cont.a64 (fd { b := x0.b, c := x0.c, h := x0.h } (ends x0.c)).h.l }, { rw := true, c := Cont.a8 (fd { b := x0.b, c := x0.c, h := x0.h } (ends x0.c)).b }, { rw := true, c := Cont.row [SV.w64 (fd { b := x0.b, c := x0.c, h := x0.h } (ends x0.c)).c] }] else False) := by kernel_rfl
theorem vr7z (d : Option Addr) (c : Nat) (x x' : St) (a : Prop) : (frK 27 (y7 d c) fun fr => vround Tryz.prog E6 noL 38 0 fr (N7 x) (Kn G 0 27 a (y7 d c) (N7 x') z7 (N7 x))) = (0 = 0 ∧ SV.ptr 5 0 = SV.ptr 5 0 ∧ SV.ptr 6 0 = SV.ptr 6 0 ∧ SV.ptr 7 0 = SV.ptr 7 0 ∧ SV.fn 75 [SV.ptr 6 0, SV.ptr 7 0, SV.ptr 5 0] = SV.fn 75 [SV.ptr 6 0, SV.ptr 7 0, SV.ptr 5 0] ∧ (false = false ∧ Cont.a64 BEG = Cont.a64 BEG) ∧ (false = false ∧ Cont.a64 PRI = Cont.a64 PRI) ∧ (false = false ∧ Cont.a64 CON = Cont.a64 CON) ∧ (false = false ∧ Cont.a64 WHO = Cont.a64 WHO) ∧ (false = false ∧ Cont.a64 ROM = Cont.a64 ROM) ∧ (true = true ∧ Cont.a64 x.h.l = Cont.a64 x.h.l) ∧ (true = true ∧ Cont.a8 x.b = Cont.a8 x.b) ∧ (true = true ∧ Cont.row [SV.w64 x.c] = Cont.row [SV.w64 x.c]) ∧ True) := by kernel_rfl
theorem h0_l : h0.l = H0 := by kernel_rfl
def tak (l : List (List (BitVec 8))) : St := l.foldl fd x0
def dOf (l : List (List (BitVec 8))) : List (BitVec 8) := wr (fd (tak l) (ends (tak l).c)).h
theorem tak_blen : ∀ (l : List (List (BitVec 8))) (x : St), x.b.length = 128 → (l.foldl fd x).b.length = 128
 | [], x, h => h
 | s :: l, x, h => tak_blen l _ (fd_blen x s h)
theorem ends_len (c : BitVec 64) : (ends c).length ≤ 256 := by
 have := zs_val c
 unfold ends
 simp only [List.length_append, List.length_take, by64_len]
 omega
theorem tak_succ (l : List (List (BitVec 8))) (j : Nat) (h : j < l.length) : tak (l.take (j + 1)) = fd (tak (l.take j)) (l.getD j []) := by
 unfold tak
 rw [List.take_add_one, getD_get [] h, Option.toList_some, List.foldl_append]
 rfl
def okL (l : List (List (BitVec 8))) : Bool := l.all fun s => Nat.ble s.length 1099511627776
theorem getD_drop' {α : Type} (l : List α) (d : α) (off j : Nat) : (l.drop off).getD j d = l.getD (j + off) d := by
 rw [List.getD_eq_getElem?_getD, List.getElem?_drop, ← List.getD_eq_getElem?_getD, Nat.add_comm]
theorem getD_take' {α : Type} (l : List α) (d : α) (n j : Nat) (h : j < n) : (l.take n).getD j d = l.getD j d := by
 rw [List.getD_eq_getElem?_getD, List.getElem?_take_of_lt h, ← List.getD_eq_getElem?_getD]
theorem loop7 (pre : List Value) (l : List (List (BitVec 8))) (off len cap : Nat) (h0 : pre.length ≤ off) (h1 : off + len ≤ pre.length + l.length) (h2 : len ≤ 1099511627776) (h3 : okL ((l.drop (off - pre.length)).take len) = true) : LOk Tryz.prog G (B7 pre l) 38 (L7 pre l off len cap x0 (tak ((l.drop (off - pre.length)).take len))) := by
 have hL : ((l.drop (off - pre.length)).take len).length = len := by simp; omega
 refine LT.add_ok (noL_ok _ _ _ _) (loop_next e6_ok mixed (noL_ok _ _ _ _) (by show 5 ≤ 6; decide) (by kernel_rfl) (fun j => i7 off len cap j) (fun j => M7 pre l (tak (((l.drop (off - pre.length)).take len).take j))) (fun j => j ≤ len) (fun j => len - j) (fun j => j + 1) 0 (Nat.zero_le _) fun j hj => of_eq (vr7 pre l off len cap j _ _ _ _) ?_)
 have hb : (tak (((l.drop (off - pre.length)).take len).take j)).b.length = 128 := tak_blen _ _ rfl
 cases hc : ilt (j : Int) (len : Int)
 ·have hj2 : j = len := by rw [ilt_eq] at hc; have := of_decide_eq_false hc; omega
  subst hj2
  rw [show List.take j (List.take j (List.drop (off - pre.length) l)) = List.take j (List.drop (off - pre.length) l) by rw [List.take_take, Nat.min_self]]
  simp
 ·have hj2 : j < len := by rw [ilt_eq] at hc; have := of_decide_eq_true hc; omega
  have e : ((l.drop (off - pre.length)).take len).getD j [] = l.getD (j + off - pre.length) [] := by rw [getD_take' _ _ _ _ hj2, getD_drop', show j + off - pre.length = j + (off - pre.length) by omega]
  have hs : Nat.ble (l.getD (j + off - pre.length) []).length 1099511627776 = true := by
   rw [← e]
   refine (List.all_eq_true.1 h3) _ ?_
   rw [List.getD_eq_getElem?_getD, List.getElem?_eq_getElem (by omega)]
   exact List.getElem_mem _
  rw [tak_succ _ j (by omega), e]
  refine bif_of (inR_nat hj2) (bif_of (by rw [Bool.and_eq_true]; exact ⟨Nat.ble_eq_true_of_le (by omega), blt_of (by omega)⟩) (bif_of (by rw [hb, hs]; rfl) (bif_of (inI_iff.2 (by omega)) ?_)))
  refine ⟨⟨by omega, by omega⟩, ?_⟩
  simp
theorem loop7z (d : Option Addr) (c : Nat) (x : St) : LOk Tryz.prog G G 38 (Z7 d c x) := by
 refine LT.add_ok (noL_ok _ _ _ _) (loop_next e6_ok mixed (noL_ok _ _ _ _) (Nat.le_refl _) (by kernel_rfl) (fun _ : Unit => y7 d c) (fun _ => N7 x) (fun _ => True) (fun _ => 0) id () trivial fun j hj => of_eq (vr7z d c x x _) ?_)
 simp
def cOf (D : List (List (BitVec 8)) → List (BitVec 8)) : List SV → List Cont → Option (Bool × SV)
 | [.sl k off len cap], [.strs pre l] => some (Nat.ble pre.length off && (Nat.ble (off + len) (pre.length + l.length) && (Nat.ble len 1099511627776 && okL ((l.drop (off - pre.length)).take len))), .s (D ((l.drop (off - pre.length)).take len)))
 | [.v (.slice _ 0 _)], _ => some (true, .s (D []))
 | _, _ => none
theorem of_ok : POk Tryz.prog G 38 (cOf dOf) := by
 intro args acs r h β M w hR hw ha
 unfold cOf at h
 split at h
 ·rename_i k off len cap pre l
  simp only [Option.some.injEq, Prod.mk.injEq, Bool.and_eq_true] at h
  obtain ⟨⟨h0, h1, h2, h3⟩, rfl⟩ := h
  have h0 := Nat.le_of_ble_eq_true h0
  have h1 := Nat.le_of_ble_eq_true h1
  have h2 := Nat.le_of_ble_eq_true h2
  simp only [List.map_cons, List.map_nil, List.cons.injEq, and_true] at ha
  refine pure1 (args0 := [.sl 5 off len cap]) (c := .strs pre l) (k := k) (vf_ok (M := B7 pre l) e6_ok mixed (loop7 pre l off len cap h0 h1 h2 h3) (of_eq (vc7 pre l off len cap _ _ _) ?_)) rfl rfl rfl rfl rfl (fun _ => rfl) hR (tgt_some ha.symm rfl)
  refine ⟨rfl, rfl, rfl, rfl, rfl, rfl, rfl, rfl, ⟨rfl, rfl⟩, ⟨rfl, rfl⟩, ⟨rfl, rfl⟩, ⟨rfl, rfl⟩, ⟨rfl, rfl⟩, ⟨rfl, rfl⟩, ⟨rfl, congrArg Cont.a64 h0_l.symm⟩, ⟨rfl, rfl⟩, ⟨rfl, rfl⟩, bif_of ?_ rfl⟩
  rw [show (tak (List.take len (List.drop (off - pre.length) l))).b.length = 128 from tak_blen _ _ rfl]
  exact Nat.ble_eq_true_of_le (Nat.le_trans (ends_len _) (by decide))
 ·rename_i d c
  simp only [Option.some.injEq, Prod.mk.injEq, true_and] at h
  subst h
  refine pure0 (vf_ok e6_ok mixed (loop7z d c x0) (of_eq (vc7z d c _ _) ?_)) rfl rfl hR
  refine ⟨rfl, rfl, rfl, rfl, rfl, rfl, rfl, rfl, ⟨rfl, rfl⟩, ⟨rfl, rfl⟩, ⟨rfl, rfl⟩, ⟨rfl, rfl⟩, ⟨rfl, rfl⟩, ⟨rfl, congrArg Cont.a64 h0_l.symm⟩, ⟨rfl, rfl⟩, ⟨rfl, rfl⟩, ?_⟩
  rfl
 ·cases h
end Sh
end Go.Proofs.YtdfghknonbmadaaGreatDoor
namespace Go.Proofs.YtdfghknonbmadaaGreatDoor
open Go.RowKit
set_option linter.unusedVariables false
set_option linter.unusedSimpArgs false
set_option maxRecDepth 100000
def c1Y (x : Tx8) : Tx8 := x.set 0 (x.getD 0 0 &&& ~~~BitVec.ofInt 8 7)
def c2Y (x : Tx8) : Tx8 := x.set 31 (x.getD 31 0 &&& ~~~BitVec.ofInt 8 128)
def c3Y (x : Tx8) : Tx8 := x.set 31 (x.getD 31 0 ||| BitVec.ofInt 8 64)
def clX (x : Tx8) : Tx8 := c3Y (c2Y (c1Y x))
theorem clamp_e (s : Tx8) (K : SV → Prop) : vf Tryz.prog E00 noL 39 [.s s] GE (fun r _ => K r) = (bif (s.length : Int) != 32 then K (.tup [.s [], .i 2]) else ∀ (cap : Nat) (x : Tx8), s.length ≤ cap → x = s ++ List.replicate (cap - s.length) 0 → bif inR 0 s.length then bif Nat.blt 0 x.length then bif inR 0 s.length then bif Nat.blt 0 x.length then bif inR 31 s.length then bif Nat.blt 31 (c1Y x).length then bif inR 31 s.length then bif Nat.blt 31 (c1Y x).length then bif inR 31 s.length then bif Nat.blt 31 (c2Y (c1Y x)).length then bif inR 31 s.length then bif Nat.blt 31 (c2Y (c1Y x)).length then bif decide (0 + s.length ≤ (clX x).length) then K (.tup [.s (List.take s.length (List.drop 0 (clX x))), .i 0]) else False else False else False else False else False else False else False else False else False else False else False else False else False) := by kernel_rfl
theorem set_app (s r : Tx8) (k : Nat) (v : BitVec 8) (hk : k < s.length) : (s ++ r).set k v = s.set k v ++ r := List.set_append_left _ _ hk
theorem get_app (s r : Tx8) (k : Nat) (hk : k < s.length) : (s ++ r).getD k 0 = s.getD k 0 := by
 rw [List.getD_eq_getElem?_getD, List.getElem?_append_left hk, ← List.getD_eq_getElem?_getD]
theorem clX_app (s r : Tx8) (hs : s.length = 32) : clX (s ++ r) = clX s ++ r := by
 unfold clX c3Y c2Y c1Y
 rw [get_app s r 0 (by omega), set_app s r 0 _ (by omega), get_app _ r 31 (by rw [List.length_set]; omega), set_app _ r 31 _ (by rw [List.length_set]; omega), get_app _ r 31 (by rw [List.length_set, List.length_set]; omega), set_app _ r 31 _ (by rw [List.length_set, List.length_set]; omega)]
theorem clX_len (s : Tx8) : (clX s).length = s.length := by simp [clX, c3Y, c2Y, c1Y]
def cCl (C : Tx8 → Tx8) : List SV → List Cont → Option (Bool × SV)
 | [.s l], _ => some (Nat.beq l.length 32, .tup [.s (C l), .i 0])
 | _, _ => none
theorem clamp_ok : POk Tryz.prog GE 39 (cCl clX) := by
 intro args acs r hh β M w hR hw ha
 unfold cCl at hh
 split at hh
 ·rename_i s
  simp only [Option.some.injEq, Prod.mk.injEq] at hh
  obtain ⟨h1, rfl⟩ := hh
  have hl := Nat.eq_of_beq_eq_true h1
  refine pokE (E := E00) rfl e00_ok (clamp_e s fun r => r = .tup [.s (clX s), .i 0]) ?_ rfl rfl hR
  rw [nb_of hl]
  intro cap x hc hx
  subst hx
  have i0 : inR 0 s.length = true := inR_iff.2 ⟨by omega, by omega⟩
  have i1 : inR 31 s.length = true := inR_iff.2 ⟨by omega, by omega⟩
  have j0 : Nat.blt 0 (s ++ List.replicate (cap - s.length) 0).length = true := blt_of (by simp; omega)
  have j1 : Nat.blt 31 (c1Y (s ++ List.replicate (cap - s.length) 0)).length = true := blt_of (by simp [c1Y]; omega)
  have j2 : Nat.blt 31 (c2Y (c1Y (s ++ List.replicate (cap - s.length) 0))).length = true := blt_of (by simp [c1Y, c2Y]; omega)
  refine bif_of i0 (bif_of j0 (bif_of i0 (bif_of j0 (bif_of i1 (bif_of j1 (bif_of i1 (bif_of j1 (bif_of i1 (bif_of j2 (bif_of i1 (bif_of j2 (bif_of (decide_eq_true (by rw [clX_len]; simp)) ?_))))))))))))
  rw [clX_app s _ hl, List.drop_zero, List.take_left' (clX_len s)]
 ·cases hh
def Ebt (N : W6 → Bool) (Q : W6) (W : W6 → Tx8) (F : W6 → W6 → Tx8 → Tx8 → W6) : Env := ⟨GE, (((noT.add 61 (cNo N)).add 67 (cK0 (p16 Q))).add 46 (cWr W)).add 66 (cBo N F), noC⟩
def btF (Q : W6) (W : W6 → Tx8) (F : W6 → W6 → Tx8 → Tx8 → W6) (p a b : W6) : W6 := F p (p16 Q) (W a) (W b)
theorem bothP_e (N : W6 → Bool) (Q : W6) (W : W6 → Tx8) (F : W6 → W6 → Tx8 → Tx8 → W6) (x y z t a b : W6) : vf Tryz.prog (Ebt N Q W F) noL 32 [.a64 (p4 x y z t), .a64 (w4 a), .a64 (w4 b)] GE (fun r _ => r = .a64 (p16 (btF Q W F (p4 x y z t) (w4 a) (w4 b)))) = (bif !N (p4 x y z t) then bif (!N (p4 x y z t) && (!N (p16 Q) && (Nat.beq (W (w4 a)).length 32 && Nat.beq (W (w4 b)).length 32))) then SV.a64 (p16 (btF Q W F (p4 x y z t) (w4 a) (w4 b))) = SV.a64 (p16 (btF Q W F (p4 x y z t) (w4 a) (w4 b))) else False else False) := by kernel_rfl
def cBt (N : W6 → Bool) (F : W6 → W6 → W6 → W6) : List SV → List Cont → Option (Bool × SV)
 | [.a64 p, .a64 [a, b, c, d], .a64 [e, f, g, h]], _ => some (Nat.beq p.length 16 && !N p, .a64 (p16 (F p [a, b, c, d] [e, f, g, h])))
 | _, _ => none
theorem bothP_gen (N : W6 → Bool) (Q : W6) (W : W6 → Tx8) (F : W6 → W6 → Tx8 → Tx8 → W6) (hQ : N (p16 Q) = false) (hW : ∀ l, (W l).length = 32) (hE : EnvOk Tryz.prog (Ebt N Q W F)) : POk Tryz.prog GE 32 (cBt N (btF Q W F)) := by
 intro args acs r hh β M w hR hw ha
 unfold cBt at hh
 split at hh
 ·rename_i p a' b' c' d' e' f' g' h'
  simp only [Option.some.injEq, Prod.mk.injEq, Bool.and_eq_true] at hh
  obtain ⟨⟨h1, h3⟩, rfl⟩ := hh
  obtain ⟨a, b, c, d, e, f, g, i, j, k, l, m, n, o, q, r, rfl⟩ := ex16 (Nat.eq_of_beq_eq_true h1)
  refine pokE (E := Ebt N Q W F) rfl hE (bothP_e N Q W F [a, b, c, d] [e, f, g, i] [j, k, l, m] [n, o, q, r] [a', b', c', d'] [e', f', g', h']) (bif_of h3 (bif_of ?_ rfl)) rfl rfl hR
  rw [show (!N (p4 [a, b, c, d] [e, f, g, i] [j, k, l, m] [n, o, q, r])) = true from h3, hQ, hW, hW]
  rfl
 ·cases hh
def c1k (K : Tx8 → W6) : List SV → List Cont → Option (Bool × SV)
 | [.s l], _ => some (Nat.beq l.length 32 || Nat.beq l.length 64, .a64 (w4 (K l)))
 | _, _ => none
def Eko (K : Tx8 → W6) : Env := ⟨GE, noT.add 60 (cKo K), noC⟩
theorem knownS_e (K : Tx8 → W6) (l : Tx8) : vf Tryz.prog (Eko K) noL 29 [.s l] GE (fun r _ => r = .a64 (w4 (K l))) = (bif Nat.beq l.length 32 || Nat.beq l.length 64 then SV.a64 (w4 (K l)) = SV.a64 (w4 (K l)) else False) := by kernel_rfl
theorem eko_ok : EnvOk Tryz.prog (Eko ofX) := ⟨PT.add_ok (noT_ok _ _) ofO_ok, noC_ok _ _⟩
theorem knownS_ok : POk Tryz.prog GE 29 (c1k ofX) := by
 intro args acs r hh β M w hR hw ha
 unfold c1k at hh
 split at hh
 ·rename_i l
  simp only [Option.some.injEq, Prod.mk.injEq] at hh
  obtain ⟨h1, rfl⟩ := hh
  exact pokE (E := Eko ofX) rfl eko_ok (knownS_e ofX l) (bif_of h1 rfl) rfl rfl hR
 ·cases hh
def Etm (Z : W6) (N : W6 → Bool) (F : W6 → W6 → W6 → W6) : Env := ⟨GE, (noT.add 59 (cK0 (p16 Z))).add 32 (cBt N F), noC⟩
theorem times_e' (Z : W6) (N : W6 → Bool) (F : W6 → W6 → W6 → W6) (a b c d : B6) : vf Tryz.prog (Etm Z N F) noL 28 [.a64 [a, b, c, d]] GE (fun r _ => r = .a64 (p16 (F (p16 Z) [0, 0, 0, 0] [a, b, c, d]))) = (bif !N (p16 Z) then SV.a64 (p16 (F (p16 Z) [0, 0, 0, 0] [a, b, c, d])) = SV.a64 (p16 (F (p16 Z) [0, 0, 0, 0] [a, b, c, d])) else False) := by kernel_rfl
def cTm (T : W6 → W6) : List SV → List Cont → Option (Bool × SV)
 | [.a64 [a, b, c, d]], _ => some (true, .a64 (p16 (T [a, b, c, d])))
 | _, _ => none
def tmF (Z : W6) (F : W6 → W6 → W6 → W6) (a : W6) : W6 := F (p16 Z) [0, 0, 0, 0] a
theorem times_gen (Z : W6) (N : W6 → Bool) (F : W6 → W6 → W6 → W6) (hZ : N (p16 Z) = false) (hE : EnvOk Tryz.prog (Etm Z N F)) : POk Tryz.prog GE 28 (cTm (tmF Z F)) := by
 intro args acs r hh β M w hR hw ha
 unfold cTm at hh
 split at hh
 ·rename_i a b c d
  simp only [Option.some.injEq, Prod.mk.injEq, true_and] at hh
  subst hh
  exact pokE (E := Etm Z N F) rfl hE (times_e' Z N F a b c d) (bif_of (by rw [hZ]; rfl) rfl) rfl rfl hR
 ·cases hh
def Ewk (N : W6 → Bool) (D : W6 → W6) (Z : W6) (E : W6 → W6 → Bool) : Env := ⟨GE, ((noT.add 58 (cA1 N D)).add 59 (cK0 (p16 Z))).add 30 (cAb N E), noC⟩
def wkF (D : W6 → W6) (Z : W6) (E : W6 → W6 → Bool) (p : W6) : Bool := E (p16 (D (p16 (D (p16 (D p)))))) (p16 Z)
theorem weak_e (N : W6 → Bool) (D : W6 → W6) (Z : W6) (E : W6 → W6 → Bool) (x y z t : W6) : vf Tryz.prog (Ewk N D Z E) noL 26 [.a64 (p4 x y z t)] GE (fun r _ => r = .b (wkF D Z E (p4 x y z t))) = (bif !N (p4 x y z t) then bif !N (p16 (D (p4 x y z t))) then bif !N (p16 (D (p16 (D (p4 x y z t))))) then bif (!N (p16 (D (p16 (D (p16 (D (p4 x y z t))))))) && !N (p16 Z)) then SV.b (wkF D Z E (p4 x y z t)) = SV.b (wkF D Z E (p4 x y z t)) else False else False else False else False) := by kernel_rfl
def cWk (N : W6 → Bool) (D : W6 → W6) (F : W6 → Bool) : List SV → List Cont → Option (Bool × SV)
 | [.a64 p], _ => some (Nat.beq p.length 16 && (!N p && (!N (p16 (D p)) && (!N (p16 (D (p16 (D p)))) && !N (p16 (D (p16 (D (p16 (D p))))))))), .b (F p))
 | _, _ => none
theorem weak_gen (N : W6 → Bool) (D : W6 → W6) (Z : W6) (E : W6 → W6 → Bool) (hZ : N (p16 Z) = false) (hE : EnvOk Tryz.prog (Ewk N D Z E)) : POk Tryz.prog GE 26 (cWk N D (wkF D Z E)) := by
 intro args acs r hh β M w hR hw ha
 unfold cWk at hh
 split at hh
 ·rename_i p
  simp only [Option.some.injEq, Prod.mk.injEq, Bool.and_eq_true] at hh
  obtain ⟨⟨h1, h2, h3, h4, h5⟩, rfl⟩ := hh
  obtain ⟨a, b, c, d, e, f, g, i, j, k, l, m, n, o, q, r, rfl⟩ := ex16 (Nat.eq_of_beq_eq_true h1)
  refine pokE (E := Ewk N D Z E) rfl hE (weak_e N D Z E [a, b, c, d] [e, f, g, i] [j, k, l, m] [n, o, q, r]) (bif_of h2 (bif_of h3 (bif_of h4 (bif_of ?_ rfl)))) rfl rfl hR
  rw [hZ, Bool.not_false, Bool.and_true]
  exact h5
 ·cases hh
end Go.Proofs.YtdfghknonbmadaaGreatDoor
