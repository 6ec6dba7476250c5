/-
  aead: the bytes of a block, and the words that it is made of. No statement is proved here.
-/
import Derived.Test.YtgjhkfafmmkimaaDoorAfA
namespace Go.Proofs.YtgjhkfafmmkimaaDoor
open Go.RowKit
set_option linter.unusedVariables false
set_option linter.unusedSimpArgs false
set_option maxRecDepth 100000

def F4 (X : Ws → Ws) (lo : BitVec 64 → Nat → Tx) : Env := ⟨G, noT.add 35 (cMixed X), noC.add 36 (cPack lo)⟩
theorem f4_ok : EnvOk Tryd.prog (F4 mxd lo) := ⟨PT.add_ok (noT_ok _ _) mixed_ok, CT.add_ok (noC_ok _ _) pack_ok⟩
structure S23 where
  j : Nat
  cap : Nat
  x : Tx
def M23 (w : Ws) (x : Tx) : Mm := [⟨false, .ints MX⟩, ⟨true, .a32 w⟩, ⟨true, .a8 x⟩]
def i23 (y : Ws) (i : S23) : List (Nat × SV) := [(2, .ptr 1 0), (5, .sl 2 0 (4 * i.j) i.cap), (12, .a32 y), (13, .i (i.j : Nat))]
def o23 (cap : Nat) : List (Nat × SV) := [(5, .sl 2 0 64 cap)]
def got23 (i : S23) (fr : List SV) (M : Mm) : Option S23 := match fr with
  | _ :: _ :: _ :: _ :: _ :: SV.sl k _ _ cap :: _ => match M[k]? with
    | some ⟨_, .a8 x⟩ => some ⟨i.j + 1, cap, x⟩
    | _ => none
  | _ => none
def vL23 (w y : Ws) (p : Nat → Tx → Prop) (fr : List SV) (M : Mm) (K : Ko) : Prop := vLe G fr M 27 (i23 y ⟨0, 64, List.replicate 64 0⟩) (M23 w (List.replicate 64 0)) (∀ cap x, p cap x → frK 27 (o23 cap) fun fr1 => K .normal fr1 (M23 w x))
def L23 (w y : Ws) (p : Nat → Tx → Prop) : LT := noL.add 0 (vL23 w y p)
theorem vc23 (X : Ws → Ws) (lo : BitVec 64 → Nat → Tx) (w w1 y : Ws) (n : BitVec 32) (p : Nat → Tx → Prop) (K : SV → Mm → Prop) : (vf Tryd.prog (F4 X lo) (L23 w1 y p) 23 [.a32 w, .w32 n] G K) = (bif Nat.blt (12 : Nat) (List.length w) then bif (List.set w (12 : Nat) n).length.beq (16 : Nat) then bif (List.set w (12 : Nat) n).length.beq (16 : Nat) then loopOf Tryd.prog (23 : Nat) (0 : Nat) = loopOf Tryd.prog (23 : Nat) (0 : Nat) ∧ SV.ptr (1 : Nat) (0 : Nat) = SV.ptr (1 : Nat) (0 : Nat) ∧ SV.sl ((0 : Nat) + (1 : Nat) + (1 : Nat)) (0 : Nat) (0 : Nat) (64 : Nat) = SV.sl (2 : Nat) (0 : Nat) (0 : Nat) (64 : Nat) ∧ SV.a32 (X (List.set w (12 : Nat) n)) = SV.a32 y ∧ SV.i (0 : Int) = SV.i (↑(0 : Nat) : Int) ∧ (false = false ∧ Cont.ints MX = Cont.ints MX) ∧ (true = true ∧ Cont.a32 (List.set w (12 : Nat) n) = Cont.a32 w1) ∧ (true = true ∧ Cont.a8 (List.replicate (64 : Nat) (0 : BitVec (8 : Nat))) = Cont.a8 (List.replicate (64 : Nat) (0 : BitVec (8 : Nat)))) ∧ ∀ (cap : Nat) (x : Tx), p cap x → K (SV.sl (2 : Nat) (0 : Nat) (64 : Nat) cap) (M23 w1 x) else False else False else False) := by kernel_rfl
theorem vr23 (X : Ws → Ws) (lo : BitVec 64 → Nat → Tx) (w y : Ws) (i : S23) (a : S23 → Prop) (q : Prop) : (frK 27 (i23 y i) fun fr => vround Tryd.prog (F4 X lo) noL 23 0 fr (M23 w i.x) (Ks G 0 27 (got23 i) [1, 3] a (i23 y) (fun i => M23 w i.x) q (o23 i.cap) (M23 w i.x))) = (bif ilt (↑i.j : Int) (16 : Int) then bif (List.length y).beq (16 : Nat) && inR (↑i.j : Int) (16 : Nat) then bif inR (↑i.j : Int) (16 : Nat) then bif i.j.blt (List.length w) then bif decide ((4 : Nat) * i.j ≤ i.cap) && (decide (List.length i.x = i.cap) && decide ((4 : Nat) * i.j + (8 : Nat) ≤ (1099511627776 : Nat))) then ∀ (cap' : Nat) (rest : List (BitVec (8 : Nat))), (4 : Nat) * i.j + (4 : Nat) + rest.length = cap' → bif inI ((↑i.j : Int) + (1 : Int)) then a { j := i.j + (1 : Nat), cap := cap', x := List.take ((4 : Nat) * i.j) i.x ++ lo (BitVec.setWidth (64 : Nat) (List.getD w i.j (0 : BitVec (32 : Nat)) + List.getD y i.j (0 : BitVec (32 : Nat)))) (4 : Nat) ++ rest } ∧ SV.ptr (1 : Nat) (0 : Nat) = ren (sig (1 : Nat) [(1 : Nat), (3 : Nat)]) (SV.ptr (1 : Nat) (0 : Nat)) ∧ SV.sl (List.length (M23 w i.x)) (0 : Nat) ((4 : Nat) * i.j + (4 : Nat)) cap' = ren (sig (1 : Nat) [(1 : Nat), (3 : Nat)]) (SV.sl (2 : Nat) (0 : Nat) ((4 : Nat) * (i.j + (1 : Nat))) cap') ∧ SV.a32 y = ren (sig (1 : Nat) [(1 : Nat), (3 : Nat)]) (SV.a32 y) ∧ SV.i ((↑i.j : Int) + (1 : Int)) = ren (sig (1 : Nat) [(1 : Nat), (3 : Nat)]) (SV.i (↑(i.j + (1 : Nat)) : Int)) ∧ (false = false ∧ Cont.ints MX = Cont.ren (sig (1 : Nat) [(1 : Nat), (3 : Nat)]) (Cont.ints MX)) ∧ (true = true ∧ Cont.a32 w = Cont.ren (sig (1 : Nat) [(1 : Nat), (3 : Nat)]) (Cont.a32 w)) ∧ (true = true ∧ Cont.a8 (List.take ((4 : Nat) * i.j) i.x ++ lo (BitVec.setWidth (64 : Nat) (List.getD w i.j (0 : BitVec (32 : Nat)) + List.getD y i.j (0 : BitVec (32 : Nat)))) (4 : Nat) ++ rest) = Cont.ren (sig (1 : Nat) [(1 : Nat), (3 : Nat)]) (Cont.a8 (List.take ((4 : Nat) * i.j) i.x ++ lo (BitVec.setWidth (64 : Nat) (List.getD w i.j (0 : BitVec (32 : Nat)) + List.getD y i.j (0 : BitVec (32 : Nat)))) (4 : Nat) ++ rest))) ∧ True else False else False else False else False else False else (0 : Nat) = (0 : Nat) ∧ q ∧ SV.sl (2 : Nat) (0 : Nat) ((4 : Nat) * i.j) i.cap = SV.sl (2 : Nat) (0 : Nat) (64 : Nat) i.cap ∧ (false = false ∧ Cont.ints MX = Cont.ints MX) ∧ (true = true ∧ Cont.a32 w = Cont.a32 w) ∧ (true = true ∧ Cont.a8 i.x = Cont.a8 i.x) ∧ True) := by kernel_rfl
theorem vc21 (key nonce : Tx) (K : SV → Mm → Prop) : (vf Tryd.prog E0 noL 21 [.s key, .s nonce] G K) = (bif ((↑(List.length key) : Int) == (32 : Int)) == true then bif ((↑(List.length key) : Int) == (32 : Int)) == true then bif ((↑(List.length key) : Int) == (32 : Int)) == true then K (SV.b (bif (↑(List.length key) : Int) == (32 : Int) then (↑(List.length nonce) : Int) == (12 : Int) else false)) G else bif !(↑(List.length key) : Int) == (32 : Int) then K (SV.b false) G else False else bif ((↑(List.length key) : Int) == (32 : Int)) == true then False else bif !(↑(List.length key) : Int) == (32 : Int) then K (SV.b false) G else False else bif ((↑(List.length key) : Int) == (32 : Int)) == true then False else bif ((↑(List.length key) : Int) == (32 : Int)) == true then False else bif !(↑(List.length key) : Int) == (32 : Int) then K (SV.b false) G else False) := by kernel_rfl
def Mly (x : Ws) : Mm := [⟨false, .ints MX⟩, ⟨true, .a32 (List.replicate 16 0)⟩, ⟨true, .a32 x⟩]
def ily (s : Tx) (j : Nat) : List (Nat × SV) := [(4, .ptr 1 0), (5, .ptr 2 0), (6, .s s), (14, .i (s.length : Nat)), (15, .i (j : Nat))]
def oly : List (Nat × SV) := [(4, .ptr 1 0), (5, .ptr 2 0)]
def Lly (s : Tx) (y : Ws) : LT := noL.add 0 (vLoop G 34 (ily s 0) (Mly (List.replicate 16 0)) oly (Mly y))
theorem vcly (key nonce s : Tx) (y : Ws) (K : SV → Mm → Prop) : (vf Tryd.prog E0 (Lly s y) 22 [.s key, .s nonce] G K) = (bif ile (↑((16 : Nat) + List.length key) : Int) (9223372036854775807 : Int) then bif ile (↑((bts { data := #[(101 : UInt8), (120 : UInt8), (112 : UInt8), (97 : UInt8), (110 : UInt8), (100 : UInt8), (32 : UInt8), (51 : UInt8), (50 : UInt8), (45 : UInt8), (98 : UInt8), (121 : UInt8), (116 : UInt8), (101 : UInt8), (32 : UInt8), (107 : UInt8)] } ++ key).length + (4 : Nat)) : Int) (9223372036854775807 : Int) then bif ile (↑((bts { data := #[(101 : UInt8), (120 : UInt8), (112 : UInt8), (97 : UInt8), (110 : UInt8), (100 : UInt8), (32 : UInt8), (51 : UInt8), (50 : UInt8), (45 : UInt8), (98 : UInt8), (121 : UInt8), (116 : UInt8), (101 : UInt8), (32 : UInt8), (107 : UInt8)] } ++ key ++ bts { data := #[(0 : UInt8), (0 : UInt8), (0 : UInt8), (0 : UInt8)] }).length + List.length nonce) : Int) (9223372036854775807 : Int) then loopOf Tryd.prog (22 : Nat) (0 : Nat) = loopOf Tryd.prog (22 : Nat) (0 : Nat) ∧ SV.ptr (1 : Nat) (0 : Nat) = SV.ptr (1 : Nat) (0 : Nat) ∧ SV.ptr (2 : Nat) (0 : Nat) = SV.ptr (2 : Nat) (0 : Nat) ∧ SV.s (bts { data := #[(101 : UInt8), (120 : UInt8), (112 : UInt8), (97 : UInt8), (110 : UInt8), (100 : UInt8), (32 : UInt8), (51 : UInt8), (50 : UInt8), (45 : UInt8), (98 : UInt8), (121 : UInt8), (116 : UInt8), (101 : UInt8), (32 : UInt8), (107 : UInt8)] } ++ key ++ bts { data := #[(0 : UInt8), (0 : UInt8), (0 : UInt8), (0 : UInt8)] } ++ nonce) = SV.s s ∧ SV.i (↑(bts { data := #[(101 : UInt8), (120 : UInt8), (112 : UInt8), (97 : UInt8), (110 : UInt8), (100 : UInt8), (32 : UInt8), (51 : UInt8), (50 : UInt8), (45 : UInt8), (98 : UInt8), (121 : UInt8), (116 : UInt8), (101 : UInt8), (32 : UInt8), (107 : UInt8)] } ++ key ++ bts { data := #[(0 : UInt8), (0 : UInt8), (0 : UInt8), (0 : UInt8)] } ++ nonce).length : Int) = SV.i (↑(List.length s) : Int) ∧ SV.i (0 : Int) = SV.i (↑(0 : Nat) : Int) ∧ (false = false ∧ Cont.ints MX = Cont.ints MX) ∧ (true = true ∧ Cont.a32 (List.replicate (16 : Nat) (0 : BitVec (32 : Nat))) = Cont.a32 (List.replicate (16 : Nat) (0 : BitVec (32 : Nat)))) ∧ (true = true ∧ Cont.a32 (List.replicate (16 : Nat) (0 : BitVec (32 : Nat))) = Cont.a32 (List.replicate (16 : Nat) (0 : BitVec (32 : Nat)))) ∧ bif (List.length y).beq (16 : Nat) then bif (List.length y).beq (16 : Nat) && (List.length y).beq (16 : Nat) then bif (List.length y).beq (16 : Nat) && true then K (SV.a32 y) [{ rw := false, c := Cont.ints MX }, { rw := true, c := Cont.a32 y }, { rw := true, c := Cont.a32 y }] else False else False else False else False else False else False) := by kernel_rfl
theorem vrly (s : Tx) (x x1 z : Ws) (j : Nat) (p : Prop) : (frK 34 (ily s j) fun fr => vround Tryd.prog E0 noL 22 0 fr (Mly x) (Kn G 0 34 p (ily s (j + 1)) (Mly x1) oly (Mly z))) = (bif ilt (↑j : Int) (↑(List.length s) : Int) then bif inI (↑j : Int) then bif inR ((↑j : Int).tdiv (4 : Int)) (16 : Nat) then bif ((↑j : Int).tdiv (4 : Int)).toNat.blt (List.length x) then bif inR (↑j : Int) (List.length s) then bif inI ((↑j : Int).tmod (4 : Int) * (8 : Int)) then bif inR ((↑j : Int).tdiv (4 : Int)) (16 : Nat) then bif ((↑j : Int).tdiv (4 : Int)).toNat.blt (List.length x) then bif inI ((↑j : Int) + (1 : Int)) then p ∧ SV.ptr (1 : Nat) (0 : Nat) = SV.ptr (1 : Nat) (0 : Nat) ∧ SV.ptr (2 : Nat) (0 : Nat) = SV.ptr (2 : Nat) (0 : Nat) ∧ SV.s s = SV.s s ∧ SV.i (↑(List.length s) : Int) = SV.i (↑(List.length s) : Int) ∧ SV.i ((↑j : Int) + (1 : Int)) = SV.i (↑(j + (1 : Nat)) : Int) ∧ (false = false ∧ Cont.ints MX = Cont.ints MX) ∧ (true = true ∧ Cont.a32 (List.replicate (16 : Nat) (0 : BitVec (32 : Nat))) = Cont.a32 (List.replicate (16 : Nat) (0 : BitVec (32 : Nat)))) ∧ (true = true ∧ Cont.a32 (List.set x ((↑j : Int).tdiv (4 : Int)).toNat (List.getD x ((↑j : Int).tdiv (4 : Int)).toNat (0 : BitVec (32 : Nat)) ||| BitVec.setWidth (32 : Nat) (List.getD s j (0 : BitVec (8 : Nat))) <<< ((↑j : Int).tmod (4 : Int) * (8 : Int)).toNat)) = Cont.a32 x1) ∧ True else False else False else False else False else False else False else False else False else (0 : Nat) = (0 : Nat) ∧ SV.ptr (1 : Nat) (0 : Nat) = SV.ptr (1 : Nat) (0 : Nat) ∧ SV.ptr (2 : Nat) (0 : Nat) = SV.ptr (2 : Nat) (0 : Nat) ∧ (false = false ∧ Cont.ints MX = Cont.ints MX) ∧ (true = true ∧ Cont.a32 (List.replicate (16 : Nat) (0 : BitVec (32 : Nat))) = Cont.a32 (List.replicate (16 : Nat) (0 : BitVec (32 : Nat)))) ∧ (true = true ∧ Cont.a32 x = Cont.a32 z) ∧ True) := by kernel_rfl
/-- The bytes of the sums of words. -/
def obS (w y : Ws) (n : Nat) : Tx := (List.range n).flatMap fun i => lo ((w.getD i 0 + y.getD i 0).setWidth 64) 4
theorem obS_succ (w y : Ws) (n : Nat) : obS w y (n + 1) = obS w y n ++ lo ((w.getD n 0 + y.getD n 0).setWidth 64) 4 := by
  unfold obS; rw [List.range_succ, List.flatMap_append]; simp
theorem obS_len (w y : Ws) : ∀ n, (obS w y n).length = 4 * n
  | 0 => rfl
  | n + 1 => by rw [obS_succ, List.length_append, obS_len w y n, lo_len]; omega
def p23 (w y : Ws) (i : S23) : Prop := i.j ≤ 16 ∧ i.x.length = i.cap ∧ ∃ rest, i.x = obS w y i.j ++ rest
def P23 (w y : Ws) (cap : Nat) (x : Tx) : Prop := x.length = cap ∧ ∃ rest, x = obS w y 16 ++ rest
theorem loop23 (w y : Ws) (hw : w.length = 16) (hy : y.length = 16) : LOk Tryd.prog G G 23 (L23 w y (P23 w y)) := by
  refine LT.add_ok (noL_ok _ _ _ _) fun fr M K hh => ?_
  obtain ⟨h0, hK⟩ := vLe_ok hh
  refine loop_sel f4_ok mixed (noL_ok _ _ _ _) (Nat.le_refl _) (by kernel_rfl) (i23 y) (fun i => M23 w i.x) (p23 w y) (fun i => 16 - i.j) got23 (fun _ => [1, 3]) (fun i => i.j = 16) (fun i => o23 i.cap) (fun i => M23 w i.x) ⟨0, 64, List.replicate 64 0⟩ ⟨by decide, by simp, List.replicate 64 0, rfl⟩ (fun i hp => of_eq (vr23 mxd lo w y i _ _) ?_) h0 (fun i hp hq => ?_)
  · obtain ⟨j, c, x⟩ := i
    obtain ⟨hj, hx, rest, hr⟩ := hp
    dsimp only at hj hx hr ⊢
    rw [hw, hy]
    cases hc : ilt (j : Int) 16
    · have hj2 : j = 16 := by rw [ilt_eq] at hc; have := of_decide_eq_false hc; omega
      subst hj2
      exact ⟨rfl, rfl, rfl, ⟨rfl, rfl⟩, ⟨rfl, rfl⟩, ⟨rfl, rfl⟩, trivial⟩
    · have hj2 : j < 16 := by rw [ilt_eq] at hc; have := of_decide_eq_true hc; omega
      have hl := obS_len w y j
      have hcl : 4 * j ≤ c := by rw [← hx, hr, List.length_append, hl]; omega
      have ht : x.take (4 * j) = obS w y j := by rw [hr, List.take_append_of_le_length (by omega), List.take_of_length_le (by omega)]
      rw [ht]
      refine bif_of (by rw [inR_nat hj2]; rfl) (bif_of (inR_nat hj2) (bif_of (blt_of hj2) (bif_of ?_ fun cap' rest' hc' => bif_of (inI_iff.2 (by omega)) ?_)))
      · simp; omega
      · refine ⟨⟨⟨by show j + 1 ≤ 16; omega, ?_, rest', ?_⟩, by show 16 - (j + 1) < 16 - j; omega⟩, rfl, rfl, rfl, rfl, ⟨rfl, rfl⟩, ⟨rfl, rfl⟩, ⟨rfl, rfl⟩, trivial⟩
        · dsimp only
          rw [List.length_append, List.length_append, hl, lo_len]; exact hc'
        · dsimp only
          rw [obS_succ]
  · obtain ⟨j, c, x⟩ := i
    obtain ⟨hj, hx, rest, hr⟩ := hp
    obtain rfl : j = 16 := hq
    have := hK c x ⟨hx, rest, hr⟩
    rw [frK_eq] at this
    exact this
/-- The bytes of a block of words, and its number. -/
def blB (w : Ws) (n : BitVec 32) : Tx := obS (w.set 12 n) (mxd (w.set 12 n)) 16
theorem blB_len (w : Ws) (n : BitVec 32) : (blB w n).length = 64 := obS_len _ _ _
def cBlock (B : Ws → BitVec 32 → Tx) : List SV → Mm → (SV → Mm → Prop) → Prop
  | [.a32 w, .w32 n], M, K => vsome (Nat.beq w.length 16) <|
      ∀ (cap' : Nat) (rest : List (BitVec 8)), 64 + rest.length = cap' → snocK M ⟨true, .a8 (B w n ++ rest)⟩ fun M2 => K (.sl M.length 0 64 cap') M2
  | _, _, _ => False
theorem block_ok : COk Tryd.prog G 23 (cBlock blB) := by
  intro args M K h
  unfold cBlock at h
  split at h
  · rename_i w n
    obtain ⟨hb, hh⟩ := vsome_iff.1 h
    have hl := Nat.eq_of_beq_eq_true hb
    have hw1 : (w.set 12 n).length = 16 := by rw [List.length_set, hl]
    refine eff_of (R := []) (args0 := [.a32 w, .w32 n]) (K0 := fun r M => ∃ i : Nat × Tx, 64 + i.2.length = i.1 ∧ r = .sl 1 0 64 i.1 ∧ M = Bn (blB w n ++ i.2)) [] (Spec.selE (rs := fun _ => [2]) (Nat.le_refl _) (fun _ => rfl) (vf_ok (M := G) f4_ok mixed (loop23 (w.set 12 n) (mxd (w.set 12 n)) hw1 ((mxd_len _).trans hw1)) (of_eq (vc23 mxd lo w (w.set 12 n) (mxd (w.set 12 n)) n _ _) ?_))) rfl rfl List.nodup_nil trivial ?_
    · rw [hw1, hl]
      refine ⟨rfl, rfl, rfl, rfl, rfl, ⟨rfl, rfl⟩, ⟨rfl, rfl⟩, ⟨rfl, rfl⟩, fun cap x hx => ?_⟩
      obtain ⟨hx, rest, rfl⟩ := hx
      refine ⟨(cap, rest), ?_, rfl, ⟨rfl, rfl⟩, ⟨rfl, rfl⟩, trivial⟩
      rw [List.length_append, obS_len] at hx
      exact hx
    · rintro r1 M1 ⟨⟨cap', rest⟩, hc, rfl, rfl⟩
      have := hh cap' rest hc
      rw [snocK_eq] at this
      exact this
  · exact h.elim
def cFits : List SV → List Cont → Option (Bool × SV)
  | [.s key, .s nonce], _ => some (true, .b (Nat.beq key.length 32 && Nat.beq nonce.length 12))
  | _, _ => none
theorem fits_ok : POk Tryd.prog G 21 cFits := by
  intro args acs r h β M w hR hw ha
  unfold cFits at h
  split at h
  · rename_i key nonce
    simp only [Option.some.injEq, Prod.mk.injEq, true_and] at h
    subst h
    refine pure0 (vf_ok e0_ok mixed (noL_ok _ _ _ _) (of_eq (vc21 key nonce _) ?_)) rfl rfl hR
    have e : ∀ (a b : Nat), ((a : Int) == (b : Int)) = Nat.beq a b := fun a b => by
      rw [Bool.eq_iff_iff, beq_iff_eq, Nat.beq_eq]; omega
    rw [show ((key.length : Int) == 32) = Nat.beq key.length 32 from e _ 32, show ((nonce.length : Int) == 12) = Nat.beq nonce.length 12 from e _ 12]
    cases Nat.beq key.length 32 <;> rfl
  · cases h
/-- The words that bytes are, byte by byte. -/
def lyS (s : Tx) : Nat → Ws
  | 0 => List.replicate 16 0
  | j + 1 => (lyS s j).set (j / 4) ((lyS s j).getD (j / 4) 0 ||| (s.getD j 0).setWidth 32 <<< (j % 4 * 8))
theorem lyS_len (s : Tx) : ∀ j, (lyS s j).length = 16
  | 0 => List.length_replicate ..
  | j + 1 => by rw [lyS, List.length_set, lyS_len s j]
theorem loopLy (s : Tx) (hs : s.length = 64) : LOk Tryd.prog G G 22 (Lly s (lyS s 64)) := by
  refine LT.add_ok (noL_ok _ _ _ _) (loop_next e0_ok mixed (noL_ok _ _ _ _) (Nat.le_refl _) (by kernel_rfl) (ily s) (fun j => Mly (lyS s j)) (fun j => j ≤ 64) (fun j => 64 - j) (fun j => j + 1) 0 (Nat.zero_le _) (fun j hj => of_eq (vrly s (lyS s j) (lyS s (j + 1)) (lyS s 64) j _) ?_))
  rw [lyS_len, hs]
  cases hq : ilt (j : Int) ((64 : Nat) : Int)
  · have hj2 : j = 64 := by rw [ilt_eq] at hq; have := of_decide_eq_false hq; omega
    subst hj2
    exact ⟨rfl, rfl, rfl, ⟨rfl, rfl⟩, ⟨rfl, rfl⟩, ⟨rfl, rfl⟩, trivial⟩
  · have hj2 : j < 64 := by rw [ilt_eq] at hq; have := of_decide_eq_true hq; omega
    have e2 : (j : Int).tdiv 4 = ((j / 4 : Nat) : Int) := tdiv_cast j 4
    have e3 : (j : Int).tmod 4 = ((j % 4 : Nat) : Int) := tmod_cast j 4
    have e4 : (((j % 4 : Nat) : Int) * 8).toNat = j % 4 * 8 := by omega
    rw [e2, e3, e4, Int.toNat_natCast]
    have hk : j / 4 < 16 := by omega
    refine bif_of (inI_iff.2 (by omega)) (bif_of (inR_nat hk) (bif_of (blt_of hk) (bif_of (inR_nat hj2) (bif_of (inI_iff.2 (by omega)) (bif_of (inR_nat hk) (bif_of (blt_of hk) (bif_of (inI_iff.2 (by omega)) ?_)))))))
    exact ⟨⟨by omega, by omega⟩, rfl, rfl, rfl, congrArg SV.i (by omega), congrArg SV.i (by omega), ⟨rfl, rfl⟩, ⟨rfl, rfl⟩, ⟨rfl, rfl⟩, trivial⟩
def lyT (key nonce : Tx) : Tx := bts { data := #[101, 120, 112, 97, 110, 100, 32, 51, 50, 45, 98, 121, 116, 101, 32, 107] } ++ key ++ bts { data := #[0, 0, 0, 0] } ++ nonce
theorem lyT_len (key nonce : Tx) : (lyT key nonce).length = 20 + key.length + nonce.length := by
  unfold lyT
  have e : (bts { data := #[101, 120, 112, 97, 110, 100, 32, 51, 50, 45, 98, 121, 116, 101, 32, 107] }).length = 16 := by decide
  have e2 : (bts { data := #[0, 0, 0, 0] }).length = 4 := by decide
  simp only [List.length_append, e, e2]
  omega
def lyW (key nonce : Tx) : Ws := lyS (lyT key nonce) 64
theorem lyW_len (key nonce : Tx) : (lyW key nonce).length = 16 := lyS_len _ _
def cLay (Y : Tx → Tx → Ws) : List SV → List Cont → Option (Bool × SV)
  | [.s key, .s nonce], _ => some (Nat.beq key.length 32 && Nat.beq nonce.length 12, .a32 (Y key nonce))
  | _, _ => none
theorem lay_ok : POk Tryd.prog G 22 (cLay lyW) := by
  intro args acs r h β M w hR hw ha
  unfold cLay at h
  split at h
  · rename_i key nonce
    simp only [Option.some.injEq, Prod.mk.injEq, Bool.and_eq_true] at h
    obtain ⟨⟨h1, h2⟩, rfl⟩ := h
    have h1 := Nat.eq_of_beq_eq_true h1
    have h2 := Nat.eq_of_beq_eq_true h2
    have hs : (lyT key nonce).length = 64 := by rw [lyT_len, h1, h2]
    have e : (bts { data := #[101, 120, 112, 97, 110, 100, 32, 51, 50, 45, 98, 121, 116, 101, 32, 107] }).length = 16 := by decide
    have e2 : (bts { data := #[0, 0, 0, 0] }).length = 4 := by decide
    refine pure0 (vf_ok e0_ok mixed (loopLy _ hs) (of_eq (vcly key nonce (lyT key nonce) (lyS (lyT key nonce) 64) _) ?_)) rfl rfl hR
    refine bif_of (by rw [ile_eq]; exact decide_eq_true (by omega)) (bif_of (by rw [ile_eq, List.length_append, e]; exact decide_eq_true (by omega)) (bif_of (by rw [ile_eq, List.length_append, List.length_append, e, e2]; exact decide_eq_true (by omega)) ?_))
    rw [lyS_len]
    exact ⟨rfl, rfl, rfl, rfl, rfl, rfl, ⟨rfl, rfl⟩, ⟨rfl, rfl⟩, ⟨rfl, rfl⟩, rfl⟩
  · cases h
end Go.Proofs.YtgjhkfafmmkimaaDoor
