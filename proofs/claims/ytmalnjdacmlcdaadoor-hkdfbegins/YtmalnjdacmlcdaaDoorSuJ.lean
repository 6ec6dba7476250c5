/-
  sum: the digest of texts, one behind the other, as the program reckons it. No statement is proved here.
-/
import Derived.Test.YtmalnjdacmlcdaaDoorSuI
namespace Go.Proofs.YtmalnjdacmlcdaaDoor
open Go.RowKit
set_option linter.unusedVariables false
set_option linter.unusedSimpArgs false
set_option maxRecDepth 100000

/-- A hash, nothing held yet, or so much of a block. -/
inductive HS where
  | no (h : S8) (n : BitVec 64)
  | at' (h : S8) (len : Nat) (n : BitVec 64) (b : List (BitVec 8))
def dOf (T : List (BitVec 8)) : List (BitVec 8) := wr (ab h0 (T ++ ends (BitVec.ofNat 64 T.length))).1
def heldS (T : List (BitVec 8)) : HS → Prop
  | .no h n => ab h0 T = (h, []) ∧ n = BitVec.ofNat 64 T.length
  | .at' h len n b => ab h0 T = (h, b.take len) ∧ n = BitVec.ofNat 64 T.length ∧ len < 64 ∧ b.length = 64
theorem dig_no {T : List (BitVec 8)} {h : S8} {n : BitVec 64} (hh : heldS T (.no h n)) : dig h [] n = dOf T := by
  obtain ⟨h1, rfl⟩ := hh
  unfold dig dOf
  rw [ab_app h0 T, h1]
theorem dig_at {T : List (BitVec 8)} {h : S8} {len : Nat} {n : BitVec 64} {b : List (BitVec 8)} (hh : heldS T (.at' h len n b)) : dig h (b.take len) n = dOf T := by
  obtain ⟨h1, rfl, -⟩ := hh
  unfold dig dOf
  rw [ab_app h0 T, h1]
theorem count_app (T t : List (BitVec 8)) : BitVec.ofNat 64 T.length + BitVec.ofInt 64 (t.length : Int) = BitVec.ofNat 64 (T ++ t).length := by
  rw [BitVec.ofInt_natCast, ← BitVec.ofNat_add, List.length_append]
theorem held_z {T t : List (BitVec 8)} {h : S8} {n : BitVec 64} (hh : heldS T (.no h n)) (hz : t = []) : heldS (T ++ t) (.no h (n + BitVec.ofInt 64 (t.length : Int))) := by
  subst hz
  obtain ⟨h1, rfl⟩ := hh
  refine ⟨by rw [List.append_nil]; exact h1, ?_⟩
  rw [count_app]
theorem held_n {T t : List (BitVec 8)} {h : S8} {n : BitVec 64} (hh : heldS T (.no h n)) {l : List (BitVec 8)} (hl : okB l (ab h t).2) : heldS (T ++ t) (.at' (ab h t).1 (ab h t).2.length (n + BitVec.ofInt 64 (t.length : Int)) l) := by
  obtain ⟨h1, rfl⟩ := hh
  refine ⟨?_, count_app T t, ab_lt _ _, hl.1⟩
  rw [ab_app, h1, hl.2]; rfl
theorem held_b {T t : List (BitVec 8)} {h : S8} {len : Nat} {n : BitVec 64} {b : List (BitVec 8)} (hh : heldS T (.at' h len n b)) {l : List (BitVec 8)} (hl : okB l (ab h (b.take len ++ t)).2) : heldS (T ++ t) (.at' (ab h (b.take len ++ t)).1 (ab h (b.take len ++ t)).2.length (n + BitVec.ofInt 64 (t.length : Int)) l) := by
  obtain ⟨h1, rfl, -⟩ := hh
  refine ⟨?_, count_app T t, ab_lt _ _, hl.1⟩
  rw [ab_app, h1, hl.2]
theorem held0 : heldS [] (.no h0 0) := ⟨rfl, rfl⟩
def B17 (l : List (List (BitVec 8))) : Mm := [⟨false, .a32 H0⟩, ⟨false, .a32 K64⟩, ⟨false, .strs [] l⟩]
def Mh (l : List (List (BitVec 8))) : HS → Mm
  | .no h n => [⟨false, .a32 H0⟩, ⟨false, .a32 K64⟩, ⟨false, .strs [] l⟩, ⟨true, .row (hrow h (.v (.slice none 0 0)) n)⟩]
  | .at' h len n b => [⟨false, .a32 H0⟩, ⟨false, .a32 K64⟩, ⟨false, .strs [] l⟩, ⟨true, .row (hrow h (.sl 4 0 len 64) n)⟩, ⟨true, .a8 b⟩]
structure I17 where
  j : Nat
  s : HS
def i17 (l : List (List (BitVec 8))) (j : Nat) : List (Nat × SV) := [(3, .ptr 3 0), (7, .sl 2 0 l.length l.length), (8, .i (l.length : Nat)), (9, .i (j : Nat))]
def o17 : List (Nat × SV) := [(3, .ptr 3 0)]
def sel17 (j : Nat) (fr : List SV) (M : Mm) : Option (I17 × List Nat) := match M with
  | [_, _, _, ⟨_, c⟩] => match hget c with
    | some (h, _, n) => some (⟨j + 1, .no h n⟩, [3])
    | none => none
  | [_, _, _, ⟨_, c⟩, ⟨_, .a8 b⟩] => match hget c with
    | some (h, buf, n) => match bget buf with
      | some (.at' k len) => some (⟨j + 1, .at' h len n b⟩, [3, 4])
      | _ => none
    | none => none
  | _ => none
def vL17 (l : List (List (BitVec 8))) (p : HS → Prop) (fr : List SV) (M : Mm) (K : Ko) : Prop := vLe (B17 l) fr M 19 (i17 l 0) (Mh l (.no h0 0)) ((∀ h n, p (.no h n) → frK 19 o17 fun fr1 => K .normal fr1 (Mh l (.no h n))) ∧ (∀ h len n b, p (.at' h len n b) → frK 19 o17 fun fr1 => K .normal fr1 (Mh l (.at' h len n b))))
def L17 (l : List (List (BitVec 8))) (p : HS → Prop) : LT := noL.add 0 (vL17 l p)
theorem vc17 (l : List (List (BitVec 8))) (p : HS → Prop) (K : SV → Mm → Prop) : (vf Tryd.prog E17 (L17 l p) 24 [.sl 2 0 l.length l.length] (B17 l) K) = (loopOf Tryd.prog 24 0 = loopOf Tryd.prog 24 0 ∧ SV.ptr (List.length (B17 l)) 0 = SV.ptr 3 0 ∧ SV.sl 2 0 l.length l.length = SV.sl 2 0 l.length l.length ∧ SV.i (↑l.length : Int) = SV.i (↑l.length : Int) ∧ SV.i 0 = SV.i (↑0 : Int) ∧ (false = false ∧ Cont.a32 H0 = Cont.a32 H0) ∧ (false = false ∧ Cont.a32 K64 = Cont.a32 K64) ∧ (false = false ∧ Cont.strs [] l = Cont.strs [] l) ∧ (true = true ∧ Cont.row (hrow h0 (SV.v (Value.slice none 0 0)) 0) = Cont.row (hrow h0 (SV.v (Value.slice none 0 0)) 0)) ∧ (∀ (h : S8) (n : BitVec 64), p (HS.no h n) → K (SV.s (dig h [] n)) (Mh l (HS.no h n))) ∧ ∀ (h : S8) (len : Nat) (n : BitVec 64) (b : List (BitVec 8)), p (HS.at' h len n b) → bif len.blt 64 && b.length.beq 64 then K (SV.s (dig h (List.take len b) n)) (Mh l (HS.at' h len n b)) else False) := by kernel_rfl
theorem vr17n (l : List (List (BitVec 8))) (j : Nat) (h : S8) (n : BitVec 64) (a : I17 → Prop) (q : Prop) : (frK 19 (i17 l j) fun fr => vround Tryd.prog E17 noL 24 0 fr (Mh l (.no h n)) (Kp (B17 l) 0 19 (sel17 j) a (fun i => i17 l i.j) (fun i => Mh l i.s) q o17 (Mh l (.no h n)))) = (bif ilt (↑j : Int) (↑l.length : Int) then bif inR (↑j : Int) l.length then bif j.blt (0 + l.length) then bif ile (↑(l.getD j []).length : Int) 0 then bif inI ((↑j : Int) + 1) then a { j := j + 1, s := HS.no h (n + BitVec.ofInt 64 (↑(l.getD j []).length : Int)) } ∧ SV.ptr 3 0 = ren (sig (List.length (B17 l)) [3]) (SV.ptr 3 0) ∧ SV.sl 2 0 l.length l.length = ren (sig (List.length (B17 l)) [3]) (SV.sl 2 0 l.length l.length) ∧ SV.i (↑l.length : Int) = ren (sig (List.length (B17 l)) [3]) (SV.i (↑l.length : Int)) ∧ SV.i ((↑j : Int) + 1) = ren (sig (List.length (B17 l)) [3]) (SV.i (↑(j + 1) : Int)) ∧ (false = false ∧ Cont.a32 H0 = Cont.ren (sig (List.length (B17 l)) [3]) (Cont.a32 H0)) ∧ (false = false ∧ Cont.a32 K64 = Cont.ren (sig (List.length (B17 l)) [3]) (Cont.a32 K64)) ∧ (false = false ∧ Cont.strs [] l = Cont.ren (sig (List.length (B17 l)) [3]) (Cont.strs [] l)) ∧ (true = true ∧ Cont.row (hrow h (SV.v (Value.slice none 0 0)) (n + BitVec.ofInt 64 (↑(l.getD j []).length : Int))) = Cont.ren (sig (List.length (B17 l)) [3]) (Cont.row (hrow h (SV.v (Value.slice none 0 0)) (n + BitVec.ofInt 64 (↑(l.getD j []).length : Int))))) ∧ True else False else ∀ (l_1 : List (BitVec 8)), okB l_1 (ab h (l.getD j [])).snd → bif inI ((↑j : Int) + 1) then a { j := j + 1, s := HS.at' (ab h (l.getD j [])).fst (ab h (l.getD j [])).snd.length (n + BitVec.ofInt 64 (↑(l.getD j []).length : Int)) l_1 } ∧ SV.ptr 3 0 = ren (sig (List.length (B17 l)) [3, 4]) (SV.ptr 3 0) ∧ SV.sl 2 0 l.length l.length = ren (sig (List.length (B17 l)) [3, 4]) (SV.sl 2 0 l.length l.length) ∧ SV.i (↑l.length : Int) = ren (sig (List.length (B17 l)) [3, 4]) (SV.i (↑l.length : Int)) ∧ SV.i ((↑j : Int) + 1) = ren (sig (List.length (B17 l)) [3, 4]) (SV.i (↑(j + 1) : Int)) ∧ (false = false ∧ Cont.a32 H0 = Cont.ren (sig (List.length (B17 l)) [3, 4]) (Cont.a32 H0)) ∧ (false = false ∧ Cont.a32 K64 = Cont.ren (sig (List.length (B17 l)) [3, 4]) (Cont.a32 K64)) ∧ (false = false ∧ Cont.strs [] l = Cont.ren (sig (List.length (B17 l)) [3, 4]) (Cont.strs [] l)) ∧ (true = true ∧ Cont.row (hrow (ab h (l.getD j [])).fst (SV.sl (List.length (Mh l (HS.no h n))) 0 (ab h (l.getD j [])).snd.length 64) (n + BitVec.ofInt 64 (↑(l.getD j []).length : Int))) = Cont.ren (sig (List.length (B17 l)) [3, 4]) (Cont.row (hrow (ab h (l.getD j [])).fst (SV.sl 4 0 (ab h (l.getD j [])).snd.length 64) (n + BitVec.ofInt 64 (↑(l.getD j []).length : Int))))) ∧ (true = true ∧ Cont.a8 l_1 = Cont.ren (sig (List.length (B17 l)) [3, 4]) (Cont.a8 l_1)) ∧ True else False else False else False else 0 = 0 ∧ q ∧ SV.ptr 3 0 = SV.ptr 3 0 ∧ (false = false ∧ Cont.a32 H0 = Cont.a32 H0) ∧ (false = false ∧ Cont.a32 K64 = Cont.a32 K64) ∧ (false = false ∧ Cont.strs [] l = Cont.strs [] l) ∧ (true = true ∧ Cont.row (hrow h (SV.v (Value.slice none 0 0)) n) = Cont.row (hrow h (SV.v (Value.slice none 0 0)) n)) ∧ True) := by kernel_rfl
theorem vr17b (l : List (List (BitVec 8))) (j : Nat) (h : S8) (len : Nat) (n : BitVec 64) (b : List (BitVec 8)) (a : I17 → Prop) (q : Prop) : (frK 19 (i17 l j) fun fr => vround Tryd.prog E17 noL 24 0 fr (Mh l (.at' h len n b)) (Kp (B17 l) 0 19 (sel17 j) a (fun i => i17 l i.j) (fun i => Mh l i.s) q o17 (Mh l (.at' h len n b)))) = (bif ilt (↑j : Int) (↑l.length : Int) then bif inR (↑j : Int) l.length then bif j.blt (0 + l.length) then bif len.blt 64 && b.length.beq 64 then ∀ (l' : List (BitVec 8)), okB l' (ab h (List.take len b ++ l.getD j [])).snd → bif inI ((↑j : Int) + 1) then a { j := j + 1, s := HS.at' (ab h (List.take len b ++ l.getD j [])).fst (ab h (List.take len b ++ l.getD j [])).snd.length (n + BitVec.ofInt 64 (↑(l.getD j []).length : Int)) l' } ∧ SV.ptr 3 0 = ren (sig (List.length (B17 l)) [3, 4]) (SV.ptr 3 0) ∧ SV.sl 2 0 l.length l.length = ren (sig (List.length (B17 l)) [3, 4]) (SV.sl 2 0 l.length l.length) ∧ SV.i (↑l.length : Int) = ren (sig (List.length (B17 l)) [3, 4]) (SV.i (↑l.length : Int)) ∧ SV.i ((↑j : Int) + 1) = ren (sig (List.length (B17 l)) [3, 4]) (SV.i (↑(j + 1) : Int)) ∧ (false = false ∧ Cont.a32 H0 = Cont.ren (sig (List.length (B17 l)) [3, 4]) (Cont.a32 H0)) ∧ (false = false ∧ Cont.a32 K64 = Cont.ren (sig (List.length (B17 l)) [3, 4]) (Cont.a32 K64)) ∧ (false = false ∧ Cont.strs [] l = Cont.ren (sig (List.length (B17 l)) [3, 4]) (Cont.strs [] l)) ∧ (true = true ∧ Cont.row (hrow (ab h (List.take len b ++ l.getD j [])).fst (SV.sl 4 0 (ab h (List.take len b ++ l.getD j [])).snd.length 64) (n + BitVec.ofInt 64 (↑(l.getD j []).length : Int))) = Cont.ren (sig (List.length (B17 l)) [3, 4]) (Cont.row (hrow (ab h (List.take len b ++ l.getD j [])).fst (SV.sl 4 0 (ab h (List.take len b ++ l.getD j [])).snd.length 64) (n + BitVec.ofInt 64 (↑(l.getD j []).length : Int))))) ∧ (true = true ∧ Cont.a8 l' = Cont.ren (sig (List.length (B17 l)) [3, 4]) (Cont.a8 l')) ∧ True else False else False else False else False else 0 = 0 ∧ q ∧ SV.ptr 3 0 = SV.ptr 3 0 ∧ (false = false ∧ Cont.a32 H0 = Cont.a32 H0) ∧ (false = false ∧ Cont.a32 K64 = Cont.a32 K64) ∧ (false = false ∧ Cont.strs [] l = Cont.strs [] l) ∧ (true = true ∧ Cont.row (hrow h (SV.sl 4 0 len 64) n) = Cont.row (hrow h (SV.sl 4 0 len 64) n)) ∧ (true = true ∧ Cont.a8 b = Cont.a8 b) ∧ True) := by kernel_rfl
theorem flat_succ (l : List (List (BitVec 8))) (j : Nat) (h : j < l.length) : (l.take (j + 1)).flatten = (l.take j).flatten ++ l.getD j [] := by
  rw [List.take_add_one, getD_get [] h, Option.toList_some, List.flatten_append]
  simp
theorem loop17 (l : List (List (BitVec 8))) (hl : l.length ≤ 1000) : LOk Tryd.prog G (B17 l) 24 (L17 l (heldS l.flatten)) := by
  refine LT.add_ok (noL_ok _ _ _ _) fun fr M K hh => ?_
  obtain ⟨hle, hK1, hK2⟩ := vLe_ok hh
  refine loop_pick e17_ok mixed (by show 2 ≤ 3; decide) (by kernel_rfl) (fun i : I17 => i17 l i.j) (fun i => Mh l i.s) (fun i => i.j ≤ l.length ∧ heldS (l.take i.j).flatten i.s) (fun i => l.length - i.j) (fun i => sel17 i.j) (fun i => i.j = l.length) (fun _ => o17) (fun i => Mh l i.s) ⟨0, .no h0 0⟩ ⟨Nat.zero_le _, held0⟩ (fun _ => noL) (fun _ _ => noL_ok _ _ _ _) (fun i hp => ?_) hle (fun i hp hq => ?_)
  · obtain ⟨j, s⟩ := i
    obtain ⟨hj, hs⟩ := hp
    replace hj : j ≤ l.length := hj
    replace hs : heldS (l.take j).flatten s := hs
    cases s with
    | no h n =>
      refine of_eq (vr17n l j h n _ _) ?_
      cases hc : ilt (j : Int) (l.length : Int)
      · have hj2 : j = l.length := by rw [ilt_eq] at hc; have := of_decide_eq_false hc; omega
        exact ⟨rfl, hj2, rfl, ⟨rfl, rfl⟩, ⟨rfl, rfl⟩, ⟨rfl, rfl⟩, ⟨rfl, rfl⟩, trivial⟩
      · have hj2 : j < l.length := by rw [ilt_eq] at hc; have := of_decide_eq_true hc; omega
        have hfl := flat_succ l j hj2
        have hi : inI ((j : Int) + 1) = true := inI_iff.2 (by omega)
        have hm : l.length - (j + 1) < l.length - j := by omega
        refine bif_of (inR_nat hj2) (bif_of (blt_of (by omega)) ?_)
        cases hz : ile ((l.getD j []).length : Int) 0
        · refine fun l' hl' => bif_of hi ⟨⟨⟨by show j + 1 ≤ l.length; omega, ?_⟩, hm⟩, rfl, rfl, rfl, rfl, ⟨rfl, rfl⟩, ⟨rfl, rfl⟩, ⟨rfl, rfl⟩, ⟨rfl, rfl⟩, ⟨rfl, rfl⟩, trivial⟩
          show heldS (l.take (j + 1)).flatten _
          rw [hfl]
          exact held_n hs hl'
        · have hz2 : l.getD j [] = [] := by
            rw [ile_eq] at hz
            have := of_decide_eq_true hz
            exact List.length_eq_zero_iff.1 (by omega)
          refine bif_of hi ⟨⟨⟨by show j + 1 ≤ l.length; omega, ?_⟩, hm⟩, rfl, rfl, rfl, rfl, ⟨rfl, rfl⟩, ⟨rfl, rfl⟩, ⟨rfl, rfl⟩, ⟨rfl, rfl⟩, trivial⟩
          show heldS (l.take (j + 1)).flatten _
          rw [hfl]
          exact held_z hs hz2
    | at' h len n b =>
      refine of_eq (vr17b l j h len n b _ _) ?_
      cases hc : ilt (j : Int) (l.length : Int)
      · have hj2 : j = l.length := by rw [ilt_eq] at hc; have := of_decide_eq_false hc; omega
        exact ⟨rfl, hj2, rfl, ⟨rfl, rfl⟩, ⟨rfl, rfl⟩, ⟨rfl, rfl⟩, ⟨rfl, rfl⟩, ⟨rfl, rfl⟩, trivial⟩
      · have hj2 : j < l.length := by rw [ilt_eq] at hc; have := of_decide_eq_true hc; omega
        have hfl := flat_succ l j hj2
        have hi : inI ((j : Int) + 1) = true := inI_iff.2 (by omega)
        have hm : l.length - (j + 1) < l.length - j := by omega
        obtain ⟨-, -, q1, q2⟩ := id hs
        refine bif_of (inR_nat hj2) (bif_of (blt_of (by omega)) (bif_of (by rw [q2, blt_of q1]; rfl) ?_))
        refine fun l' hl' => bif_of hi ⟨⟨⟨by show j + 1 ≤ l.length; omega, ?_⟩, hm⟩, rfl, rfl, rfl, rfl, ⟨rfl, rfl⟩, ⟨rfl, rfl⟩, ⟨rfl, rfl⟩, ⟨rfl, rfl⟩, ⟨rfl, rfl⟩, trivial⟩
        show heldS (l.take (j + 1)).flatten _
        rw [hfl]
        exact held_b hs hl'
  · obtain ⟨j, s⟩ := i
    obtain ⟨hj, hs⟩ := hp
    obtain rfl : j = l.length := hq
    replace hs : heldS (l.take l.length).flatten s := hs
    rw [List.take_of_length_le (Nat.le_refl _)] at hs
    cases s with
    | no h n => have := hK1 h n hs; rw [frK_eq] at this; exact this
    | at' h len n b => have := hK2 h len n b hs; rw [frK_eq] at this; exact this
def cJoin (D : List (BitVec 8) → List (BitVec 8)) : List SV → List Cont → Option (Bool × SV)
  | [.sl k off len cap], [.strs [] l] => some (Nat.beq off 0 && (Nat.beq len l.length && (Nat.beq cap l.length && Nat.ble l.length 1000)), .s (D l.flatten))
  | _, _ => none
theorem join_ok : POk Tryd.prog G 24 (cJoin dOf) := by
  intro args acs r h β M w hR hw ha
  unfold cJoin at h
  split at h
  · rename_i k off len cap l
    simp only [Option.some.injEq, Prod.mk.injEq, Bool.and_eq_true] at h
    obtain ⟨⟨h1, h2, h3, h4⟩, rfl⟩ := h
    obtain rfl := Nat.eq_of_beq_eq_true h1
    obtain rfl := Nat.eq_of_beq_eq_true h2
    obtain rfl := Nat.eq_of_beq_eq_true h3
    simp only [List.map_cons, List.map_nil, List.cons.injEq, and_true] at ha
    refine pure1 (args0 := [.sl 2 0 l.length l.length]) (c := .strs [] l) (k := k) (vf_ok (M := B17 l) e17_ok mixed (loop17 l (Nat.le_of_ble_eq_true h4)) (of_eq (vc17 l _ _) ⟨rfl, rfl, rfl, rfl, rfl, ⟨rfl, rfl⟩, ⟨rfl, rfl⟩, ⟨rfl, rfl⟩, ⟨rfl, rfl⟩, fun h n hh => ?_, fun h len n b hh => ?_⟩)) rfl rfl rfl rfl rfl (fun _ => rfl) hR (tgt_some ha.symm rfl)
    · exact congrArg SV.s (dig_no hh)
    · obtain ⟨-, -, q1, q2⟩ := id hh
      exact bif_of (by rw [q2, blt_of q1]; rfl) (congrArg SV.s (dig_at hh))
  · cases h
def E18 (D : List (BitVec 8) → List (BitVec 8)) : Env := ⟨G, T10.add 24 (cJoin D), C17⟩
theorem e18_ok : EnvOk Tryd.prog (E18 dOf) := ⟨PT.add_ok e17_ok.T join_ok, e17_ok.C⟩
theorem vc9 (D : List (BitVec 8) → List (BitVec 8)) (s : List (BitVec 8)) (K : SV → Mm → Prop) : (vf Tryd.prog (E18 D) noL 23 [.s s] G K) = (K (SV.s (D [s].flatten)) [{ rw := false, c := Cont.a32 H0 }, { rw := false, c := Cont.a32 K64 }, { rw := true, c := Cont.strs [] [s] }]) := by kernel_rfl
def cOf (D : List (BitVec 8) → List (BitVec 8)) : List SV → List Cont → Option (Bool × SV)
  | [.s s], _ => some (true, .s (D s))
  | _, _ => none
theorem of_ok : POk Tryd.prog G 23 (cOf dOf) := by
  intro args acs r h β M w hR hw ha
  unfold cOf at h
  split at h
  · rename_i s
    simp only [Option.some.injEq, Prod.mk.injEq, true_and] at h
    subst h
    refine pure0 (vf_ok e18_ok mixed (noL_ok _ _ _ _) (of_eq (vc9 _ s _) ?_)) rfl rfl hR
    show SV.s (dOf [s].flatten) = _
    simp
  · cases h
def E19 (D : List (BitVec 8) → List (BitVec 8)) : Env := ⟨G, (T10.add 24 (cJoin D)).add 23 (cOf D), C17⟩
theorem e19_ok : EnvOk Tryd.prog (E19 dOf) := ⟨PT.add_ok e18_ok.T of_ok, e18_ok.C⟩
theorem vc11 (D : List (BitVec 8) → List (BitVec 8)) (k s : List (BitVec 8)) (K : SV → Mm → Prop) : (vf Tryd.prog (E19 D) noL 16 [.s k, .s s] G K) = (bif ilt 64 (↑k.length : Int) then K (SV.s (D [mask (D k) (BitVec.ofInt 8 92), D [mask (D k) (BitVec.ofInt 8 54), s].flatten].flatten)) [{ rw := false, c := Cont.a32 H0 }, { rw := false, c := Cont.a32 K64 }, { rw := true, c := Cont.strs [] [mask (D k) (BitVec.ofInt 8 54), s] }, { rw := true, c := Cont.strs [] [mask (D k) (BitVec.ofInt 8 92), D [mask (D k) (BitVec.ofInt 8 54), s].flatten] }] else K (SV.s (D [mask k (BitVec.ofInt 8 92), D [mask k (BitVec.ofInt 8 54), s].flatten].flatten)) [{ rw := false, c := Cont.a32 H0 }, { rw := false, c := Cont.a32 K64 }, { rw := true, c := Cont.strs [] [mask k (BitVec.ofInt 8 54), s] }, { rw := true, c := Cont.strs [] [mask k (BitVec.ofInt 8 92), D [mask k (BitVec.ofInt 8 54), s].flatten] }]) := by kernel_rfl
def tagOf (D : List (BitVec 8) → List (BitVec 8)) (k s : List (BitVec 8)) : List (BitVec 8) := D (mask k 92 ++ D (mask k 54 ++ s))
def keyOf (D : List (BitVec 8) → List (BitVec 8)) (k : List (BitVec 8)) : List (BitVec 8) := bif ilt 64 (k.length : Int) then D k else k
def cTag (D : List (BitVec 8) → List (BitVec 8)) : List SV → List Cont → Option (Bool × SV)
  | [.s k, .s s], _ => some (true, .s (tagOf D (keyOf D k) s))
  | _, _ => none
theorem tag_ok : POk Tryd.prog G 16 (cTag dOf) := by
  intro args acs r h β M w hR hw ha
  unfold cTag at h
  split at h
  · rename_i k s
    simp only [Option.some.injEq, Prod.mk.injEq, true_and] at h
    subst h
    refine pure0 (vf_ok e19_ok mixed (noL_ok _ _ _ _) (of_eq (vc11 _ k s _) ?_)) rfl rfl hR
    cases hc : ilt 64 (k.length : Int)
    · have e : keyOf dOf k = k := by unfold keyOf; rw [hc]; rfl
      rw [e]
      refine congrArg SV.s ?_
      unfold tagOf
      simp
    · have e : keyOf dOf k = dOf k := by unfold keyOf; rw [hc]; rfl
      rw [e]
      refine congrArg SV.s ?_
      unfold tagOf
      simp
  · cases h
end Go.Proofs.YtmalnjdacmlcdaaDoor
