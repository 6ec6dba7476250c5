/-
  hkdf: the document's bytes of a key by a label. No statement is proved here.
-/
import Derived.Test.YtmalnjdacmlcdaaDoorHkA
namespace Go.Proofs.YtmalnjdacmlcdaaDoor
open Go.RowKit
set_option linter.unusedVariables false
set_option linter.unusedSimpArgs false
set_option maxRecDepth 100000

def EH2 (D R : Tx → Tx) (U : Tx → Tx → Tx) (X : Tx → Tx → Int → Tx) (e : Int → Int) : Env := ⟨G, ((T20 D R).add 11 (cRTagU U)).add 9 (cRExp X e), C17⟩
theorem vcx13 (D R : Tx → Tx) (U : Tx → Tx → Tx) (X : Tx → Tx → Int → Tx) (e : Int → Int) (key label ctx : Tx) (n : Int) (K : SV → Mm → Prop) : (vf Tryd.prog (EH2 D R U X e) noL 13 [.s key, .s label, .s ctx, .i n] G K) = (bif ilt 249 (↑(List.length label) : Int) == false then bif ilt 249 (↑(List.length label) : Int) == false then bif ilt 249 (↑(List.length label) : Int) == false then bif bif ilt 249 (↑(List.length label) : Int) then true else ilt 255 (↑(List.length ctx) : Int) then K (SV.tup [SV.s (bts { data := #[] }), SV.i 2]) G else bif inI (6 + (↑(List.length label) : Int)) then bif ile (↑((List.take 3 (List.drop 0 [BitVec.ofInt 8 (n.fdiv (2 ^ 8)), BitVec.ofInt 8 n, BitVec.ofInt 8 (6 + (↑(List.length label) : Int))]) ++ bts { data := #[116, 108, 115, 49, 51, 32] }).length + List.length label) : Int) 9223372036854775807 then bif ile (↑((List.take 3 (List.drop 0 [BitVec.ofInt 8 (n.fdiv (2 ^ 8)), BitVec.ofInt 8 n, BitVec.ofInt 8 (6 + (↑(List.length label) : Int))]) ++ bts { data := #[116, 108, 115, 49, 51, 32] } ++ label).length + (List.take 1 (List.drop 0 [BitVec.ofInt 8 (↑(List.length ctx) : Int)])).length) : Int) 9223372036854775807 then bif ile (↑((List.take 3 (List.drop 0 [BitVec.ofInt 8 (n.fdiv (2 ^ 8)), BitVec.ofInt 8 n, BitVec.ofInt 8 (6 + (↑(List.length label) : Int))]) ++ bts { data := #[116, 108, 115, 49, 51, 32] } ++ label ++ List.take 1 (List.drop 0 [BitVec.ofInt 8 (↑(List.length ctx) : Int)])).length + List.length ctx) : Int) 9223372036854775807 then bif (List.length key).ble 1000000 && (List.take 3 (List.drop 0 [BitVec.ofInt 8 (n.fdiv (2 ^ 8)), BitVec.ofInt 8 n, BitVec.ofInt 8 (6 + (↑(List.length label) : Int))]) ++ bts { data := #[116, 108, 115, 49, 51, 32] } ++ label ++ List.take 1 (List.drop 0 [BitVec.ofInt 8 (↑(List.length ctx) : Int)]) ++ ctx).length.ble 900000 then K (SV.tup [SV.s (X key (List.take 3 (List.drop 0 [BitVec.ofInt 8 (n.fdiv (2 ^ 8)), BitVec.ofInt 8 n, BitVec.ofInt 8 (6 + (↑(List.length label) : Int))]) ++ bts { data := #[116, 108, 115, 49, 51, 32] } ++ label ++ List.take 1 (List.drop 0 [BitVec.ofInt 8 (↑(List.length ctx) : Int)]) ++ ctx) n), SV.i (e n)]) [{ rw := false, c := Cont.a32 H0 }, { rw := false, c := Cont.a32 K64 }, { rw := true, c := Cont.a8 [BitVec.ofInt 8 (n.fdiv (2 ^ 8)), BitVec.ofInt 8 n, BitVec.ofInt 8 (6 + (↑(List.length label) : Int))] }, { rw := true, c := Cont.a8 [BitVec.ofInt 8 (↑(List.length ctx) : Int)] }] else False else False else False else False else False else bif ilt 249 (↑(List.length label) : Int) then K (SV.tup [SV.s (bts { data := #[] }), SV.i 2]) G else False else bif ilt 249 (↑(List.length label) : Int) == false then False else bif ilt 249 (↑(List.length label) : Int) then K (SV.tup [SV.s (bts { data := #[] }), SV.i 2]) G else False else bif ilt 249 (↑(List.length label) : Int) == false then False else bif ilt 249 (↑(List.length label) : Int) == false then False else bif ilt 249 (↑(List.length label) : Int) then K (SV.tup [SV.s (bts { data := #[] }), SV.i 2]) G else False) := by kernel_rfl
theorem btH {b : Bool} {A B : Prop} (hb : b = true) (h : A) : bif b then A else B := by rw [hb]; exact h
theorem bfH {b : Bool} {A B : Prop} (hb : b = false) (h : B) : bif b then A else B := by rw [hb]; exact h
/-- What a label stands for. -/
def lbI (label ctx : Tx) (n : Int) : Tx := List.take 3 (List.drop 0 [BitVec.ofInt 8 (n.fdiv (2 ^ 8)), BitVec.ofInt 8 n, BitVec.ofInt 8 (6 + (label.length : Int))]) ++ bts { data := #[116, 108, 115, 49, 51, 32] } ++ label ++ List.take 1 (List.drop 0 [BitVec.ofInt 8 (ctx.length : Int)]) ++ ctx
theorem lbI_len (label ctx : Tx) (n : Int) : (lbI label ctx n).length = label.length + ctx.length + 10 := by
  unfold lbI
  have e : (bts { data := #[116, 108, 115, 49, 51, 32] }).length = 6 := by decide
  simp only [List.length_append, e]
  simp; omega
def far (label ctx : Tx) : Bool := bif ilt 249 (label.length : Int) then true else ilt 255 (ctx.length : Int)
def lxI (X : Tx → Tx → Int → Tx) (key label ctx : Tx) (n : Int) : Tx := bif far label ctx then [] else X key (lbI label ctx n) n
def leI (e : Int → Int) (label ctx : Tx) (n : Int) : Int := bif far label ctx then 2 else e n
def cRLab (Y : Tx → Tx → Tx → Int → Tx) (f : Tx → Tx → Int → Int) : List SV → List Cont → Option (Bool × SV)
  | [.s key, .s label, .s ctx, .i n], _ => some (Nat.ble key.length 1000000, .tup [.s (Y key label ctx n), .i (f label ctx n)])
  | _, _ => none
theorem rlab_ok {D R : Tx → Tx} {U : Tx → Tx → Tx} {X : Tx → Tx → Int → Tx} {e : Int → Int} (hEH : EnvOk Tryd.prog (EH2 D R U X e)) : POk Tryd.prog G 13 (cRLab (lxI X) (leI e)) := by
  intro args acs r h β M w hR hw ha
  unfold cRLab at h
  split at h
  · rename_i key label ctx n
    simp only [Option.some.injEq, Prod.mk.injEq] at h
    obtain ⟨h1, rfl⟩ := h
    have h1' := Nat.le_of_ble_eq_true h1
    refine pure0 (vf_ok hEH mixed (noL_ok _ _ _ _) (of_eq (vcx13 D R U X e key label ctx n _) ?_)) rfl rfl hR
    cases hl : ilt 249 (label.length : Int)
    · have l2 : label.length ≤ 249 := by rw [ilt_eq] at hl; have := of_decide_eq_false hl; omega
      cases hc : ilt 255 (ctx.length : Int)
      · have c2 : ctx.length ≤ 255 := by rw [ilt_eq] at hc; have := of_decide_eq_false hc; omega
        have ef : far label ctx = false := by unfold far; rw [hl, hc]; rfl
        have e0 := lbI_len label ctx n
        have e6 : (bts { data := #[116, 108, 115, 49, 51, 32] }).length = 6 := by decide
        have er : SV.tup [.s (lxI X key label ctx n), .i (leI e label ctx n)] = SV.tup [.s (X key (lbI label ctx n) n), .i (e n)] := by unfold lxI leI; rw [ef]; rfl
        rw [er]
        refine btH rfl (btH rfl (btH rfl (bfH rfl (bif_of (inI_iff.2 (by omega)) (bif_of ?_ (bif_of ?_ (bif_of ?_ (bif_of ?_ rfl))))))))
        · rw [ile_eq]; exact decide_eq_true (by simp only [List.length_append, e6]; simp; omega)
        · rw [ile_eq]; exact decide_eq_true (by simp only [List.length_append, e6]; simp; omega)
        · rw [ile_eq]; exact decide_eq_true (by simp only [List.length_append, e6]; simp; omega)
        · rw [h1, Bool.true_and]; exact Nat.ble_eq_true_of_le (by show (lbI label ctx n).length ≤ 900000; omega)
      · have ef : far label ctx = true := by unfold far; rw [hl, hc]; rfl
        have er : SV.tup [.s (lxI X key label ctx n), .i (leI e label ctx n)] = SV.tup [.s [], .i 2] := by unfold lxI leI; rw [ef]; rfl
        rw [er]
        rfl
    · have ef : far label ctx = true := by unfold far; rw [hl]; rfl
      have er : SV.tup [.s (lxI X key label ctx n), .i (leI e label ctx n)] = SV.tup [.s [], .i 2] := by unfold lxI leI; rw [ef]; rfl
      rw [er]
      rfl
  · cases h
end Go.Proofs.YtmalnjdacmlcdaaDoor
namespace Go.Proofs.YtmalnjdacmlcdaaDoor
open Go.RowKit
set_option linter.unusedVariables false
set_option linter.unusedSimpArgs false
set_option maxRecDepth 100000

def B7 (pre : List Value) (l : List (List (BitVec 8))) : Mm := [⟨false, .a32 H0⟩, ⟨false, .a32 K64⟩, ⟨false, .strs pre l⟩]
def tot (L : List (List (BitVec 8))) : Nat := L.foldl (fun n s => n + s.length) 0
def i7 (sl : SV) (L : List (List (BitVec 8))) (j : Nat) : List (Nat × SV) := [(0, sl), (3, .i (tot (L.take j) : Nat)), (4, .i (j : Nat))]
def o7 (n : Nat) : List (Nat × SV) := [(3, .i (n : Nat))]
def vL7 (B : Mm) (sl : SV) (L : List (List (BitVec 8))) (q : Nat → Prop) (fr : List SV) (M : Mm) (K : Ko) : Prop := vLe B fr M 24 (i7 sl L 0) B (∀ j, q j → frK 24 (o7 (tot (L.take j))) fun fr1 => K .normal fr1 B)
def L7 (B : Mm) (sl : SV) (L : List (List (BitVec 8))) (q : Nat → Prop) : LT := noL.add 0 (vL7 B sl L q)
theorem vc7 (D R : List (BitVec 8) → List (BitVec 8)) (pre : List Value) (l L : List (List (BitVec 8))) (off len cap : Nat) (q : Nat → Prop) (K : SV → Mm → Prop) : (vf Tryd.prog (E20 D R) (L7 (B7 pre l) (.sl 2 off len cap) L q) 6 [.sl 2 off len cap] (B7 pre l) K) = (loopOf Tryd.prog 6 0 = loopOf Tryd.prog 6 0 ∧ SV.sl 2 off len cap = SV.sl 2 off len cap ∧ SV.i 0 = SV.i (↑(tot (List.take 0 L)) : Int) ∧ SV.i 0 = SV.i (↑0 : Int) ∧ (false = false ∧ Cont.a32 H0 = Cont.a32 H0) ∧ (false = false ∧ Cont.a32 K64 = Cont.a32 K64) ∧ (false = false ∧ Cont.strs pre l = Cont.strs pre l) ∧ ∀ (j : Nat), q j → K (SV.b (ile (↑(tot (List.take j L)) : Int) 2048)) (B7 pre l)) := by kernel_rfl
theorem vr7 (D R : List (BitVec 8) → List (BitVec 8)) (pre : List Value) (l L : List (List (BitVec 8))) (off len cap j : Nat) (a : Nat → Prop) (q : Prop) : (frK 24 (i7 (.sl 2 off len cap) L j) fun fr => vround Tryd.prog (E20 D R) noL 6 0 fr (B7 pre l) (Ks (B7 pre l) 0 24 (fun _ _ => some (j + 1)) [] a (i7 (.sl 2 off len cap) L) (fun _ => B7 pre l) q (o7 (tot (L.take j))) (B7 pre l))) = (bif ilt (↑j : Int) (↑len : Int) == true then bif ilt (↑j : Int) (↑len : Int) == true then bif bif ilt (↑j : Int) (↑len : Int) then ile (↑(tot (List.take j L)) : Int) 2048 else false then bif inR (↑j : Int) len then bif pre.length.ble (j + off) && (j + off).blt (pre.length + l.length) then bif inI ((↑(tot (List.take j L)) : Int) + (↑(l.getD (j + off - pre.length) []).length : Int)) then bif inI ((↑j : Int) + 1) then a (j + 1) ∧ SV.sl 2 off len cap = ren (sig (List.length (B7 pre l)) []) (SV.sl 2 off len cap) ∧ SV.i ((↑(tot (List.take j L)) : Int) + (↑(l.getD (j + off - pre.length) []).length : Int)) = ren (sig (List.length (B7 pre l)) []) (SV.i (↑(tot (List.take (j + 1) L)) : Int)) ∧ SV.i ((↑j : Int) + 1) = ren (sig (List.length (B7 pre l)) []) (SV.i (↑(j + 1) : Int)) ∧ (false = false ∧ Cont.a32 H0 = Cont.ren (sig (List.length (B7 pre l)) []) (Cont.a32 H0)) ∧ (false = false ∧ Cont.a32 K64 = Cont.ren (sig (List.length (B7 pre l)) []) (Cont.a32 K64)) ∧ (false = false ∧ Cont.strs pre l = Cont.ren (sig (List.length (B7 pre l)) []) (Cont.strs pre l)) ∧ True else False else False else False else False else 0 = 0 ∧ q ∧ SV.i (↑(tot (List.take j L)) : Int) = SV.i (↑(tot (List.take j L)) : Int) ∧ (false = false ∧ Cont.a32 H0 = Cont.a32 H0) ∧ (false = false ∧ Cont.a32 K64 = Cont.a32 K64) ∧ (false = false ∧ Cont.strs pre l = Cont.strs pre l) ∧ True else bif !ilt (↑j : Int) (↑len : Int) then 0 = 0 ∧ q ∧ SV.i (↑(tot (List.take j L)) : Int) = SV.i (↑(tot (List.take j L)) : Int) ∧ (false = false ∧ Cont.a32 H0 = Cont.a32 H0) ∧ (false = false ∧ Cont.a32 K64 = Cont.a32 K64) ∧ (false = false ∧ Cont.strs pre l = Cont.strs pre l) ∧ True else False else bif ilt (↑j : Int) (↑len : Int) == true then False else bif !ilt (↑j : Int) (↑len : Int) then 0 = 0 ∧ q ∧ SV.i (↑(tot (List.take j L)) : Int) = SV.i (↑(tot (List.take j L)) : Int) ∧ (false = false ∧ Cont.a32 H0 = Cont.a32 H0) ∧ (false = false ∧ Cont.a32 K64 = Cont.a32 K64) ∧ (false = false ∧ Cont.strs pre l = Cont.strs pre l) ∧ True else False) := by kernel_rfl
theorem vc7z (D R : List (BitVec 8) → List (BitVec 8)) (d : Option Addr) (c : Nat) (q : Nat → Prop) (K : SV → Mm → Prop) : (vf Tryd.prog (E20 D R) (L7 G (.v (.slice d 0 c)) [] q) 6 [.v (.slice d 0 c)] G K) = (loopOf Tryd.prog 6 0 = loopOf Tryd.prog 6 0 ∧ SV.v (Value.slice d 0 c) = SV.v (Value.slice d 0 c) ∧ SV.i 0 = SV.i (↑0 : Int) ∧ SV.i 0 = SV.i (↑0 : Int) ∧ (false = false ∧ Cont.a32 H0 = Cont.a32 H0) ∧ (false = false ∧ Cont.a32 K64 = Cont.a32 K64) ∧ ∀ (j : Nat), q j → K (SV.b (ile (↑(tot (List.take j [])) : Int) 2048)) G) := by kernel_rfl
theorem vr7z (D R : List (BitVec 8) → List (BitVec 8)) (d : Option Addr) (c j : Nat) (a : Nat → Prop) (q : Prop) : (frK 24 (i7 (.v (.slice d 0 c)) [] 0) fun fr => vround Tryd.prog (E20 D R) noL 6 0 fr G (Ks G 0 24 (fun _ _ => some 0) [] a (i7 (.v (.slice d 0 c)) []) (fun _ => G) q (o7 (tot (([] : List (List (BitVec 8))).take 0))) G)) = (0 = 0 ∧ q ∧ SV.i (↑0 : Int) = SV.i (↑0 : Int) ∧ (false = false ∧ Cont.a32 H0 = Cont.a32 H0) ∧ (false = false ∧ Cont.a32 K64 = Cont.a32 K64) ∧ True) := by kernel_rfl
theorem tot_app (a b : List (List (BitVec 8))) : tot (a ++ b) = tot a + tot b := by
  have key : ∀ (l : List (List (BitVec 8))) (n : Nat), l.foldl (fun n s => n + s.length) n = n + tot l := by
    intro l
    induction l with
    | nil => intro n; rfl
    | cons s l ih =>
      intro n
      have e : tot (s :: l) = 0 + s.length + tot l := ih (0 + s.length)
      rw [List.foldl_cons, ih, e]
      omega
  unfold tot
  rw [List.foldl_append, key]
  rfl
theorem tot_succ (L : List (List (BitVec 8))) (j : Nat) (h : j < L.length) : tot (L.take (j + 1)) = tot (L.take j) + (L.getD j []).length := by
  rw [List.take_add_one, getD_get [] h, Option.toList_some, tot_app]
  unfold tot; simp
theorem tot_le (L : List (List (BitVec 8))) (j : Nat) : tot (L.take j) ≤ tot L := by
  have := tot_app (L.take j) (L.drop j)
  rw [List.take_append_drop] at this
  omega
theorem getD_drop' {α : Type} (l : List α) (d : α) (off j : Nat) : (l.drop off).getD j d = l.getD (j + off) d := by
  rw [List.getD_eq_getElem?_getD, List.getElem?_drop, ← List.getD_eq_getElem?_getD, Nat.add_comm]
theorem getD_take' {α : Type} (l : List α) (d : α) (n j : Nat) (h : j < n) : (l.take n).getD j d = l.getD j d := by
  rw [List.getD_eq_getElem?_getD, List.getElem?_take_of_lt h, ← List.getD_eq_getElem?_getD]
def okS (L : List (List (BitVec 8))) : Bool := L.all fun s => Nat.ble s.length 140737488355328
def q7 (L : List (List (BitVec 8))) (j : Nat) : Prop := j = L.length ∨ 2048 < tot (L.take j)
theorem small_of (L : List (List (BitVec 8))) (j : Nat) (h : q7 L j) : ile (tot (L.take j) : Int) 2048 = ile (tot L : Int) 2048 := by
  rcases h with rfl | h
  · rw [List.take_of_length_le (Nat.le_refl _)]
  · have := tot_le L j
    have e1 : ile (tot (L.take j) : Int) 2048 = false := by rw [ile_eq]; exact decide_eq_false (by omega)
    have e2 : ile (tot L : Int) 2048 = false := by rw [ile_eq]; exact decide_eq_false (by omega)
    rw [e1, e2]
theorem loop7 (pre : List Value) (l : List (List (BitVec 8))) (off len cap : Nat) (h0 : pre.length ≤ off) (h1 : off + len ≤ pre.length + l.length) (h2 : len ≤ 9223372036854775806) (h3 : okS ((l.drop (off - pre.length)).take len) = true) : LOk Tryd.prog G (B7 pre l) 6 (L7 (B7 pre l) (.sl 2 off len cap) ((l.drop (off - pre.length)).take len) (q7 ((l.drop (off - pre.length)).take len))) := by
  generalize hL : (l.drop (off - pre.length)).take len = L at h3
  have hlen : L.length = len := by rw [← hL]; simp; omega
  refine LT.add_ok (noL_ok _ _ _ _) fun fr M K h => ?_
  obtain ⟨hle, hK⟩ := vLe_ok h
  refine loop_sel e20_ok mixed (noL_ok _ _ _ _) (by show 2 ≤ 3; decide) (by kernel_rfl) (i7 (.sl 2 off len cap) L) (fun _ => B7 pre l) (fun j => j ≤ len ∧ tot (L.take j) ≤ 200000000000000) (fun j => len - j) (fun j _ _ => some (j + 1)) (fun _ => []) (q7 L) (fun j => o7 (tot (L.take j))) (fun _ => B7 pre l) 0 ⟨Nat.zero_le _, by unfold tot; simp⟩ (fun j hp => of_eq (vr7 dOf rOf pre l L off len cap j _ _) ?_) hle (fun j hp hq => ?_)
  · obtain ⟨hj, ht⟩ := hp
    cases hc : ilt (j : Int) (len : Int)
    · have hj2 : j = len := by rw [ilt_eq] at hc; have := of_decide_eq_false hc; omega
      exact ⟨rfl, .inl (by omega), rfl, ⟨rfl, rfl⟩, ⟨rfl, rfl⟩, ⟨rfl, rfl⟩, trivial⟩
    · have hj2 : j < len := by rw [ilt_eq] at hc; have := of_decide_eq_true hc; omega
      have hs := tot_succ L j (by omega)
      have eg : L.getD j [] = l.getD (j + off - pre.length) [] := by
        rw [← hL, getD_take' _ _ _ _ hj2, getD_drop', show j + off - pre.length = j + (off - pre.length) by omega]
      have hb : (L.getD j []).length ≤ 140737488355328 := by
        refine Nat.le_of_ble_eq_true (List.all_eq_true.1 h3 _ ?_)
        rw [List.getD_eq_getElem?_getD, List.getElem?_eq_getElem (by omega)]
        exact List.getElem_mem _
      cases hd : ile (tot (L.take j) : Int) 2048
      · exact ⟨rfl, .inr (by rw [ile_eq] at hd; have := of_decide_eq_false hd; omega), rfl, ⟨rfl, rfl⟩, ⟨rfl, rfl⟩, ⟨rfl, rfl⟩, trivial⟩
      · have hd2 : tot (L.take j) ≤ 2048 := by rw [ile_eq] at hd; have := of_decide_eq_true hd; omega
        rw [← eg]
        refine bif_of rfl (bif_of rfl (bif_of (inR_nat hj2) (bif_of (by rw [Bool.and_eq_true]; exact ⟨Nat.ble_eq_true_of_le (by omega), blt_of (by omega)⟩) (bif_of (inI_iff.2 (by omega)) (bif_of (inI_iff.2 (by omega)) ?_)))))
        exact ⟨⟨⟨by omega, by omega⟩, by omega⟩, rfl, congrArg SV.i (by rw [hs]; omega), rfl, ⟨rfl, rfl⟩, ⟨rfl, rfl⟩, ⟨rfl, rfl⟩, trivial⟩
  · have := hK j hq
    rw [frK_eq] at this
    exact this
theorem loop7z (d : Option Addr) (c : Nat) : LOk Tryd.prog G G 6 (L7 G (.v (.slice d 0 c)) [] (q7 [])) := by
  refine LT.add_ok (noL_ok _ _ _ _) fun fr M K h => ?_
  obtain ⟨hle, hK⟩ := vLe_ok h
  refine loop_sel e20_ok mixed (noL_ok _ _ _ _) (Nat.le_refl _) (by kernel_rfl) (i7 (.v (.slice d 0 c)) []) (fun _ => G) (fun j => j = 0) (fun j => 0) (fun j _ _ => some 0) (fun _ => []) (q7 []) (fun j => o7 (tot (([] : List (List (BitVec 8))).take j))) (fun _ => G) 0 rfl (fun j hp => ?_) hle (fun j hp hq => ?_)
  · subst hp
    exact of_eq (vr7z dOf rOf d c 0 _ _) ⟨rfl, .inl rfl, rfl, ⟨rfl, rfl⟩, ⟨rfl, rfl⟩, trivial⟩
  · have := hK j hq
    rw [frK_eq] at this
    exact this
def cSmall : List SV → List Cont → Option (Bool × SV)
  | [.sl k off len cap], [.strs pre l] => some (Nat.ble pre.length off && (Nat.ble (off + len) (pre.length + l.length) && (Nat.ble len 9223372036854775806 && okS ((l.drop (off - pre.length)).take len))), .b (ile (tot ((l.drop (off - pre.length)).take len) : Int) 2048))
  | [.v (.slice _ 0 _)], _ => some (true, .b true)
  | _, _ => none
theorem fewF_ok : POk Tryd.prog G 6 cSmall := by
  intro args acs r h β M w hR hw ha
  unfold cSmall at h
  split at h
  · rename_i k off len cap pre l
    simp only [Option.some.injEq, Prod.mk.injEq, Bool.and_eq_true] at h
    obtain ⟨⟨h0, h1, h2, h3⟩, rfl⟩ := h
    have h0 := Nat.le_of_ble_eq_true h0
    have h1 := Nat.le_of_ble_eq_true h1
    have h2 := Nat.le_of_ble_eq_true h2
    simp only [List.map_cons, List.map_nil, List.cons.injEq, and_true] at ha
    refine pure1 (args0 := [.sl 2 off len cap]) (c := .strs pre l) (k := k) (vf_ok (M := B7 pre l) e20_ok mixed (loop7 pre l off len cap h0 h1 h2 h3) (of_eq (vc7 _ _ pre l _ off len cap _ _) ⟨rfl, rfl, rfl, rfl, ⟨rfl, rfl⟩, ⟨rfl, rfl⟩, ⟨rfl, rfl⟩, fun j hj => ?_⟩)) rfl rfl rfl rfl rfl (fun _ => rfl) hR (tgt_some ha.symm rfl)
    exact congrArg SV.b (small_of _ j hj)
  · rename_i d c
    simp only [Option.some.injEq, Prod.mk.injEq, true_and] at h
    subst h
    refine pure0 (vf_ok e20_ok mixed (loop7z d c) (of_eq (vc7z _ _ d c _ _) ⟨rfl, rfl, rfl, rfl, ⟨rfl, rfl⟩, ⟨rfl, rfl⟩, fun j hj => ?_⟩)) rfl rfl hR
    exact congrArg SV.b (small_of _ j hj)
  · cases h
end Go.Proofs.YtmalnjdacmlcdaaDoor
