/-
  link: the binary search in rows by rising addresses. No statement is proved here.
-/
import Derived.Test.YtedcileokcbohaaDoorLiC
namespace Go.Proofs.YtedcileokcbohaaDoor
open Go.RowKit
set_option linter.unusedVariables false
set_option linter.unusedSimpArgs false
set_option maxRecDepth 100000

/-- By rising addresses, no two of one. -/
def sortB : List Nr → Bool
  | [] => true
  | r :: l => (l.all fun s => r.1.ult s.1) && sortB l
def cntL (a : BitVec 32) (L : List Nr) : Nat := (L.filter fun r => r.1.ult a).length
def isL (a : BitVec 32) (L : List Nr) : Bool := L.any fun r => r.1 == a
theorem ult_iff {n : Nat} {a b : BitVec n} : a.ult b = true ↔ a.toNat < b.toNat := by simp [BitVec.ult]
theorem sort_cons {r : Nr} {l : List Nr} : sortB (r :: l) = true ↔ (∀ s ∈ l, r.1.toNat < s.1.toNat) ∧ sortB l = true := by
  show ((l.all fun s => r.1.ult s.1) && sortB l) = true ↔ _
  rw [Bool.and_eq_true, List.all_eq_true]
  exact and_congr (forall_congr' fun s => forall_congr' fun _ => ult_iff) Iff.rfl
theorem cntL_le (a : BitVec 32) (L : List Nr) : cntL a L ≤ L.length := List.length_filter_le _ _
theorem sort_cnt (a : BitVec 32) : ∀ (L : List Nr), sortB L = true → ∀ i, i < L.length → ((L.getD i (rz NF)).1.ult a = true ↔ i < cntL a L)
  | [], _, i, hi => absurd hi (by simp)
  | r :: l, h, i, hi => by
    obtain ⟨h1, h2⟩ := sort_cons.1 h
    have ih := sort_cnt a l h2
    cases hr : r.1.ult a
    · have hn : ∀ s ∈ l, ¬ s.1.ult a = true := fun s hs q => by
        have := h1 s hs
        rw [ult_iff] at q
        have : r.1.ult a = true := ult_iff.2 (by omega)
        rw [hr] at this; cases this
      have hc : cntL a (r :: l) = 0 := by
        unfold cntL
        rw [List.filter_cons_of_neg (by rw [hr]; decide), List.length_eq_zero_iff, List.filter_eq_nil_iff]
        exact hn
      rw [hc]
      refine ⟨fun q => absurd q ?_, fun q => absurd q (by omega)⟩
      cases i with
      | zero => show ¬ r.1.ult a = true; rw [hr]; decide
      | succ i =>
        have hi : i < l.length := by simpa using hi
        show ¬ (l.getD i (rz NF)).1.ult a = true
        rw [List.getD_eq_getElem?_getD, List.getElem?_eq_getElem hi]
        exact hn _ (List.getElem_mem hi)
    · have hc : cntL a (r :: l) = cntL a l + 1 := by
        unfold cntL
        rw [List.filter_cons_of_pos (by rw [hr]), List.length_cons]
      rw [hc]
      cases i with
      | zero => exact ⟨fun _ => by omega, fun _ => hr⟩
      | succ i =>
        have hi : i < l.length := by simpa using hi
        show (l.getD i (rz NF)).1.ult a = true ↔ _
        rw [ih i hi]; omega
theorem sort_lt : ∀ (L : List Nr), sortB L = true → ∀ i j, i < j → j < L.length → (L.getD i (rz NF)).1.toNat < (L.getD j (rz NF)).1.toNat
  | [], _, i, j, _, hj => absurd hj (by simp)
  | r :: l, h, i, j, hij, hj => by
    obtain ⟨h1, h2⟩ := sort_cons.1 h
    cases j with
    | zero => omega
    | succ j =>
      have hj : j < l.length := by simpa using hj
      cases i with
      | zero =>
        show r.1.toNat < (l.getD j (rz NF)).1.toNat
        rw [List.getD_eq_getElem?_getD, List.getElem?_eq_getElem hj]
        exact h1 _ (List.getElem_mem hj)
      | succ i => exact sort_lt l h2 i j (by omega) hj
theorem is_cnt (a : BitVec 32) (L : List Nr) (h : sortB L = true) : isL a L = (bif Nat.blt (cntL a L) L.length then (L.getD (cntL a L) (rz NF)).1 == a else false) := by
  have key : isL a L = true ↔ cntL a L < L.length ∧ (L.getD (cntL a L) (rz NF)).1 = a := by
    unfold isL
    rw [List.any_eq_true]
    constructor
    · rintro ⟨r, hr, hq⟩
      have hq := eq_of_beq hq
      obtain ⟨i, hi, rfl⟩ := List.getElem_of_mem hr
      have hg : L.getD i (rz NF) = L[i] := by rw [List.getD_eq_getElem?_getD, List.getElem?_eq_getElem hi]; rfl
      have h1 : ¬ i < cntL a L := fun q => by
        have := (sort_cnt a L h i hi).2 q
        rw [hg, hq, ult_iff] at this; omega
      rcases Nat.lt_or_ge (cntL a L) i with q | q
      · have h2 := sort_lt L h _ _ q hi
        rw [hg, hq] at h2
        have := (sort_cnt a L h (cntL a L) (by omega)).1 (ult_iff.2 h2)
        omega
      · obtain rfl : i = cntL a L := by omega
        exact ⟨hi, by rw [hg, hq]⟩
    · rintro ⟨h1, h2⟩
      refine ⟨L[cntL a L], List.getElem_mem h1, ?_⟩
      rw [List.getD_eq_getElem?_getD, List.getElem?_eq_getElem h1] at h2
      exact beq_iff_eq.2 h2
  cases hb : Nat.blt (cntL a L) L.length
  · have : ¬ cntL a L < L.length := fun q => by rw [blt_of q] at hb; cases hb
    cases hi : isL a L
    · rfl
    · exact absurd (key.1 hi).1 this
  · have h1 := blt_lt hb
    show isL a L = ((L.getD (cntL a L) (rz NF)).1 == a)
    cases hi : isL a L
    · symm; rw [beq_eq_false_iff_ne]
      intro q
      rw [key.2 ⟨h1, q⟩] at hi; cases hi
    · exact (beq_iff_eq.2 (key.1 hi).2).symm
theorem half_eq (i j : Nat) (h : i + j ≤ 8589934592) : (BitVec.ofInt 64 ((i : Int) + (j : Int)) >>> 1).toInt = (((i + j) / 2 : Nat) : Int) := by
  have e : ((i : Int) + (j : Int)) = ((i + j : Nat) : Int) := by omega
  have e2 : (BitVec.ofNat 64 (i + j) >>> 1).toNat = (i + j) / 2 := by
    rw [BitVec.toNat_ushiftRight, BitVec.toNat_ofNat, Nat.mod_eq_of_lt (by omega), Nat.shiftRight_eq_div_pow]
  rw [e, BitVec.ofInt_natCast, BitVec.toInt_eq_toNat_of_lt (by rw [e2]; omega), e2]
def m60 (l : List Nr) : Mm := [e0, rowE false l]
def i60 (len cap i j : Nat) (a : BitVec 32) : List (Nat × SV) := [(0, .rs 1 0 0 3 len cap), (1, .w32 a), (2, .fn 61 []), (8, .i (len : Nat)), (9, .i (i : Nat)), (10, .i (j : Nat))]
def o60 (len cap i : Nat) (a : BitVec 32) : List (Nat × SV) := [(0, .rs 1 0 0 3 len cap), (1, .w32 a), (2, .fn 61 []), (8, .i (len : Nat)), (9, .i (i : Nat))]
theorem r60 (l : List Nr) (len cap i j i' j' c : Nat) (x : BitVec 32) (a : Prop) : (frK 49 (i60 len cap i j x) fun fr => vround Tryd.prog EBy noL 60 0 fr (m60 l) (Kn (m60 l) 0 49 a (i60 len cap i' j' x) (m60 l) (o60 len cap c x) (m60 l))) = (bif ilt (↑i : Int) (↑j : Int) then bif inI ((↑i : Int) + (↑j : Int)) then bif inR (BitVec.ofInt 64 ((↑i : Int) + (↑j : Int)) >>> 1).toInt len then bif rok 0 (BitVec.ofInt 64 ((↑i : Int) + (↑j : Int)) >>> 1).toInt.toNat 3 NF [] l.length && true then bif ilt (cmpI (l.getD (BitVec.ofInt 64 ((↑i : Int) + (↑j : Int)) >>> 1).toInt.toNat (rz NF)).fst x) 0 then bif inI ((BitVec.ofInt 64 ((↑i : Int) + (↑j : Int)) >>> 1).toInt + 1) then a ∧ SV.rs 1 0 0 3 len cap = SV.rs 1 0 0 3 len cap ∧ SV.w32 x = SV.w32 x ∧ SV.fn 61 [] = SV.fn 61 [] ∧ SV.i (↑len : Int) = SV.i (↑len : Int) ∧ SV.i ((BitVec.ofInt 64 ((↑i : Int) + (↑j : Int)) >>> 1).toInt + 1) = SV.i (↑i' : Int) ∧ SV.i (↑j : Int) = SV.i (↑j' : Int) ∧ (false = false ∧ Cont.a8 HD = Cont.a8 HD) ∧ (false = false ∧ Cont.recs (some 57) NF [] l = Cont.recs (some 57) NF [] l) ∧ True else False else a ∧ SV.rs 1 0 0 3 len cap = SV.rs 1 0 0 3 len cap ∧ SV.w32 x = SV.w32 x ∧ SV.fn 61 [] = SV.fn 61 [] ∧ SV.i (↑len : Int) = SV.i (↑len : Int) ∧ SV.i (↑i : Int) = SV.i (↑i' : Int) ∧ SV.i (BitVec.ofInt 64 ((↑i : Int) + (↑j : Int)) >>> 1).toInt = SV.i (↑j' : Int) ∧ (false = false ∧ Cont.a8 HD = Cont.a8 HD) ∧ (false = false ∧ Cont.recs (some 57) NF [] l = Cont.recs (some 57) NF [] l) ∧ True else False else False else False else 0 = 0 ∧ SV.rs 1 0 0 3 len cap = SV.rs 1 0 0 3 len cap ∧ SV.w32 x = SV.w32 x ∧ SV.fn 61 [] = SV.fn 61 [] ∧ SV.i (↑len : Int) = SV.i (↑len : Int) ∧ SV.i (↑i : Int) = SV.i (↑c : Int) ∧ (false = false ∧ Cont.a8 HD = Cont.a8 HD) ∧ (false = false ∧ Cont.recs (some 57) NF [] l = Cont.recs (some 57) NF [] l) ∧ True) := by kernel_rfl
def L60 (l : List Nr) (len cap c : Nat) (a : BitVec 32) : LT := noL.add 0 (vLoop (m60 l) 49 (i60 len cap 0 len a) (m60 l) (o60 len cap c a) (m60 l))
theorem v60 (l : List Nr) (len cap c : Nat) (a : BitVec 32) (K : SV → Prop) : (vf Tryd.prog EBy (L60 l len cap c a) 60 [.rs 1 0 0 3 len cap, .w32 a, .fn 61 []] (m60 l) (fun r _ => K r)) = (loopOf Tryd.prog 60 0 = loopOf Tryd.prog 60 0 ∧ SV.rs 1 0 0 3 len cap = SV.rs 1 0 0 3 len cap ∧ SV.w32 a = SV.w32 a ∧ SV.fn 61 [] = SV.fn 61 [] ∧ SV.i (↑len : Int) = SV.i (↑len : Int) ∧ SV.i 0 = SV.i (↑0 : Int) ∧ SV.i (↑len : Int) = SV.i (↑len : Int) ∧ (false = false ∧ Cont.a8 HD = Cont.a8 HD) ∧ (false = false ∧ Cont.recs (some 57) NF [] l = Cont.recs (some 57) NF [] l) ∧ bif ilt (↑c : Int) (↑len : Int) then bif inR (↑c : Int) len then bif rok 0 c 3 NF [] l.length && true then K (SV.tup [SV.i (↑c : Int), SV.b (bif true then cmpI (l.getD c (rz NF)).fst a == 0 else false)]) else False else False else K (SV.tup [SV.i (↑c : Int), SV.b false])) := by kernel_rfl
def L60z (P : Program) : LT := noL.add 0 (vUn P EBy noL 60 0 1)
theorem v60z (a : BitVec 32) (K : SV → Prop) : (vf Tryd.prog EBy (L60z Tryd.prog) 60 [.v (.slice none 0 0), .w32 a, .fn 61 []] G (fun r _ => K r)) = (loopOf Tryd.prog 60 0 = loopOf Tryd.prog 60 0 ∧ K (SV.tup [SV.i 0, SV.b false])) := by kernel_rfl
def nxt (l : List Nr) (a : BitVec 32) (p : Nat × Nat) : Nat × Nat := bif (l.getD ((p.1 + p.2) / 2) (rz NF)).1.ult a then ((p.1 + p.2) / 2 + 1, p.2) else (p.1, (p.1 + p.2) / 2)
theorem cmp_ult (a b : BitVec 32) : ilt (cmpI a b) 0 = a.ult b := by
  unfold cmpI
  cases a.ult b
  · cases b.ult a <;> rfl
  · rfl
theorem cmp_eq (a b : BitVec 32) : (cmpI a b == 0) = (a == b) := by
  unfold cmpI
  cases h : a.ult b
  · cases h2 : b.ult a
    · have e : a = b := BitVec.eq_of_toNat_eq (by
        have q1 : ¬ a.toNat < b.toNat := fun q => by rw [ult_iff.2 q] at h; cases h
        have q2 : ¬ b.toNat < a.toNat := fun q => by rw [ult_iff.2 q] at h2; cases h2
        omega)
      subst e; simp
    · symm; show (a == b) = false
      rw [beq_eq_false_iff_ne]; rintro rfl
      rw [ult_iff] at h2; omega
  · symm; show (a == b) = false
    rw [beq_eq_false_iff_ne]; rintro rfl
    rw [ult_iff] at h; omega
theorem s60 (l : List Nr) (len cap : Nat) (a : BitVec 32) (hl : len ≤ l.length) (hb : len ≤ 4294967296) (hs : sortB (l.take len) = true) : Spec Tryd.prog G 60 [.rs 1 0 0 3 len cap, .w32 a, .fn 61 []] (m60 l) (fun r _ => r = .tup [.i (cntL a (l.take len) : Nat), .b (isL a (l.take len))]) := by
  have hlt : (l.take len).length = len := by rw [List.length_take]; omega
  have hc1 := cntL_le a (l.take len)
  have hq := sort_cnt a (l.take len) hs
  rw [hlt] at hc1 hq
  have hL : LOk Tryd.prog G (m60 l) 60 (L60 l len cap (cntL a (l.take len)) a) := by
    refine LT.add_ok (noL_ok _ _ _ _) (loop_next eBy_ok mixed (noL_ok _ _ _ _) (by show 1 ≤ 2; decide) (by kernel_rfl) (fun p : Nat × Nat => i60 len cap p.1 p.2 a) (fun _ => m60 l) (fun p => p.1 ≤ cntL a (l.take len) ∧ cntL a (l.take len) ≤ p.2 ∧ p.2 ≤ len) (fun p => p.2 - p.1) (nxt l a) (0, len) ⟨Nat.zero_le _, hc1, Nat.le_refl _⟩ (fun p hp => of_eq (r60 l len cap p.1 p.2 (nxt l a p).1 (nxt l a p).2 _ a _) ?_))
    obtain ⟨i, j⟩ := p
    obtain ⟨h1, h2, h3⟩ := hp
    replace h1 : i ≤ cntL a (l.take len) := h1
    replace h2 : cntL a (l.take len) ≤ j := h2
    replace h3 : j ≤ len := h3
    show bif ilt (i : Int) (j : Int) then _ else _
    cases hc : ilt (i : Int) (j : Int)
    · have := of_nilt hc
      exact ⟨rfl, rfl, rfl, rfl, rfl, congrArg (fun n : Nat => SV.i (n : Int)) (show i = _ by omega), ⟨rfl, rfl⟩, ⟨rfl, rfl⟩, trivial⟩
    · have hlt2 := of_ilt hc
      have hh : (i + j) / 2 < j := by omega
      have hh2 : i ≤ (i + j) / 2 := by omega
      have hg := hq ((i + j) / 2) (by omega)
      rw [getD_take _ _ _ _ (by omega)] at hg
      show bif inI ((i : Int) + (j : Int)) then _ else _
      rw [half_eq i j (by omega), Int.toNat_natCast, cmp_ult]
      refine bif_of (inI_iff.2 (by omega)) (bif_of (inRn (by omega) hb) (bif_of (rok0 (by omega)) ?_))
      cases hd : (l.getD ((i + j) / 2) (rz NF)).1.ult a
      · have e : nxt l a (i, j) = (i, (i + j) / 2) := by unfold nxt; dsimp only; rw [hd]; rfl
        rw [e]
        have : ¬ (i + j) / 2 < cntL a (l.take len) := fun q => by rw [hg.2 q] at hd; cases hd
        exact ⟨⟨⟨h1, by show cntL a (l.take len) ≤ (i + j) / 2; omega, by show (i + j) / 2 ≤ len; omega⟩, by show (i + j) / 2 - i < j - i; omega⟩, rfl, rfl, rfl, rfl, rfl, rfl, ⟨rfl, rfl⟩, ⟨rfl, rfl⟩, trivial⟩
      · have e : nxt l a (i, j) = ((i + j) / 2 + 1, j) := by unfold nxt; dsimp only; rw [hd]; rfl
        rw [e]
        have := hg.1 hd
        exact bif_of (inI_iff.2 (by omega)) ⟨⟨⟨by show (i + j) / 2 + 1 ≤ cntL a (l.take len); omega, h2, h3⟩, by show j - ((i + j) / 2 + 1) < j - i; omega⟩, rfl, rfl, rfl, rfl, rfl, rfl, ⟨rfl, rfl⟩, ⟨rfl, rfl⟩, trivial⟩
  refine vf_ok eBy_ok mixed hL (of_eq (v60 l len cap _ a _) ⟨rfl, rfl, rfl, rfl, rfl, rfl, rfl, ⟨rfl, rfl⟩, ⟨rfl, rfl⟩, ?_⟩)
  rw [is_cnt a _ hs, hlt]
  cases hc : ilt (cntL a (l.take len) : Int) (len : Int)
  · have h1 := of_nilt hc
    have h2 : Nat.blt (cntL a (l.take len)) len = false := by
      cases hq : Nat.blt (cntL a (l.take len)) len
      · rfl
      · exact absurd (blt_lt hq) h1
    rw [h2]; rfl
  · have h1 := of_ilt hc
    rw [blt_of h1, getD_take _ _ _ _ h1]
    refine bif_of (inRn h1 hb) (bif_of (rok0 (by omega)) ?_)
    rw [cmp_eq]
def cBs : List SV → List Cont → Option (Bool × SV)
  | [.rs _ base eo sz len _, .w32 a, .fn f []], [c, _, _] => match unR c with
    | some l => some (Nat.beq base 0 && (Nat.beq eo 0 && (Nat.beq sz 3 && (Nat.ble len l.length && (Nat.ble len 4294967296 && (Nat.beq f 61 && sortB (l.take len)))))), .tup [.i (cntL a (l.take len) : Nat), .b (isL a (l.take len))])
    | none => none
  | [.v (.slice none 0 0), .w32 _, .fn f []], _ => some (Nat.beq f 61, .tup [.i 0, .b false])
  | _, _ => none
theorem bs_ok : POk Tryd.prog G 60 cBs := by
  intro args acs r hh β M w hR hw ha
  unfold cBs at hh
  split at hh
  · rename_i k base eo sz len cap a f c c1 c2
    split at hh
    · rename_i l hl
      obtain rfl := unR_ok hl
      simp only [Option.some.injEq, Prod.mk.injEq, Bool.and_eq_true] at hh
      obtain ⟨⟨h1, h2, h3, h4, h5, h6, h7⟩, rfl⟩ := hh
      obtain rfl := Nat.eq_of_beq_eq_true h1
      obtain rfl := Nat.eq_of_beq_eq_true h2
      obtain rfl := Nat.eq_of_beq_eq_true h3
      obtain rfl := Nat.eq_of_beq_eq_true h6
      simp only [List.map_cons, List.map_nil, List.cons.injEq, and_true] at ha
      exact pure1 (c := .recs (some 57) NF [] l) (k := k) (args0 := [.rs 1 0 0 3 len cap, .w32 a, .fn 61 []]) (s60 l len cap a (Nat.le_of_ble_eq_true h4) (Nat.le_of_ble_eq_true h5) h7) rfl rfl rfl rfl rfl (fun _ => rfl) hR (tgt_rs ha.1.symm rfl)
    · cases hh
  · rename_i a f
    simp only [Option.some.injEq, Prod.mk.injEq] at hh
    obtain ⟨h6, rfl⟩ := hh
    obtain rfl := Nat.eq_of_beq_eq_true h6
    exact pokE (E := EBy) rfl eBy_ok (LT.un_ok eBy_ok mixed (noL_ok _ _ _ _) (noL_ok _ _ _ _) (by kernel_rfl) 1) (v60z a _) ⟨rfl, rfl⟩ rfl rfl hR
  · cases hh
end Go.Proofs.YtedcileokcbohaaDoor
