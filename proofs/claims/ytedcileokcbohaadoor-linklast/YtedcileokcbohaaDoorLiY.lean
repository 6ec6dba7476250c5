/-
  link: each step of a script of the law LinkLast keeps what holds. No statement is proved here.
-/
import Derived.Test.YtedcileokcbohaaDoorLiW
import Derived.Test.YtedcileokcbohaaDoorLiX
namespace Go.Proofs.YtedcileokcbohaaDoor
open Go.RowKit
set_option linter.unusedVariables false
set_option linter.unusedSimpArgs false
set_option maxRecDepth 100000

def sdS : Option (Nat × Nat × List Nr) → List Nr
  | none => []
  | some (sn, _, sl) => sl.take sn
def sdOk (i : Nat) : Option (Nat × Nat × List Nr) → Prop
  | none => True
  | some (sn, sc, sl) => sn ≤ sc ∧ sl.length = sc ∧ sn ≤ i
structure P6 (q : Int) (f : BitVec 64) (len : Nat) (st : S6) : Prop where
  i : st.i ≤ len
  now : st.now.toNat ≤ 16 * st.i
  ok : st.s.ok = true
  sd : sdOk st.i st.sd
  iv : Iv OWN q f (sdS st.sd) st.now st.s.L
structure H6 (l : List Sr) (len : Nat) (lf : BitVec 16) (q : Int) (f : BitVec 64) : Prop where
  hf : f = BitVec.setWidth 64 lf + BitVec.ofInt 64 1
  hlen : len ≤ 200
  hl : len ≤ l.length
  hw : ∀ i, i < len → stW (l.getD i (rz SF)) ≤ 8192
  hq : okQ q = true
theorem sA_eq (pre : List Value) (l : List Sr) (i : Nat) : sA pre l i = l.getD i (rz SF) := by unfold sA; rw [Nat.sub_self]; rfl
theorem nw_ok {now : BitVec 64} {i : Nat} (h : now.toNat ≤ 16 * i) (hi : i ≤ 200) (r : Sr) : now.toNat ≤ (nwA now r).toNat ∧ (nwA now r).toNat ≤ 16 * (i + 1) := by
  unfold nwA
  have e : (BitVec.ofInt 64 16).toNat = 16 := by decide
  rw [BitVec.toNat_add, BitVec.toNat_umod, e]
  have := Nat.mod_lt r.2.2.2.2.2.2.2.2.1.toNat (show 0 < 16 by decide)
  rw [Nat.mod_eq_of_lt (by omega)]
  omega
theorem f_le {lf : BitVec 16} {f : BitVec 64} (hf : f = BitVec.setWidth 64 lf + BitVec.ofInt 64 1) : f.toNat ≤ 65536 := by
  have h := lf.isLt
  have e : (BitVec.ofInt 64 1).toNat = 1 := by decide
  rw [hf, BitVec.toNat_add, BitVec.toNat_setWidth, e, Nat.mod_eq_of_lt (a := lf.toNat) (by omega)]
  omega
theorem mc_no {n : BitVec 64} (h : n.toNat ≤ 4000) : MC.ule n = false := by
  have e : MC.toNat = 4611686018427387904 := by decide
  rw [BitVec.ule, decide_eq_false_iff_not, e]
  omega
theorem xp {q : Int} {f nw : BitVec 64} {S L1 : List Nr} {s' s1 s2 : TS} (hq : okQ q = true) (h1 : okT s' L1) (hI : Iv OWN q f S nw L1) (hn : nw.toNat + f.toNat < 18446744073709551616) (hm : MC.ule nw = false) (g1 : okT s1 (pasL nw s'.L)) (g2 : okT s2 (pasL nw s'.L)) : X6 q f nw S s1 s2 ∧ ilt q (s2.len : Int) = false ∧ Iv OWN q f S nw s1.L ∧ (!s2.b || s2.len.beq 0) = true := by
  rw [h1.2] at g1 g2
  have hp : pasL nw L1 = kept nw L1 := by unfold pasL; rw [hm]; rfl
  rw [hp] at g1 g2
  have hk := hI.kp nw
  refine ⟨⟨g1.1, by rw [g1.2]; exact hk, by rw [g1.2]; exact kept_twice _ _, by rw [g1.2]; exact g2, hn, hm, hq⟩, ?_, by rw [g1.2]; exact hk, (TS.ok_iff.1 g2.1).1⟩
  have h3 := TS.L_len g2.1
  rw [g2.2] at h3
  have := hk.le
  exact ilt_no (by omega)
theorem ta_eq (r : Sr) (n : BitVec 64) : taA r n = (tkOk OWN r.2.1 r.2.2.1 r.2.2.2.1 r.2.2.2.2.1 n && (r.2.2.2.2.2.1 == OWN && r.2.1 == BitVec.ofInt 16 1)) := rfl
theorem te_eq (r : Sr) (n : BitVec 64) : teA r n = (bif tkOk OWN r.2.1 r.2.2.1 r.2.2.2.1 r.2.2.2.2.1 n then 0 else 2) := rfl
theorem take_said (sl : List Nr) (sn : Nat) (y rest : List Nr) (h : sn ≤ sl.length) : List.take (sn + y.length) (List.take sn sl ++ y ++ rest) = sl.take sn ++ y := List.take_left' (by rw [List.length_append, List.length_take]; omega)
/-- What the checks of an answer come to: nothing is wrong. -/
theorem take_chk {r : Sr} {n : BitVec 64} {T : Prop} (hT : T) : bif teA r n == 0 then bif bif true then r.2.2.2.2.2.1 == OWN else false then bif bif true then !taA r n == bif true then r.2.1 == BitVec.ofInt 16 1 else false else taA r n == bif true then r.2.1 == BitVec.ofInt 16 1 else false then False else bif taA r n then bif !(bif taA r n then r.2.2.1 else []) == r.2.2.1 then False else bif bif false then true else (bif taA r n then r.2.2.2.1 else 0) != r.2.2.2.1 then False else bif bif false then true else bif true then bif false then true else (bif taA r n then OWN else 0) != OWN else false then False else T else T else bif bif true then !taA r n == false else taA r n == false then False else bif taA r n then bif !(bif taA r n then r.2.2.1 else []) == r.2.2.1 then False else bif bif false then true else (bif taA r n then r.2.2.2.1 else 0) != r.2.2.2.1 then False else bif bif false then true else bif true then bif false then true else (bif taA r n then OWN else 0) != OWN else false then False else T else T else bif bif true then !taA r n == false else taA r n == false then False else bif taA r n then bif !(bif taA r n then r.2.2.1 else []) == r.2.2.1 then False else bif bif false then true else (bif taA r n then r.2.2.2.1 else 0) != r.2.2.2.1 then False else bif bif false then true else bif true then bif false then true else (bif taA r n then OWN else 0) != OWN else false then False else T else T := by
  have h1 := ta_eq r n
  have h2 := te_eq r n
  cases hk : tkOk OWN r.2.1 r.2.2.1 r.2.2.2.1 r.2.2.2.2.1 n
  · rw [hk] at h1 h2
    rw [h1, h2]
    exact hT
  · rw [hk] at h1 h2
    rw [h2]
    cases w1 : r.2.2.2.2.2.1 == OWN
    · rw [w1] at h1
      rw [h1]
      exact hT
    · rw [w1] at h1
      cases w2 : r.2.1 == BitVec.ofInt 16 1
      · rw [w2] at h1
        rw [h1]
        exact hT
      · rw [w2] at h1
        rw [h1]
        refine bif_yes rfl (bif_yes rfl (bif_not rfl (bif_yes rfl (bif_not ?_ (bif_not ?_ (bif_not ?_ hT))))))
        · show (!(r.2.2.1 == r.2.2.1)) = false
          rw [beq_self_eq_true]; rfl
        · show (r.2.2.2.1 != r.2.2.2.1) = false
          rw [bne_self_eq_false]
        · show (OWN != OWN) = false
          rw [bne_self_eq_false]
theorem tA1 (pre : List Value) (l : List Sr) (len cap : Nat) (lf : BitVec 16) (q : Int) (f : BitVec 64) (now : BitVec 64) (s : TS) (i : Nat) (H : H6 l len lf q f) (hi : i < len) (hnow : now.toNat ≤ 16 * i) {s' : TS} {cap' : Nat} {rest L1 : List Nr} (h1 : okT s' L1) (hI : Iv OWN q f (syT (sA pre l i) (nwA now (sA pre l i))) (nwA now (sA pre l i)) L1) (hc : (syT (sA pre l i) (nwA now (sA pre l i))).length + rest.length = cap') : r6At1 pre l len cap lf q f now s i (X6 q f) (fun st => P6 q f len st ∧ len - st.i < len - i) True s' cap' rest := by
  have hS : List.take (syT (sA pre l i) (nwA now (sA pre l i))).length ((syT (sA pre l i) (nwA now (sA pre l i))) ++ rest) = (syT (sA pre l i) (nwA now (sA pre l i))) := List.take_left' rfl
  have y1 : (syT (sA pre l i) (nwA now (sA pre l i))).length = 1 := rfl
  have y2 : ((syT (sA pre l i) (nwA now (sA pre l i))) ++ rest).length = cap' := by rw [List.length_append]; exact hc
  unfold r6At1
  obtain ⟨n1, n2⟩ := nw_ok hnow (by have := H.hlen; omega) (sA pre l i)
  have fl := f_le H.hf
  have hlen := H.hlen
  refine ⟨rfl, bif_of h1.1 (bif_of H.hq fun s1 s2 g1 g2 => ?_)⟩
  obtain ⟨x1, x2, x3, x4⟩ := xp H.hq h1 hI (by omega) (mc_no (by omega)) g1 g2
  have sdk : sdOk (i + 1) (some ((syT (sA pre l i) (nwA now (sA pre l i))).length, cap', ((syT (sA pre l i) (nwA now (sA pre l i))) ++ rest))) := ⟨by show (syT (sA pre l i) (nwA now (sA pre l i))).length ≤ cap'; omega, by show List.length ((syT (sA pre l i) (nwA now (sA pre l i))) ++ rest) = cap'; omega, by show (syT (sA pre l i) (nwA now (sA pre l i))).length ≤ i + 1; omega⟩
  exact bif_of x4 (bif_not x2 ⟨rfl, rfl, rfl, rfl, rfl, rfl, rfl, rfl, rfl, rfl, rfl, ⟨rfl, rfl⟩, ⟨rfl, rfl⟩, ⟨rfl, rfl⟩, ⟨rfl, rfl⟩, ⟨rfl, rfl⟩, ⟨rfl, rfl⟩, ⟨by rw [hS]; exact x1, by omega, by omega⟩, fun s3 h3 => bif_of (inI_iff.2 (by omega)) ⟨⟨⟨by show i + 1 ≤ len; omega, n2, h3.1, sdk, by
    show Iv OWN q f (List.take (syT (sA pre l i) (nwA now (sA pre l i))).length ((syT (sA pre l i) (nwA now (sA pre l i))) ++ rest)) _ s3.L
    rw [hS, h3.2]; exact x3⟩, by show len - (i + 1) < len - i; omega⟩, rfl, rfl, rfl, rfl, rfl, rfl, rfl, rfl, ⟨rfl, rfl⟩, ⟨rfl, rfl⟩, ⟨rfl, rfl⟩, ⟨rfl, rfl⟩, ⟨rfl, rfl⟩, trivial⟩⟩)
theorem tS1 (pre : List Value) (l : List Sr) (len cap : Nat) (lf : BitVec 16) (q : Int) (f : BitVec 64) (now : BitVec 64) (s : TS) (sl : List Nr) (sn sc i : Nat) (H : H6 l len lf q f) (hi : i < len) (hnow : now.toNat ≤ 16 * i) (d1 : sn ≤ sc) (d2 : sl.length = sc) (d3 : sn ≤ i) {s' : TS} {cap' : Nat} {rest L1 : List Nr} (h1 : okT s' L1) (hI : Iv OWN q f (sl.take sn ++ (syT (sA pre l i) (nwA now (sA pre l i)))) (nwA now (sA pre l i)) L1) (hc : sn + (syT (sA pre l i) (nwA now (sA pre l i))).length + rest.length = cap') : r6St1 pre l len cap lf q f now s sl sn sc i (X6 q f) (fun st => P6 q f len st ∧ len - st.i < len - i) True s' cap' rest := by
  have hS := take_said sl sn (syT (sA pre l i) (nwA now (sA pre l i))) rest (by omega)
  have y1 : (syT (sA pre l i) (nwA now (sA pre l i))).length = 1 := rfl
  have y2 : (List.take sn sl ++ (syT (sA pre l i) (nwA now (sA pre l i))) ++ rest).length = cap' := by rw [List.length_append, List.length_append, List.length_take]; omega
  unfold r6St1
  obtain ⟨n1, n2⟩ := nw_ok hnow (by have := H.hlen; omega) (sA pre l i)
  have fl := f_le H.hf
  have hlen := H.hlen
  refine ⟨rfl, bif_of h1.1 (bif_of H.hq fun s1 s2 g1 g2 => ?_)⟩
  obtain ⟨x1, x2, x3, x4⟩ := xp H.hq h1 hI (by omega) (mc_no (by omega)) g1 g2
  have sdk : sdOk (i + 1) (some ((sn + (syT (sA pre l i) (nwA now (sA pre l i))).length), cap', (List.take sn sl ++ (syT (sA pre l i) (nwA now (sA pre l i))) ++ rest))) := ⟨by show (sn + (syT (sA pre l i) (nwA now (sA pre l i))).length) ≤ cap'; omega, by show List.length (List.take sn sl ++ (syT (sA pre l i) (nwA now (sA pre l i))) ++ rest) = cap'; omega, by show (sn + (syT (sA pre l i) (nwA now (sA pre l i))).length) ≤ i + 1; omega⟩
  exact bif_of x4 (bif_not x2 ⟨rfl, rfl, rfl, rfl, rfl, rfl, rfl, rfl, rfl, rfl, rfl, ⟨rfl, rfl⟩, ⟨rfl, rfl⟩, ⟨rfl, rfl⟩, ⟨rfl, rfl⟩, ⟨rfl, rfl⟩, ⟨rfl, rfl⟩, ⟨by rw [hS]; exact x1, by omega, by omega⟩, fun s3 h3 => bif_of (inI_iff.2 (by omega)) ⟨⟨⟨by show i + 1 ≤ len; omega, n2, h3.1, sdk, by
    show Iv OWN q f (List.take (sn + (syT (sA pre l i) (nwA now (sA pre l i))).length) (List.take sn sl ++ (syT (sA pre l i) (nwA now (sA pre l i))) ++ rest)) _ s3.L
    rw [hS, h3.2]; exact x3⟩, by show len - (i + 1) < len - i; omega⟩, rfl, rfl, rfl, rfl, rfl, rfl, rfl, rfl, ⟨rfl, rfl⟩, ⟨rfl, rfl⟩, ⟨rfl, rfl⟩, ⟨rfl, rfl⟩, ⟨rfl, rfl⟩, trivial⟩⟩)
theorem tA3 (pre : List Value) (l : List Sr) (len cap : Nat) (lf : BitVec 16) (q : Int) (f : BitVec 64) (now : BitVec 64) (s : TS) (i : Nat) (H : H6 l len lf q f) (hi : i < len) (hnow : now.toNat ≤ 16 * i) {s' : TS} {cap' : Nat} {rest L1 : List Nr} (h1 : okT s' L1) (hI : Iv OWN q f (syL (sA pre l i) (nwA now (sA pre l i))) (nwA now (sA pre l i)) L1) (hc : (syL (sA pre l i) (nwA now (sA pre l i))).length + rest.length = cap') : r6At3 pre l len cap lf q f now s i (X6 q f) (fun st => P6 q f len st ∧ len - st.i < len - i) True s' cap' rest := by
  have hS : List.take (syL (sA pre l i) (nwA now (sA pre l i))).length ((syL (sA pre l i) (nwA now (sA pre l i))) ++ rest) = (syL (sA pre l i) (nwA now (sA pre l i))) := List.take_left' rfl
  have y1 : (syL (sA pre l i) (nwA now (sA pre l i))).length = 1 := rfl
  have y2 : ((syL (sA pre l i) (nwA now (sA pre l i))) ++ rest).length = cap' := by rw [List.length_append]; exact hc
  unfold r6At3
  obtain ⟨n1, n2⟩ := nw_ok hnow (by have := H.hlen; omega) (sA pre l i)
  have fl := f_le H.hf
  have hlen := H.hlen
  refine ⟨rfl, bif_of h1.1 (bif_of H.hq fun s1 s2 g1 g2 => ?_)⟩
  obtain ⟨x1, x2, x3, x4⟩ := xp H.hq h1 hI (by omega) (mc_no (by omega)) g1 g2
  have sdk : sdOk (i + 1) (some ((syL (sA pre l i) (nwA now (sA pre l i))).length, cap', ((syL (sA pre l i) (nwA now (sA pre l i))) ++ rest))) := ⟨by show (syL (sA pre l i) (nwA now (sA pre l i))).length ≤ cap'; omega, by show List.length ((syL (sA pre l i) (nwA now (sA pre l i))) ++ rest) = cap'; omega, by show (syL (sA pre l i) (nwA now (sA pre l i))).length ≤ i + 1; omega⟩
  exact bif_of x4 (bif_not x2 ⟨rfl, rfl, rfl, rfl, rfl, rfl, rfl, rfl, rfl, rfl, rfl, ⟨rfl, rfl⟩, ⟨rfl, rfl⟩, ⟨rfl, rfl⟩, ⟨rfl, rfl⟩, ⟨rfl, rfl⟩, ⟨rfl, rfl⟩, ⟨by rw [hS]; exact x1, by omega, by omega⟩, fun s3 h3 => bif_of (inI_iff.2 (by omega)) ⟨⟨⟨by show i + 1 ≤ len; omega, n2, h3.1, sdk, by
    show Iv OWN q f (List.take (syL (sA pre l i) (nwA now (sA pre l i))).length ((syL (sA pre l i) (nwA now (sA pre l i))) ++ rest)) _ s3.L
    rw [hS, h3.2]; exact x3⟩, by show len - (i + 1) < len - i; omega⟩, rfl, rfl, rfl, rfl, rfl, rfl, rfl, rfl, ⟨rfl, rfl⟩, ⟨rfl, rfl⟩, ⟨rfl, rfl⟩, ⟨rfl, rfl⟩, ⟨rfl, rfl⟩, trivial⟩⟩)
theorem tS3 (pre : List Value) (l : List Sr) (len cap : Nat) (lf : BitVec 16) (q : Int) (f : BitVec 64) (now : BitVec 64) (s : TS) (sl : List Nr) (sn sc i : Nat) (H : H6 l len lf q f) (hi : i < len) (hnow : now.toNat ≤ 16 * i) (d1 : sn ≤ sc) (d2 : sl.length = sc) (d3 : sn ≤ i) {s' : TS} {cap' : Nat} {rest L1 : List Nr} (h1 : okT s' L1) (hI : Iv OWN q f (sl.take sn ++ (syL (sA pre l i) (nwA now (sA pre l i)))) (nwA now (sA pre l i)) L1) (hc : sn + (syL (sA pre l i) (nwA now (sA pre l i))).length + rest.length = cap') : r6St3 pre l len cap lf q f now s sl sn sc i (X6 q f) (fun st => P6 q f len st ∧ len - st.i < len - i) True s' cap' rest := by
  have hS := take_said sl sn (syL (sA pre l i) (nwA now (sA pre l i))) rest (by omega)
  have y1 : (syL (sA pre l i) (nwA now (sA pre l i))).length = 1 := rfl
  have y2 : (List.take sn sl ++ (syL (sA pre l i) (nwA now (sA pre l i))) ++ rest).length = cap' := by rw [List.length_append, List.length_append, List.length_take]; omega
  unfold r6St3
  obtain ⟨n1, n2⟩ := nw_ok hnow (by have := H.hlen; omega) (sA pre l i)
  have fl := f_le H.hf
  have hlen := H.hlen
  refine ⟨rfl, bif_of h1.1 (bif_of H.hq fun s1 s2 g1 g2 => ?_)⟩
  obtain ⟨x1, x2, x3, x4⟩ := xp H.hq h1 hI (by omega) (mc_no (by omega)) g1 g2
  have sdk : sdOk (i + 1) (some ((sn + (syL (sA pre l i) (nwA now (sA pre l i))).length), cap', (List.take sn sl ++ (syL (sA pre l i) (nwA now (sA pre l i))) ++ rest))) := ⟨by show (sn + (syL (sA pre l i) (nwA now (sA pre l i))).length) ≤ cap'; omega, by show List.length (List.take sn sl ++ (syL (sA pre l i) (nwA now (sA pre l i))) ++ rest) = cap'; omega, by show (sn + (syL (sA pre l i) (nwA now (sA pre l i))).length) ≤ i + 1; omega⟩
  exact bif_of x4 (bif_not x2 ⟨rfl, rfl, rfl, rfl, rfl, rfl, rfl, rfl, rfl, rfl, rfl, ⟨rfl, rfl⟩, ⟨rfl, rfl⟩, ⟨rfl, rfl⟩, ⟨rfl, rfl⟩, ⟨rfl, rfl⟩, ⟨rfl, rfl⟩, ⟨by rw [hS]; exact x1, by omega, by omega⟩, fun s3 h3 => bif_of (inI_iff.2 (by omega)) ⟨⟨⟨by show i + 1 ≤ len; omega, n2, h3.1, sdk, by
    show Iv OWN q f (List.take (sn + (syL (sA pre l i) (nwA now (sA pre l i))).length) (List.take sn sl ++ (syL (sA pre l i) (nwA now (sA pre l i))) ++ rest)) _ s3.L
    rw [hS, h3.2]; exact x3⟩, by show len - (i + 1) < len - i; omega⟩, rfl, rfl, rfl, rfl, rfl, rfl, rfl, rfl, ⟨rfl, rfl⟩, ⟨rfl, rfl⟩, ⟨rfl, rfl⟩, ⟨rfl, rfl⟩, ⟨rfl, rfl⟩, trivial⟩⟩)
theorem tA2 (pre : List Value) (l : List Sr) (len cap : Nat) (lf : BitVec 16) (q : Int) (f : BitVec 64) (now : BitVec 64) (s : TS) (i : Nat) (H : H6 l len lf q f) (hi : i < len) (hnow : now.toNat ≤ 16 * i) {s' : TS} {L1 : List Nr} (h1 : okT s' L1) (hI : Iv OWN q f [] (nwA now (sA pre l i)) L1) : r6At2 pre l len cap lf q f now s i (X6 q f) (fun st => P6 q f len st ∧ len - st.i < len - i) True s' := by
  unfold r6At2
  obtain ⟨n1, n2⟩ := nw_ok hnow (by have := H.hlen; omega) (sA pre l i)
  have fl := f_le H.hf
  have hlen := H.hlen
  refine ⟨rfl, bif_of h1.1 (bif_of H.hq fun s1 s2 g1 g2 => ?_)⟩
  obtain ⟨x1, x2, x3, x4⟩ := xp H.hq h1 hI (by omega) (mc_no (by omega)) g1 g2
  exact bif_of x4 (bif_not x2 ⟨rfl, rfl, rfl, rfl, rfl, rfl, rfl, rfl, rfl, rfl, rfl, ⟨rfl, rfl⟩, ⟨rfl, rfl⟩, ⟨rfl, rfl⟩, ⟨rfl, rfl⟩, ⟨rfl, rfl⟩, x1, bif_of (inI_iff.2 (by omega)) ⟨⟨⟨by show i + 1 ≤ len; omega, n2, x1.1, trivial, x3⟩, by show len - (i + 1) < len - i; omega⟩, rfl, rfl, rfl, rfl, rfl, rfl, rfl, rfl, ⟨rfl, rfl⟩, ⟨rfl, rfl⟩, ⟨rfl, rfl⟩, ⟨rfl, rfl⟩, trivial⟩⟩)
theorem tS2 (pre : List Value) (l : List Sr) (len cap : Nat) (lf : BitVec 16) (q : Int) (f : BitVec 64) (now : BitVec 64) (s : TS) (sl : List Nr) (sn sc i : Nat) (H : H6 l len lf q f) (hi : i < len) (hnow : now.toNat ≤ 16 * i) (d1 : sn ≤ sc) (d2 : sl.length = sc) (d3 : sn ≤ i) {s' : TS} {L1 : List Nr} (h1 : okT s' L1) (hI : Iv OWN q f (sl.take sn) (nwA now (sA pre l i)) L1) : r6St2 pre l len cap lf q f now s sl sn sc i (X6 q f) (fun st => P6 q f len st ∧ len - st.i < len - i) True s' := by
  have hS : List.take sn sl = List.take sn sl := rfl
  unfold r6St2
  obtain ⟨n1, n2⟩ := nw_ok hnow (by have := H.hlen; omega) (sA pre l i)
  have fl := f_le H.hf
  have hlen := H.hlen
  refine ⟨rfl, bif_of h1.1 (bif_of H.hq fun s1 s2 g1 g2 => ?_)⟩
  obtain ⟨x1, x2, x3, x4⟩ := xp H.hq h1 hI (by omega) (mc_no (by omega)) g1 g2
  have sdk : sdOk (i + 1) (some (sn, sc, sl)) := ⟨by show sn ≤ sc; omega, by show List.length sl = sc; omega, by show sn ≤ i + 1; omega⟩
  exact bif_of x4 (bif_not x2 ⟨rfl, rfl, rfl, rfl, rfl, rfl, rfl, rfl, rfl, rfl, rfl, ⟨rfl, rfl⟩, ⟨rfl, rfl⟩, ⟨rfl, rfl⟩, ⟨rfl, rfl⟩, ⟨rfl, rfl⟩, ⟨rfl, rfl⟩, ⟨by rw [hS]; exact x1, by omega, by omega⟩, fun s3 h3 => bif_of (inI_iff.2 (by omega)) ⟨⟨⟨by show i + 1 ≤ len; omega, n2, h3.1, sdk, by
    show Iv OWN q f (List.take sn sl) _ s3.L
    rw [hS, h3.2]; exact x3⟩, by show len - (i + 1) < len - i; omega⟩, rfl, rfl, rfl, rfl, rfl, rfl, rfl, rfl, ⟨rfl, rfl⟩, ⟨rfl, rfl⟩, ⟨rfl, rfl⟩, ⟨rfl, rfl⟩, ⟨rfl, rfl⟩, trivial⟩⟩)
theorem tA4 (pre : List Value) (l : List Sr) (len cap : Nat) (lf : BitVec 16) (q : Int) (f : BitVec 64) (now : BitVec 64) (s : TS) (i : Nat) (H : H6 l len lf q f) (hi : i < len) (hnow : now.toNat ≤ 16 * i) {s' : TS} {L1 : List Nr} (h1 : okT s' L1) (hI : Iv OWN q f [] (nwA now (sA pre l i)) L1) : r6At4 pre l len cap lf q f now s i (X6 q f) (fun st => P6 q f len st ∧ len - st.i < len - i) True s' := by
  unfold r6At4
  obtain ⟨n1, n2⟩ := nw_ok hnow (by have := H.hlen; omega) (sA pre l i)
  have fl := f_le H.hf
  have hlen := H.hlen
  refine ⟨rfl, bif_of h1.1 (bif_of H.hq fun s1 s2 g1 g2 => ?_)⟩
  obtain ⟨x1, x2, x3, x4⟩ := xp H.hq h1 hI (by omega) (mc_no (by omega)) g1 g2
  exact bif_of x4 (bif_not x2 ⟨rfl, rfl, rfl, rfl, rfl, rfl, rfl, rfl, rfl, rfl, rfl, ⟨rfl, rfl⟩, ⟨rfl, rfl⟩, ⟨rfl, rfl⟩, ⟨rfl, rfl⟩, ⟨rfl, rfl⟩, x1, bif_of (inI_iff.2 (by omega)) ⟨⟨⟨by show i + 1 ≤ len; omega, n2, x1.1, trivial, x3⟩, by show len - (i + 1) < len - i; omega⟩, rfl, rfl, rfl, rfl, rfl, rfl, rfl, rfl, ⟨rfl, rfl⟩, ⟨rfl, rfl⟩, ⟨rfl, rfl⟩, ⟨rfl, rfl⟩, trivial⟩⟩)
theorem tS4 (pre : List Value) (l : List Sr) (len cap : Nat) (lf : BitVec 16) (q : Int) (f : BitVec 64) (now : BitVec 64) (s : TS) (sl : List Nr) (sn sc i : Nat) (H : H6 l len lf q f) (hi : i < len) (hnow : now.toNat ≤ 16 * i) (d1 : sn ≤ sc) (d2 : sl.length = sc) (d3 : sn ≤ i) {s' : TS} {L1 : List Nr} (h1 : okT s' L1) (hI : Iv OWN q f (sl.take sn) (nwA now (sA pre l i)) L1) : r6St4 pre l len cap lf q f now s sl sn sc i (X6 q f) (fun st => P6 q f len st ∧ len - st.i < len - i) True s' := by
  have hS : List.take sn sl = List.take sn sl := rfl
  unfold r6St4
  obtain ⟨n1, n2⟩ := nw_ok hnow (by have := H.hlen; omega) (sA pre l i)
  have fl := f_le H.hf
  have hlen := H.hlen
  refine ⟨rfl, bif_of h1.1 (bif_of H.hq fun s1 s2 g1 g2 => ?_)⟩
  obtain ⟨x1, x2, x3, x4⟩ := xp H.hq h1 hI (by omega) (mc_no (by omega)) g1 g2
  have sdk : sdOk (i + 1) (some (sn, sc, sl)) := ⟨by show sn ≤ sc; omega, by show List.length sl = sc; omega, by show sn ≤ i + 1; omega⟩
  exact bif_of x4 (bif_not x2 ⟨rfl, rfl, rfl, rfl, rfl, rfl, rfl, rfl, rfl, rfl, rfl, ⟨rfl, rfl⟩, ⟨rfl, rfl⟩, ⟨rfl, rfl⟩, ⟨rfl, rfl⟩, ⟨rfl, rfl⟩, ⟨rfl, rfl⟩, ⟨by rw [hS]; exact x1, by omega, by omega⟩, fun s3 h3 => bif_of (inI_iff.2 (by omega)) ⟨⟨⟨by show i + 1 ≤ len; omega, n2, h3.1, sdk, by
    show Iv OWN q f (List.take sn sl) _ s3.L
    rw [hS, h3.2]; exact x3⟩, by show len - (i + 1) < len - i; omega⟩, rfl, rfl, rfl, rfl, rfl, rfl, rfl, rfl, ⟨rfl, rfl⟩, ⟨rfl, rfl⟩, ⟨rfl, rfl⟩, ⟨rfl, rfl⟩, ⟨rfl, rfl⟩, trivial⟩⟩)
theorem round6A (pre : List Value) (l : List Sr) (len cap : Nat) (lf : BitVec 16) (q : Int) (f : BitVec 64) (now : BitVec 64) (s : TS) (i : Nat) (H : H6 l len lf q f) (hnow : now.toNat ≤ 16 * i) (hs : s.ok = true) (hI : Iv OWN q f [] now s.L) : frK 258 (i6A pre len cap lf q now i) fun fr => vround Tryd.prog E6 (L6o pre l len cap lf q f i (X6 q f)) 6 0 fr (mA pre l q f s) (Kp (mH pre l) 0 258 (sel6 i) (fun st => P6 q f len st ∧ len - st.i < len - i) (I6 pre len cap lf q) (M6 pre l q f) True [] (mH pre l)) := by
  refine of_eq (r6A pre l len cap lf q f now s i (X6 q f) _ True) ?_
  cases hc : ilt (i : Int) (len : Int)
  · exact ⟨rfl, trivial, ⟨rfl, rfl⟩, ⟨rfl, rfl⟩, trivial⟩
  · have hi := of_ilt hc
    have hlen := H.hlen
    have hl := H.hl
    have hw := H.hw i hi
    rw [← sA_eq pre l i] at hw
    unfold stW at hw
    obtain ⟨n1, n2⟩ := nw_ok hnow (by omega) (sA pre l i)
    have hv := hI.later n1
    refine bif_of (inRn hi (by omega)) (bif_of (and_t (rok_s pre (by omega)) rfl) ?_)
    cases d0 : (sA pre l i).fst == 0
    · cases d1' : (sA pre l i).fst == 1
      · have h1 : okT s s.L := ⟨hs, rfl⟩
        have hI := hv
        obtain ⟨n1, n2⟩ := nw_ok hnow (by have := H.hlen; omega) (sA pre l i)
        have fl := f_le H.hf
        have hlen := H.hlen
        refine ⟨rfl, bif_of h1.1 (bif_of H.hq fun s1 s2 g1 g2 => ?_)⟩
        obtain ⟨x1, x2, x3, x4⟩ := xp H.hq h1 hI (by omega) (mc_no (by omega)) g1 g2
        exact bif_of x4 (bif_not x2 ⟨rfl, rfl, rfl, rfl, rfl, rfl, rfl, rfl, rfl, rfl, rfl, ⟨rfl, rfl⟩, ⟨rfl, rfl⟩, ⟨rfl, rfl⟩, ⟨rfl, rfl⟩, ⟨rfl, rfl⟩, x1, bif_of (inI_iff.2 (by omega)) ⟨⟨⟨by show i + 1 ≤ len; omega, n2, x1.1, trivial, x3⟩, by show len - (i + 1) < len - i; omega⟩, rfl, rfl, rfl, rfl, rfl, rfl, rfl, rfl, ⟨rfl, rfl⟩, ⟨rfl, rfl⟩, ⟨rfl, rfl⟩, ⟨rfl, rfl⟩, trivial⟩⟩)
      · refine ⟨rfl, bif_of hs (bif_of (and_t hI.so (and_t (ble_of (by omega)) H.hq)) fun s' h1 => ?_)⟩
        by_cases he : lnE q OWN (sA pre l i).2.2.2.2.2.2.1 (sA pre l i).2.2.2.2.2.2.2.1 (nwA now (sA pre l i)) s.L = 0
        · exact bif_yes (by rw [he]; rfl) (fun cap' rest hc => tA3 pre l len cap lf q f now s i H hi hnow h1 (hv.learn he) hc)
        · exact bif_not (by rw [beq_eq_false_iff_ne]; exact he) (tA4 pre l len cap lf q f now s i H hi hnow h1 (hv.learnt he))
    · refine ⟨rfl, bif_of hs (bif_of (and_t hI.so (and_t (ble_of (by omega)) H.hq)) fun s' h1 => ?_)⟩
      have he := te_eq (sA pre l i) (nwA now (sA pre l i))
      cases hk : tkOk OWN (sA pre l i).2.1 (sA pre l i).2.2.1 (sA pre l i).2.2.2.1 (sA pre l i).2.2.2.2.1 (nwA now (sA pre l i))
      · rw [hk] at he
        exact bif_not (by rw [he]; rfl) (take_chk (tA2 pre l len cap lf q f now s i H hi hnow h1 (hv.took hk)))
      · rw [hk] at he
        exact bif_yes (by rw [he]; rfl) (fun cap' rest hc => take_chk (tA1 pre l len cap lf q f now s i H hi hnow h1 (hv.take hk) hc))
theorem round6S (pre : List Value) (l : List Sr) (len cap : Nat) (lf : BitVec 16) (q : Int) (f : BitVec 64) (now : BitVec 64) (s : TS) (sl : List Nr) (sn sc i : Nat) (H : H6 l len lf q f) (hnow : now.toNat ≤ 16 * i) (d1 : sn ≤ sc) (d2 : sl.length = sc) (d3 : sn ≤ i) (hs : s.ok = true) (hI : Iv OWN q f (sl.take sn) now s.L) : frK 258 (i6S pre len cap lf q now sn sc i) fun fr => vround Tryd.prog E6 (L6o pre l len cap lf q f i (X6 q f)) 6 0 fr (mS pre l q f s sl) (Kp (mH pre l) 0 258 (sel6 i) (fun st => P6 q f len st ∧ len - st.i < len - i) (I6 pre len cap lf q) (M6 pre l q f) True [] (mH pre l)) := by
  refine of_eq (r6S pre l len cap lf q f now s sl sn sc i (X6 q f) _ True) ?_
  cases hc : ilt (i : Int) (len : Int)
  · exact ⟨rfl, trivial, ⟨rfl, rfl⟩, ⟨rfl, rfl⟩, trivial⟩
  · have hi := of_ilt hc
    have hlen := H.hlen
    have hl := H.hl
    have hw := H.hw i hi
    rw [← sA_eq pre l i] at hw
    unfold stW at hw
    obtain ⟨n1, n2⟩ := nw_ok hnow (by omega) (sA pre l i)
    have hv := hI.later n1
    refine bif_of (inRn hi (by omega)) (bif_of (and_t (rok_s pre (by omega)) rfl) ?_)
    cases d0 : (sA pre l i).fst == 0
    · cases d1' : (sA pre l i).fst == 1
      · have h1 : okT s s.L := ⟨hs, rfl⟩
        have hI := hv
        have hS : List.take sn sl = List.take sn sl := rfl
        obtain ⟨n1, n2⟩ := nw_ok hnow (by have := H.hlen; omega) (sA pre l i)
        have fl := f_le H.hf
        have hlen := H.hlen
        refine ⟨rfl, bif_of h1.1 (bif_of H.hq fun s1 s2 g1 g2 => ?_)⟩
        obtain ⟨x1, x2, x3, x4⟩ := xp H.hq h1 hI (by omega) (mc_no (by omega)) g1 g2
        have sdk : sdOk (i + 1) (some (sn, sc, sl)) := ⟨by show sn ≤ sc; omega, by show List.length sl = sc; omega, by show sn ≤ i + 1; omega⟩
        exact bif_of x4 (bif_not x2 ⟨rfl, rfl, rfl, rfl, rfl, rfl, rfl, rfl, rfl, rfl, rfl, ⟨rfl, rfl⟩, ⟨rfl, rfl⟩, ⟨rfl, rfl⟩, ⟨rfl, rfl⟩, ⟨rfl, rfl⟩, ⟨rfl, rfl⟩, ⟨by rw [hS]; exact x1, by omega, by omega⟩, fun s3 h3 => bif_of (inI_iff.2 (by omega)) ⟨⟨⟨by show i + 1 ≤ len; omega, n2, h3.1, sdk, by
          show Iv OWN q f (List.take sn sl) _ s3.L
          rw [hS, h3.2]; exact x3⟩, by show len - (i + 1) < len - i; omega⟩, rfl, rfl, rfl, rfl, rfl, rfl, rfl, rfl, ⟨rfl, rfl⟩, ⟨rfl, rfl⟩, ⟨rfl, rfl⟩, ⟨rfl, rfl⟩, ⟨rfl, rfl⟩, trivial⟩⟩)
      · refine ⟨rfl, bif_of hs (bif_of (and_t hI.so (and_t (ble_of (by omega)) H.hq)) fun s' h1 => ?_)⟩
        by_cases he : lnE q OWN (sA pre l i).2.2.2.2.2.2.1 (sA pre l i).2.2.2.2.2.2.2.1 (nwA now (sA pre l i)) s.L = 0
        · exact bif_yes (by rw [he]; rfl) (bif_of (and_t (ble_of d1) (and_t (by rw [d2]; exact Nat.beq_refl _) (and_t (ble_of (by show sn + 1 ≤ 33554432; omega)) rfl))) fun cap' rest hc => tS3 pre l len cap lf q f now s sl sn sc i H hi hnow d1 d2 d3 h1 (hv.learn he) hc)
        · exact bif_not (by rw [beq_eq_false_iff_ne]; exact he) (tS4 pre l len cap lf q f now s sl sn sc i H hi hnow d1 d2 d3 h1 (hv.learnt he))
    · refine ⟨rfl, bif_of hs (bif_of (and_t hI.so (and_t (ble_of (by omega)) H.hq)) fun s' h1 => ?_)⟩
      have he := te_eq (sA pre l i) (nwA now (sA pre l i))
      cases hk : tkOk OWN (sA pre l i).2.1 (sA pre l i).2.2.1 (sA pre l i).2.2.2.1 (sA pre l i).2.2.2.2.1 (nwA now (sA pre l i))
      · rw [hk] at he
        exact bif_not (by rw [he]; rfl) (take_chk (tS2 pre l len cap lf q f now s sl sn sc i H hi hnow d1 d2 d3 h1 (hv.took hk)))
      · rw [hk] at he
        exact bif_yes (by rw [he]; rfl) (bif_of (and_t (ble_of d1) (and_t (by rw [d2]; exact Nat.beq_refl _) (and_t (ble_of (by show sn + 1 ≤ 33554432; omega)) rfl))) fun cap' rest hc => take_chk (tS1 pre l len cap lf q f now s sl sn sc i H hi hnow d1 d2 d3 h1 (hv.take hk) hc))
end Go.Proofs.YtedcileokcbohaaDoor
