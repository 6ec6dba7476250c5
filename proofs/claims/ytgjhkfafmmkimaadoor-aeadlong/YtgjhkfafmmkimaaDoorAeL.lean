/-
  aead: two blocks, reckoned. No statement is proved here.
-/
import Derived.Test.YtgjhkfafmmkimaaDoorAeJ
namespace Go.Proofs.YtgjhkfafmmkimaaDoor
open Go.RowKit
set_option linter.unusedVariables false
set_option linter.unusedSimpArgs false
set_option maxRecDepth 100000

/-- A word that is worked out before use. -/
def fw32 (x : BitVec 32) (K : BitVec 32 → Prop) : Prop := Nat.rec (motive := fun _ => Prop) (K 0#32) (fun m _ => K (BitVec.ofNat 32 (m + 1))) x.toNat
theorem fw32_eq (x : BitVec 32) (K : BitVec 32 → Prop) : fw32 x K = K x := by
  have key : ∀ n : Nat, x.toNat = n → Nat.rec (motive := fun _ => Prop) (K 0#32) (fun m _ => K (BitVec.ofNat 32 (m + 1))) n = K x := by
    intro n h
    cases n with
    | zero =>
      have : 0#32 = x := BitVec.eq_of_toNat_eq (by rw [h]; rfl)
      exact congrArg K this
    | succ m =>
      have : BitVec.ofNat 32 (m + 1) = x := BitVec.eq_of_toNat_eq (by rw [h, BitVec.toNat_ofNat]; have := x.isLt; omega)
      exact congrArg K this
  exact key x.toNat rfl
def fl32 : Ws → (Ws → Prop) → Prop
  | [], K => K []
  | x :: l, K => fw32 x fun y => fl32 l fun m => K (y :: m)
theorem fl32_eq : ∀ (l : Ws) (K : Ws → Prop), fl32 l K = K l
  | [], K => rfl
  | x :: l, K => by rw [fl32, fw32_eq, fl32_eq l]
def mix1F (l : Ws) (a b c d : Nat) (m n : BitVec 64) (K : Ws → Prop) : Prop := fl32 (ad l a b) fun l1 => fl32 (xr l1 d a m) fun l2 => fl32 (ad l2 c d) fun l3 => fl32 (xr l3 b c n) K
theorem mix1F_eq (l : Ws) (a b c d : Nat) (m n : BitVec 64) (K : Ws → Prop) : mix1F l a b c d m n K = K (mix1 l a b c d m n) := by
  unfold mix1F
  rw [fl32_eq, fl32_eq, fl32_eq, fl32_eq]
  rfl
def mixF (l : Ws) (a b c d : Nat) (K : Ws → Prop) : Prop := mix1F l a b c d (BitVec.ofInt 64 (16 - 8 * ((0 : Nat) : Int))) (BitVec.ofInt 64 (12 - 5 * ((0 : Nat) : Int))) fun l1 => mix1F l1 a b c d (BitVec.ofInt 64 (16 - 8 * ((1 : Nat) : Int))) (BitVec.ofInt 64 (12 - 5 * ((1 : Nat) : Int))) K
theorem mixF_eq (l : Ws) (a b c d : Nat) (K : Ws → Prop) : mixF l a b c d K = K (mixL l a b c d) := by
  unfold mixF
  rw [mix1F_eq, mix1F_eq]
  rfl
def dblF (y : Ws) (K : Ws → Prop) : Prop := mixF y 0 4 8 12 fun y => mixF y 1 5 9 13 fun y => mixF y 2 6 10 14 fun y => mixF y 3 7 11 15 fun y => mixF y 0 5 10 15 fun y => mixF y 1 6 11 12 fun y => mixF y 2 7 8 13 fun y => mixF y 3 4 9 14 K
theorem dblF_eq (y : Ws) (K : Ws → Prop) : dblF y K = K (dbl y) := by
  unfold dblF dbl
  simp only [mixF_eq]
def dblsF (x : Ws) : Nat → (Ws → Prop) → Prop
  | 0, K => K x
  | i + 1, K => dblsF x i fun y => dblF y K
theorem dblsF_eq (x : Ws) : ∀ (i : Nat) (K : Ws → Prop), dblsF x i K = K (dbls x i)
  | 0, K => rfl
  | i + 1, K => by rw [dblsF, dblsF_eq x i, dblF_eq]; rfl
def rdF (s : Tx) : Nat → (Ws → Prop) → Prop
  | 0, K => K (List.replicate 16 0)
  | j + 1, K => rdF s j fun l => fl32 (l.set ((63 - j) / 4) (l.getD ((63 - j) / 4) 0 <<< 8 ||| (s.getD (63 - j) 0).setWidth 32)) K
theorem rdF_eq (s : Tx) : ∀ (j : Nat) (K : Ws → Prop), rdF s j K = K (rdS s j)
  | 0, K => rfl
  | j + 1, K => by rw [rdF, rdF_eq s j, fl32_eq]; rfl
def blkF (key nonce : Tx) (n : BitVec 32) (K : Tx → Prop) : Prop := rdF (blkS key nonce n) 64 fun x => dblsF x 10 fun y => K (ouS x y 64)
theorem blkF_eq (key nonce : Tx) (n : BitVec 32) (K : Tx → Prop) : blkF key nonce n K = K (blockR key nonce n) := by
  unfold blkF
  rw [rdF_eq, dblsF_eq]
  rfl
def K0 : Tx := List.replicate 32 0
def N0 : Tx := List.replicate 12 0
def B0 : Tx := [118, 184, 224, 173, 160, 241, 61, 144, 64, 93, 106, 229, 83, 134, 189, 40, 189, 210, 25, 184, 160, 141, 237, 26, 168, 54, 239, 204, 139, 119, 13, 199, 218, 65, 89, 124, 81, 87, 72, 141, 119, 36, 224, 63, 184, 216, 74, 55, 106, 67, 184, 244, 21, 24, 161, 28, 195, 135, 182, 105, 178, 238, 101, 134]
def B1 : Tx := [159, 7, 231, 190, 85, 81, 56, 122, 152, 186, 151, 124, 115, 45, 8, 13, 203, 15, 41, 160, 72, 227, 101, 105, 18, 198, 83, 62, 50, 238, 122, 237, 41, 183, 33, 118, 156, 230, 78, 67, 213, 113, 51, 176, 116, 216, 57, 213, 49, 237, 31, 40, 81, 10, 251, 69, 172, 225, 10, 31, 75, 121, 77, 111]
theorem blk0F : (blkF K0 N0 (BitVec.ofInt 32 0) fun t => (t == B0) = true) = (true = true) := by kernel_rfl
theorem blk1F : (blkF K0 N0 (BitVec.ofInt 32 1) fun t => (t == B1) = true) = (true = true) := by kernel_rfl
theorem blk0 : blockR K0 N0 (BitVec.ofInt 32 0) = B0 := by
  have h := blk0F
  rw [blkF_eq] at h
  exact beq_iff_eq.1 (h ▸ rfl)
theorem blk1 : blockR K0 N0 (BitVec.ofInt 32 1) = B1 := by
  have h := blk1F
  rw [blkF_eq] at h
  exact beq_iff_eq.1 (h ▸ rfl)
end Go.Proofs.YtgjhkfafmmkimaaDoor
namespace Go.Proofs.YtgjhkfafmmkimaaDoor
open Go.RowKit
set_option linter.unusedVariables false
set_option linter.unusedSimpArgs false
set_option maxRecDepth 100000

theorem getD_set_eq {x : Tx} {i : Nat} {v : BitVec 8} (h : i < x.length) : (x.set i v).getD i 0 = v := by
  rw [List.getD_eq_getElem?_getD, List.getElem?_set_self h]; rfl
theorem getD_set_other {x : Tx} {i j : Nat} {v : BitVec 8} (h : i ≠ j) : (x.set i v).getD j 0 = x.getD j 0 := by
  rw [List.getD_eq_getElem?_getD, List.getElem?_set_ne h, ← List.getD_eq_getElem?_getD]
/-- The byte of the blocks that stands at j. -/
def ksB (B : Tx → Tx → BitVec 32 → Tx) (key nonce : Tx) (j : Nat) : BitVec 8 := (B key nonce (BitVec.ofInt 32 (1 + ((j / 64 : Nat) : Int)))).getD (j % 64) 0
theorem trN_at (B : Tx → Tx → BitVec 32 → Tx) (key nonce x : Tx) (j : Nat) (hj : j < x.length) : ∀ i, (trN B key nonce x i).getD j 0 = if j < i then x.getD j 0 ^^^ ksB B key nonce j else x.getD j 0
  | 0 => by rw [if_neg (by omega)]; rfl
  | i + 1 => by
    have ih := trN_at B key nonce x j hj i
    have hl := trN_len B key nonce x i
    rw [trN]
    by_cases e : i = j
    · subst e
      rw [getD_set_eq (by omega), ih, if_neg (by omega), if_pos (by omega)]
      rfl
    · rw [getD_set_other e, ih]
      by_cases q : j < i
      · rw [if_pos q, if_pos (by omega)]
      · rw [if_neg q, if_neg (by omega)]
theorem turnD_at (B : Tx → Tx → BitVec 32 → Tx) (key nonce s : Tx) (j : Nat) (hj : j < s.length) : (turnD B key nonce s).getD j 0 = s.getD j 0 ^^^ ksB B key nonce j := by
  unfold turnD
  rw [trN_at B key nonce s j hj, if_pos hj]
/-- A text turned twice is the text. -/
theorem turnD_back (B : Tx → Tx → BitVec 32 → Tx) (key nonce s : Tx) : turnD B key nonce (turnD B key nonce s) = s := by
  have h1 := turnD_len B key nonce s
  refine ext_getD ((turnD_len ..).trans h1) (fun i hi => ?_)
  rw [turnD_len, h1] at hi
  rw [turnD_at B key nonce _ i (by omega), turnD_at B key nonce s i hi, BitVec.xor_assoc, BitVec.xor_self, BitVec.xor_zero]
/-- What was sealed opens as the text. -/
theorem back_ok (U : Tx → Tx → Tx → Tx) (W : Tx → Tx → Tx → Tx → Tx) (hU : ∀ k n s, U k n (U k n s) = s) (hl : ∀ k n s, (U k n s).length = s.length) (hW : ∀ k n a c, (W k n a c).length = 16) (key nonce ad s : Tx) (h : slE key nonce ad s = 0) : opE W key nonce ad (slS U W key nonce ad s) = 0 ∧ opS U W key nonce ad (slS U W key nonce ad s) = s ∧ (slS U W key nonce ad s).length = s.length + 16 := by
  have eS : slS U W key nonce ad s = U key nonce s ++ W key nonce ad (U key nonce s) := by unfold slS; exact if_pos h
  have hlen : (slS U W key nonce ad s).length = s.length + 16 := by rw [eS, List.length_append, hl, hW]
  have ht : (slS U W key nonce ad s).take (s.length + 16 - 16) = U key nonce s := by
    rw [eS, Nat.add_sub_cancel, List.take_append_of_le_length (by rw [hl]; exact Nat.le_refl _), List.take_of_length_le (by rw [hl]; exact Nat.le_refl _)]
  have hd : (slS U W key nonce ad s).drop (s.length + 16 - 16) = W key nonce ad (U key nonce s) := by
    rw [eS, Nat.add_sub_cancel]
    have : s.length = (U key nonce s).length := (hl ..).symm
    rw [this, List.drop_left]
  have hb : (key.length = 32 ∧ nonce.length = 12) ∧ ¬ (65536 < ad.length ∨ 65536 < s.length) := by
    unfold slE at h
    split at h
    · split at h
      · cases h
      · exact ⟨‹_›, ‹_›⟩
    · cases h
  have eO : opE W key nonce ad (slS U W key nonce ad s) = 0 := by
    unfold opE
    rw [if_pos hb.1, hlen, ht, hd, if_neg (by omega), if_neg (fun z => z.elim (by omega) (fun q => q rfl))]
  refine ⟨eO, ?_, hlen⟩
  unfold opS
  rw [if_pos eO, hlen, ht, hU]
theorem backS (key nonce ad s : Tx) (h : slE key nonce ad s = 0) : opE (tgD blockR tagD) key nonce ad (slS (turnD blockR) (tgD blockR tagD) key nonce ad s) = 0 ∧ opS (turnD blockR) (tgD blockR tagD) key nonce ad (slS (turnD blockR) (tgD blockR tagD) key nonce ad s) = s ∧ (slS (turnD blockR) (tgD blockR tagD) key nonce ad s).length = s.length + 16 :=
  back_ok _ _ (turnD_back blockR) (turnD_len blockR) tgD_len key nonce ad s h
theorem clN_at (x : Tx) (j : Nat) (hj : j < x.length) : ∀ i, (clN x i).getD j 0 = if j < i then clB j (x.getD j 0) else x.getD j 0
  | 0 => by rw [if_neg (by omega)]; rfl
  | i + 1 => by
    have ih := clN_at x j hj i
    have hl := clN_len x i
    rw [clN]
    by_cases e : i = j
    · subst e
      rw [getD_set_eq (by omega), ih, if_neg (by omega), if_pos (by omega)]
    · rw [getD_set_other e, ih]
      by_cases q : j < i
      · rw [if_pos q, if_pos (by omega)]
      · rw [if_neg q, if_neg (by omega)]
/-- The clamped bytes, one by one. -/
def clM : Nat → Tx → Tx
  | _, [] => []
  | j, x :: l => clB j x :: clM (j + 1) l
theorem clM_len : ∀ (l : Tx) (j : Nat), (clM j l).length = l.length
  | [], _ => rfl
  | x :: l, j => by rw [clM, List.length_cons, List.length_cons, clM_len l]
theorem clM_at : ∀ (l : Tx) (j i : Nat), i < l.length → (clM j l).getD i 0 = clB (j + i) (l.getD i 0)
  | [], _, _, h => absurd h (Nat.not_lt_zero _)
  | x :: l, j, 0, _ => rfl
  | x :: l, j, i + 1, h => by
    have := clM_at l (j + 1) i (by simpa using h)
    rw [clM, List.getD_cons_succ, List.getD_cons_succ, this, show j + 1 + i = j + (i + 1) by omega]
theorem clamp_is (key : Tx) (h : 16 ≤ key.length) : clamp key = clM 0 (key.take 16) := by
  have ht : (key.take 16).length = 16 := by rw [List.length_take]; omega
  refine ext_getD ((clN_len _ _).trans (clM_len _ _).symm) (fun i hi => ?_)
  unfold clamp at hi ⊢
  rw [clN_len] at hi
  rw [clN_at _ i hi, clM_at _ 0 i hi, if_pos (by omega), Nat.zero_add]
def tagM (key s : Tx) : Tx := leN (polyN (numS (clM 0 (key.take 16))) s (Nc s) % PP + numS (key.drop 16)) 16
theorem tagD_M (key s : Tx) (h : 16 ≤ key.length) : tagD key s = tagM key s := by
  rw [tagD_ok]
  unfold tagN tagM
  rw [clamp_is key h]
/-- The sealed abc, beside ad. -/
def C0 : Tx := [254, 101, 132]
def TA : Tx := [176, 95, 83, 119, 237, 71, 66, 135, 211, 127, 115, 70, 251, 248, 57, 104]
def TD : Tx := [77, 99, 99, 229, 174, 107, 64, 11, 246, 96, 15, 247, 45, 213, 168, 79]
theorem turn0 : turnD blockR K0 N0 [97, 98, 99] = C0 := by
  have e : ∀ j, j < 3 → ksB blockR K0 N0 j = B1.getD j 0 := fun j hj => by
    unfold ksB
    rw [show j / 64 = 0 by omega, show j % 64 = j by omega]
    show (blockR K0 N0 (BitVec.ofInt 32 1)).getD j 0 = _
    rw [blk1]
  refine ext_getD (turnD_len ..) (fun i hi => ?_)
  rw [turnD_len] at hi
  rw [turnD_at blockR K0 N0 _ i hi, e i hi]
  have hi : i < 3 := hi
  rcases (by omega : i = 0 ∨ i = 1 ∨ i = 2) with rfl | rfl | rfl <;> rfl
theorem b0len : 16 ≤ (B0.take 32).length := by decide
theorem tagA : tgD blockR tagD K0 N0 [97, 100] C0 = TA := by
  unfold tgD
  rw [blk0, tagD_M _ _ b0len]
  exact beq_iff_eq.1 (show (tagM (B0.take 32) (tgS [97, 100] C0) == TA) = true by kernel_rfl)
theorem tagB : tgD blockR tagD K0 N0 [100, 97] C0 = TD := by
  unfold tgD
  rw [blk0, tagD_M _ _ b0len]
  exact beq_iff_eq.1 (show (tagM (B0.take 32) (tgS [100, 97] C0) == TD) = true by kernel_rfl)
theorem tag3 : tagD (2 :: List.replicate 31 0) (List.replicate 16 255) = [3, 0, 0, 0, 0, 0, 0, 0, 0, 0, 0, 0, 0, 0, 0, 0] := by
  rw [tagD_M _ _ (by decide)]
  exact beq_iff_eq.1 (show (tagM (2 :: List.replicate 31 0) (List.replicate 16 255) == [3, 0, 0, 0, 0, 0, 0, 0, 0, 0, 0, 0, 0, 0, 0, 0]) = true by kernel_rfl)
end Go.Proofs.YtgjhkfafmmkimaaDoor
namespace Go.Proofs.YtgjhkfafmmkimaaDoor
open Go.RowKit
set_option linter.unusedVariables false
set_option linter.unusedSimpArgs false
set_option maxRecDepth 100000

def B7 (pre : List Value) (l : List (List (BitVec 8))) : Mm := [⟨false, .ints MX⟩, ⟨false, .strs pre l⟩]
def tot (L : List (List (BitVec 8))) : Nat := L.foldl (fun n s => n + s.length) 0
def i7 (sl : SV) (L : List (List (BitVec 8))) (j : Nat) : List (Nat × SV) := [(0, sl), (3, .i (tot (L.take j) : Nat)), (4, .i (j : Nat))]
def o7 (n : Nat) : List (Nat × SV) := [(3, .i (n : Nat))]
def vL7 (B : Mm) (sl : SV) (L : List (List (BitVec 8))) (q : Nat → Prop) (fr : List SV) (M : Mm) (K : Ko) : Prop := vLe B fr M 24 (i7 sl L 0) B (∀ j, q j → frK 24 (o7 (tot (L.take j))) fun fr1 => K .normal fr1 B)
def L7 (B : Mm) (sl : SV) (L : List (List (BitVec 8))) (q : Nat → Prop) : LT := noL.add 0 (vL7 B sl L q)
theorem vc7 (pre : List Value) (l L : List (List (BitVec 8))) (off len cap : Nat) (q : Nat → Prop) (K : SV → Mm → Prop) : (vf Tryd.prog E0 (L7 (B7 pre l) (.sl 1 off len cap) L q) 9 [.sl 1 off len cap] (B7 pre l) K) = (loopOf Tryd.prog 9 0 = loopOf Tryd.prog 9 0 ∧ SV.sl 1 off len cap = SV.sl 1 off len cap ∧ SV.i 0 = SV.i (↑(tot (List.take 0 L)) : Int) ∧ SV.i 0 = SV.i (↑0 : Int) ∧ (false = false ∧ Cont.ints MX = Cont.ints MX) ∧ (false = false ∧ Cont.strs pre l = Cont.strs pre l) ∧ ∀ (j : Nat), q j → K (SV.b (ile (↑(tot (List.take j L)) : Int) 4096)) (B7 pre l)) := by kernel_rfl
theorem vr7 (pre : List Value) (l L : List (List (BitVec 8))) (off len cap j : Nat) (a : Nat → Prop) (q : Prop) : (frK 24 (i7 (.sl 1 off len cap) L j) fun fr => vround Tryd.prog E0 noL 9 0 fr (B7 pre l) (Ks (B7 pre l) 0 24 (fun _ _ => some (j + 1)) [] a (i7 (.sl 1 off len cap) L) (fun _ => B7 pre l) q (o7 (tot (L.take j))) (B7 pre l))) = (bif ilt (↑j : Int) (↑len : Int) == true then bif ilt (↑j : Int) (↑len : Int) == true then bif bif ilt (↑j : Int) (↑len : Int) then ile (↑(tot (List.take j L)) : Int) 4096 else false then bif inR (↑j : Int) len then bif pre.length.ble (j + off) && (j + off).blt (pre.length + l.length) then bif inI ((↑(tot (List.take j L)) : Int) + (↑(l.getD (j + off - pre.length) []).length : Int)) then bif inI ((↑j : Int) + 1) then a (j + 1) ∧ SV.sl 1 off len cap = ren (sig (List.length (B7 pre l)) []) (SV.sl 1 off len cap) ∧ SV.i ((↑(tot (List.take j L)) : Int) + (↑(l.getD (j + off - pre.length) []).length : Int)) = ren (sig (List.length (B7 pre l)) []) (SV.i (↑(tot (List.take (j + 1) L)) : Int)) ∧ SV.i ((↑j : Int) + 1) = ren (sig (List.length (B7 pre l)) []) (SV.i (↑(j + 1) : Int)) ∧ (false = false ∧ Cont.ints MX = Cont.ren (sig (List.length (B7 pre l)) []) (Cont.ints MX)) ∧ (false = false ∧ Cont.strs pre l = Cont.ren (sig (List.length (B7 pre l)) []) (Cont.strs pre l)) ∧ True else False else False else False else False else 0 = 0 ∧ q ∧ SV.i (↑(tot (List.take j L)) : Int) = SV.i (↑(tot (List.take j L)) : Int) ∧ (false = false ∧ Cont.ints MX = Cont.ints MX) ∧ (false = false ∧ Cont.strs pre l = Cont.strs pre l) ∧ True else bif !ilt (↑j : Int) (↑len : Int) then 0 = 0 ∧ q ∧ SV.i (↑(tot (List.take j L)) : Int) = SV.i (↑(tot (List.take j L)) : Int) ∧ (false = false ∧ Cont.ints MX = Cont.ints MX) ∧ (false = false ∧ Cont.strs pre l = Cont.strs pre l) ∧ True else False else bif ilt (↑j : Int) (↑len : Int) == true then False else bif !ilt (↑j : Int) (↑len : Int) then 0 = 0 ∧ q ∧ SV.i (↑(tot (List.take j L)) : Int) = SV.i (↑(tot (List.take j L)) : Int) ∧ (false = false ∧ Cont.ints MX = Cont.ints MX) ∧ (false = false ∧ Cont.strs pre l = Cont.strs pre l) ∧ True else False) := by kernel_rfl
theorem vc7z (d : Option Addr) (c : Nat) (q : Nat → Prop) (K : SV → Mm → Prop) : (vf Tryd.prog E0 (L7 G (.v (.slice d 0 c)) [] q) 9 [.v (.slice d 0 c)] G K) = (loopOf Tryd.prog 9 0 = loopOf Tryd.prog 9 0 ∧ SV.v (Value.slice d 0 c) = SV.v (Value.slice d 0 c) ∧ SV.i 0 = SV.i (↑0 : Int) ∧ SV.i 0 = SV.i (↑0 : Int) ∧ (false = false ∧ Cont.ints MX = Cont.ints MX) ∧ ∀ (j : Nat), q j → K (SV.b (ile (↑(tot (List.take j [])) : Int) 4096)) G) := by kernel_rfl
theorem vr7z (d : Option Addr) (c j : Nat) (a : Nat → Prop) (q : Prop) : (frK 24 (i7 (.v (.slice d 0 c)) [] 0) fun fr => vround Tryd.prog E0 noL 9 0 fr G (Ks G 0 24 (fun _ _ => some 0) [] a (i7 (.v (.slice d 0 c)) []) (fun _ => G) q (o7 (tot (([] : List (List (BitVec 8))).take 0))) G)) = (0 = 0 ∧ q ∧ SV.i (↑0 : Int) = SV.i (↑0 : Int) ∧ (false = false ∧ Cont.ints MX = Cont.ints MX) ∧ True) := by kernel_rfl
theorem tot_app (a b : List (List (BitVec 8))) : tot (a ++ b) = tot a + tot b := by
  have key : ∀ (l : List (List (BitVec 8))) (n : Nat), l.foldl (fun n s => n + s.length) n = n + tot l := by
    intro l
    induction l with
    | nil => intro n; rfl
    | cons s l ih =>
      intro n
      have e : tot (s :: l) = 0 + s.length + tot l := ih (0 + s.length)
      rw [List.foldl_cons, ih, e]
      omega
  unfold tot
  rw [List.foldl_append, key]
  rfl
theorem tot_succ (L : List (List (BitVec 8))) (j : Nat) (h : j < L.length) : tot (L.take (j + 1)) = tot (L.take j) + (L.getD j []).length := by
  rw [List.take_add_one, getD_get [] h, Option.toList_some, tot_app]
  unfold tot; simp
theorem tot_le (L : List (List (BitVec 8))) (j : Nat) : tot (L.take j) ≤ tot L := by
  have := tot_app (L.take j) (L.drop j)
  rw [List.take_append_drop] at this
  omega
theorem getD_drop' {α : Type} (l : List α) (d : α) (off j : Nat) : (l.drop off).getD j d = l.getD (j + off) d := by
  rw [List.getD_eq_getElem?_getD, List.getElem?_drop, ← List.getD_eq_getElem?_getD, Nat.add_comm]
theorem getD_take' {α : Type} (l : List α) (d : α) (n j : Nat) (h : j < n) : (l.take n).getD j d = l.getD j d := by
  rw [List.getD_eq_getElem?_getD, List.getElem?_take_of_lt h, ← List.getD_eq_getElem?_getD]
def okS (L : List (List (BitVec 8))) : Bool := L.all fun s => Nat.ble s.length 140737488355328
def q7 (L : List (List (BitVec 8))) (j : Nat) : Prop := j = L.length ∨ 4096 < tot (L.take j)
theorem small_of (L : List (List (BitVec 8))) (j : Nat) (h : q7 L j) : ile (tot (L.take j) : Int) 4096 = ile (tot L : Int) 4096 := by
  rcases h with rfl | h
  · rw [List.take_of_length_le (Nat.le_refl _)]
  · have := tot_le L j
    have e1 : ile (tot (L.take j) : Int) 4096 = false := by rw [ile_eq]; exact decide_eq_false (by omega)
    have e2 : ile (tot L : Int) 4096 = false := by rw [ile_eq]; exact decide_eq_false (by omega)
    rw [e1, e2]
theorem loop7 (pre : List Value) (l : List (List (BitVec 8))) (off len cap : Nat) (h0 : pre.length ≤ off) (h1 : off + len ≤ pre.length + l.length) (h2 : len ≤ 9223372036854775806) (h3 : okS ((l.drop (off - pre.length)).take len) = true) : LOk Tryd.prog G (B7 pre l) 9 (L7 (B7 pre l) (.sl 1 off len cap) ((l.drop (off - pre.length)).take len) (q7 ((l.drop (off - pre.length)).take len))) := by
  generalize hL : (l.drop (off - pre.length)).take len = L at h3
  have hlen : L.length = len := by rw [← hL]; simp; omega
  refine LT.add_ok (noL_ok _ _ _ _) fun fr M K h => ?_
  obtain ⟨hle, hK⟩ := vLe_ok h
  refine loop_sel e0_ok mixed (noL_ok _ _ _ _) (by show 1 ≤ 2; decide) (by kernel_rfl) (i7 (.sl 1 off len cap) L) (fun _ => B7 pre l) (fun j => j ≤ len ∧ tot (L.take j) ≤ 200000000000000) (fun j => len - j) (fun j _ _ => some (j + 1)) (fun _ => []) (q7 L) (fun j => o7 (tot (L.take j))) (fun _ => B7 pre l) 0 ⟨Nat.zero_le _, by unfold tot; simp⟩ (fun j hp => of_eq (vr7 pre l L off len cap j _ _) ?_) hle (fun j hp hq => ?_)
  · obtain ⟨hj, ht⟩ := hp
    cases hc : ilt (j : Int) (len : Int)
    · have hj2 : j = len := by rw [ilt_eq] at hc; have := of_decide_eq_false hc; omega
      exact ⟨rfl, .inl (by omega), rfl, ⟨rfl, rfl⟩, ⟨rfl, rfl⟩, trivial⟩
    · have hj2 : j < len := by rw [ilt_eq] at hc; have := of_decide_eq_true hc; omega
      have hs := tot_succ L j (by omega)
      have eg : L.getD j [] = l.getD (j + off - pre.length) [] := by
        rw [← hL, getD_take' _ _ _ _ hj2, getD_drop', show j + off - pre.length = j + (off - pre.length) by omega]
      have hb : (L.getD j []).length ≤ 140737488355328 := by
        refine Nat.le_of_ble_eq_true (List.all_eq_true.1 h3 _ ?_)
        rw [List.getD_eq_getElem?_getD, List.getElem?_eq_getElem (by omega)]
        exact List.getElem_mem _
      cases hd : ile (tot (L.take j) : Int) 4096
      · exact ⟨rfl, .inr (by rw [ile_eq] at hd; have := of_decide_eq_false hd; omega), rfl, ⟨rfl, rfl⟩, ⟨rfl, rfl⟩, trivial⟩
      · have hd2 : tot (L.take j) ≤ 4096 := by rw [ile_eq] at hd; have := of_decide_eq_true hd; omega
        rw [← eg]
        refine bif_of rfl (bif_of rfl (bif_of (inR_nat hj2) (bif_of (by rw [Bool.and_eq_true]; exact ⟨Nat.ble_eq_true_of_le (by omega), blt_of (by omega)⟩) (bif_of (inI_iff.2 (by omega)) (bif_of (inI_iff.2 (by omega)) ?_)))))
        exact ⟨⟨⟨by omega, by omega⟩, by omega⟩, rfl, congrArg SV.i (by rw [hs]; omega), rfl, ⟨rfl, rfl⟩, ⟨rfl, rfl⟩, trivial⟩
  · have := hK j hq
    rw [frK_eq] at this
    exact this
theorem loop7z (d : Option Addr) (c : Nat) : LOk Tryd.prog G G 9 (L7 G (.v (.slice d 0 c)) [] (q7 [])) := by
  refine LT.add_ok (noL_ok _ _ _ _) fun fr M K h => ?_
  obtain ⟨hle, hK⟩ := vLe_ok h
  refine loop_sel e0_ok mixed (noL_ok _ _ _ _) (Nat.le_refl _) (by kernel_rfl) (i7 (.v (.slice d 0 c)) []) (fun _ => G) (fun j => j = 0) (fun j => 0) (fun j _ _ => some 0) (fun _ => []) (q7 []) (fun j => o7 (tot (([] : List (List (BitVec 8))).take j))) (fun _ => G) 0 rfl (fun j hp => ?_) hle (fun j hp hq => ?_)
  · subst hp
    exact of_eq (vr7z d c 0 _ _) ⟨rfl, .inl rfl, rfl, ⟨rfl, rfl⟩, trivial⟩
  · have := hK j hq
    rw [frK_eq] at this
    exact this
def cSmall : List SV → List Cont → Option (Bool × SV)
  | [.sl k off len cap], [.strs pre l] => some (Nat.ble pre.length off && (Nat.ble (off + len) (pre.length + l.length) && (Nat.ble len 9223372036854775806 && okS ((l.drop (off - pre.length)).take len))), .b (ile (tot ((l.drop (off - pre.length)).take len) : Int) 4096))
  | [.v (.slice _ 0 _)], _ => some (true, .b true)
  | _, _ => none
theorem fewF_ok : POk Tryd.prog G 9 cSmall := by
  intro args acs r h β M w hR hw ha
  unfold cSmall at h
  split at h
  · rename_i k off len cap pre l
    simp only [Option.some.injEq, Prod.mk.injEq, Bool.and_eq_true] at h
    obtain ⟨⟨h0, h1, h2, h3⟩, rfl⟩ := h
    have h0 := Nat.le_of_ble_eq_true h0
    have h1 := Nat.le_of_ble_eq_true h1
    have h2 := Nat.le_of_ble_eq_true h2
    simp only [List.map_cons, List.map_nil, List.cons.injEq, and_true] at ha
    refine pure1 (args0 := [.sl 1 off len cap]) (c := .strs pre l) (k := k) (vf_ok (M := B7 pre l) e0_ok mixed (loop7 pre l off len cap h0 h1 h2 h3) (of_eq (vc7 pre l _ off len cap _ _) ⟨rfl, rfl, rfl, rfl, ⟨rfl, rfl⟩, ⟨rfl, rfl⟩, fun j hj => ?_⟩)) rfl rfl rfl rfl rfl (fun _ => rfl) hR (tgt_some ha.symm rfl)
    exact congrArg SV.b (small_of _ j hj)
  · rename_i d c
    simp only [Option.some.injEq, Prod.mk.injEq, true_and] at h
    subst h
    refine pure0 (vf_ok e0_ok mixed (loop7z d c) (of_eq (vc7z d c _ _) ⟨rfl, rfl, rfl, rfl, ⟨rfl, rfl⟩, fun j hj => ?_⟩)) rfl rfl hR
    exact congrArg SV.b (small_of _ j hj)
  · cases h
end Go.Proofs.YtgjhkfafmmkimaaDoor
namespace Go.Proofs.YtgjhkfafmmkimaaDoor
open Go.RowKit
set_option linter.unusedVariables false
set_option linter.unusedSimpArgs false
set_option maxRecDepth 100000

def fit (s : Tx) : Bool := Nat.ble s.length 1048576
/-- What the package's functions answer. -/
def cPB (S : Tx → Tx → BitVec 32 → Tx) (F : Tx → Tx → Int) : List SV → List Cont → Option (Bool × SV)
  | [.s key, .s nonce, .w32 n], _ => some (fit key && fit nonce, .tup [.s (S key nonce n), .i (F key nonce)])
  | _, _ => none
def cPT (S : Tx → Tx → Tx) (F : Tx → Int) : List SV → List Cont → Option (Bool × SV)
  | [.s key, .s s], _ => some (fit key && fit s, .tup [.s (S key s), .i (F key)])
  | _, _ => none
def cPS (S : Tx → Tx → Tx → Tx → Tx) (F : Tx → Tx → Tx → Tx → Int) : List SV → List Cont → Option (Bool × SV)
  | [.s key, .s nonce, .s ad, .s s], _ => some (fit key && (fit nonce && (fit ad && fit s)), .tup [.s (S key nonce ad s), .i (F key nonce ad s)])
  | _, _ => none
def cPE : List SV → List Cont → Option (Bool × SV)
  | [.s a, .s b], _ => some (fit a && fit b, .b (a == b))
  | _, _ => none
def bE (key nonce : Tx) : Int := if key.length = 32 ∧ nonce.length = 12 then 0 else 2
def bS (key nonce : Tx) (n : BitVec 32) : Tx := if bE key nonce = 0 then blockR key nonce n else []
def tE (key : Tx) : Int := if key.length = 32 then 0 else 2
def tS (key s : Tx) : Tx := if tE key = 0 then tagD key s else []
abbrev sS := slS (turnD blockR) (tgD blockR tagD)
abbrev oS := opS (turnD blockR) (tgD blockR tagD)
abbrev oE := opE (tgD blockR tagD)
/-- The package answers as the document does. -/
structure AeOk : Prop where
  B : POk Tryd.prog G 11 (cPB bS bE)
  T : POk Tryd.prog G 13 (cPT tS tE)
  S : POk Tryd.prog G 16 (cPS sS slE)
  O : POk Tryd.prog G 18 (cPS oS oE)
  E : POk Tryd.prog G 15 cPE
def AB : List SV → List Cont → Option (Bool × SV)
  | [.s key, .s nonce, .w32 n], _ => some (key == K0 && (nonce == N0 && n == BitVec.ofInt 32 0), .tup [.s B0, .i 0])
  | _, _ => none
def AT : List SV → List Cont → Option (Bool × SV)
  | [.s key, .s s], _ => some (key == 2 :: List.replicate 31 0 && s == List.replicate 16 255, .tup [.s (3 :: List.replicate 15 0), .i 0])
  | _, _ => none
def CT0 : Tx := C0 ++ TA
def AS : List SV → List Cont → Option (Bool × SV)
  | [.s key, .s nonce, .s ad, .s s], _ => bif nonce == N0 then some (key == K0 && (ad == [97, 100] && s == [97, 98, 99]), .tup [.s CT0, .i 0]) else some (key == K0 && (nonce == [115, 104, 111, 114, 116] && (ad == [] && s == [])), .tup [.s [], .i 2])
  | _, _ => none
def AO : List SV → List Cont → Option (Bool × SV)
  | [.s key, .s nonce, .s ad, .s s], _ => bif ad == [97, 100] then some (key == K0 && (nonce == N0 && s == CT0), .tup [.s [97, 98, 99], .i 0]) else some (key == K0 && (nonce == N0 && (ad == [100, 97] && s == CT0)), .tup [.s [], .i 130])
  | _, _ => none
def EA : Env := ⟨G, ((((noT.add 11 AB).add 13 AT).add 16 AS).add 18 AO).add 15 cPE, noC⟩
theorem vaAl (K : SV → Mm → Prop) : (vf Tryd.prog EA noL 10 [] G K) = (K (SV.b (bif bif bif bif bif bif bif bif bif bif bif bif (↑(64 : Nat) : Int) == (64 : Int) then List.drop (0 : Nat) (List.take (4 : Nat) B0) == bts { data := #[(118 : UInt8), (184 : UInt8), (224 : UInt8), (173 : UInt8)] } else false then (0 : Int) == (0 : Int) else false then (0 : Int) == (0 : Int) else false then (↑(19 : Nat) : Int) == (19 : Int) else false then [(97 : BitVec (8 : Nat)), (98 : BitVec (8 : Nat)), (99 : BitVec (8 : Nat))] == bts { data := #[(97 : UInt8), (98 : UInt8), (99 : UInt8)] } else false then (0 : Int) == (0 : Int) else false then (130 : Int) == (130 : Int) else false then (2 : Int) == (2 : Int) else false then (3 : BitVec (8 : Nat)) :: List.replicate (15 : Nat) (0 : BitVec (8 : Nat)) == bts { data := #[(3 : UInt8)] } ++ List.drop (0 : Nat) (List.take (15 : Nat) (List.take (32 : Nat) (List.drop (0 : Nat) (List.replicate (32 : Nat) (0 : BitVec (8 : Nat)))))) else false then (0 : Int) == (0 : Int) else false then bts { data := #[(97 : UInt8), (98 : UInt8)] } == bts { data := #[(97 : UInt8), (98 : UInt8)] } else false then !bts { data := #[(97 : UInt8), (98 : UInt8)] } == bts { data := #[(97 : UInt8), (98 : UInt8), (99 : UInt8)] } else false)) [{ rw := false, c := Cont.ints MX }, { rw := true, c := Cont.a8 (List.replicate (32 : Nat) (0 : BitVec (8 : Nat))) }, { rw := true, c := Cont.a8 (List.replicate (12 : Nat) (0 : BitVec (8 : Nat))) }]) := by kernel_rfl
theorem sl0 : slE K0 N0 [97, 100] [97, 98, 99] = 0 := by decide
theorem sS0 : sS K0 N0 [97, 100] [97, 98, 99] = CT0 := by
  show slS (turnD blockR) (tgD blockR tagD) K0 N0 [97, 100] [97, 98, 99] = CT0
  unfold slS
  rw [if_pos sl0, turn0, tagA]
  rfl
theorem op0 : oE K0 N0 [97, 100] CT0 = 0 ∧ oS K0 N0 [97, 100] CT0 = [97, 98, 99] := by
  have h := backS K0 N0 [97, 100] [97, 98, 99] sl0
  have e : slS (turnD blockR) (tgD blockR tagD) K0 N0 [97, 100] [97, 98, 99] = CT0 := sS0
  rw [e] at h
  exact ⟨h.1, h.2.1⟩
theorem op1 : oE K0 N0 [100, 97] CT0 = 130 ∧ oS K0 N0 [100, 97] CT0 = [] := by
  have hl : CT0.length = 19 := by decide
  have ht : CT0.take (19 - 16) = C0 := by decide
  have hd : CT0.drop (19 - 16) = TA := by decide
  have e : opE (tgD blockR tagD) K0 N0 [100, 97] CT0 = 130 := by
    unfold opE
    rw [hl, ht, hd, tagB, if_pos (by decide), if_neg (by decide), if_pos (.inr (by decide))]
  refine ⟨e, ?_⟩
  show opS (turnD blockR) (tgD blockR tagD) K0 N0 [100, 97] CT0 = []
  unfold opS
  rw [e]
  exact if_neg (by decide)
theorem ea_ok (h : AeOk) : EnvOk Tryd.prog EA := by
  refine ⟨PT.add_ok (PT.add_ok (PT.add_ok (PT.add_ok (PT.add_ok (noT_ok _ _) ?_) ?_) ?_) ?_) h.E, noC_ok _ _⟩
  · intro args acs r hh
    refine h.B args acs r ?_
    unfold AB at hh
    split at hh
    · rename_i key nonce n
      simp only [Option.some.injEq, Prod.mk.injEq, Bool.and_eq_true, beq_iff_eq] at hh
      obtain ⟨⟨rfl, rfl, rfl⟩, rfl⟩ := hh
      have e1 : bE K0 N0 = 0 := by decide
      have e2 : bS K0 N0 (BitVec.ofInt 32 0) = B0 := by unfold bS; rw [if_pos e1, blk0]
      show some (fit K0 && fit N0, SV.tup [.s (bS K0 N0 (BitVec.ofInt 32 0)), .i (bE K0 N0)]) = _
      rw [e1, e2]
      rfl
    · cases hh
  · intro args acs r hh
    refine h.T args acs r ?_
    unfold AT at hh
    split at hh
    · rename_i key s
      simp only [Option.some.injEq, Prod.mk.injEq, Bool.and_eq_true, beq_iff_eq] at hh
      obtain ⟨⟨rfl, rfl⟩, rfl⟩ := hh
      have e1 : tE (2 :: List.replicate 31 0) = 0 := by decide
      have e2 : tS (2 :: List.replicate 31 0) (List.replicate 16 255) = 3 :: List.replicate 15 0 := by unfold tS; rw [if_pos e1, tag3]; rfl
      show some (fit (2 :: List.replicate 31 0) && fit (List.replicate 16 255), SV.tup [.s (tS (2 :: List.replicate 31 0) (List.replicate 16 255)), .i (tE (2 :: List.replicate 31 0))]) = _
      rw [e1, e2]
      rfl
    · cases hh
  · intro args acs r hh
    refine h.S args acs r ?_
    unfold AS at hh
    split at hh
    · rename_i key nonce ad s
      cases hb : nonce == N0 <;> rw [hb] at hh
      · simp only [cond_false, Option.some.injEq, Prod.mk.injEq, Bool.and_eq_true, beq_iff_eq] at hh
        obtain ⟨⟨rfl, rfl, rfl, rfl⟩, rfl⟩ := hh
        have e1 : slE K0 [115, 104, 111, 114, 116] [] [] = 2 := by decide
        have e2 : sS K0 [115, 104, 111, 114, 116] [] [] = [] := by
          show slS (turnD blockR) (tgD blockR tagD) K0 [115, 104, 111, 114, 116] [] [] = []
          unfold slS; rw [e1]; exact if_neg (by decide)
        show some (fit K0 && (fit [115, 104, 111, 114, 116] && (fit [] && fit [])), SV.tup [.s (sS K0 [115, 104, 111, 114, 116] [] []), .i (slE K0 [115, 104, 111, 114, 116] [] [])]) = _
        rw [e1, e2]
        rfl
      · simp only [cond_true, Option.some.injEq, Prod.mk.injEq, Bool.and_eq_true, beq_iff_eq] at hh hb
        subst hb
        obtain ⟨⟨rfl, rfl, rfl⟩, rfl⟩ := hh
        show some (fit K0 && (fit N0 && (fit [97, 100] && fit [97, 98, 99])), SV.tup [.s (sS K0 N0 [97, 100] [97, 98, 99]), .i (slE K0 N0 [97, 100] [97, 98, 99])]) = _
        rw [sl0, sS0]
        rfl
    · cases hh
  · intro args acs r hh
    refine h.O args acs r ?_
    unfold AO at hh
    split at hh
    · rename_i key nonce ad s
      cases hb : ad == [97, 100] <;> rw [hb] at hh
      · simp only [cond_false, Option.some.injEq, Prod.mk.injEq, Bool.and_eq_true, beq_iff_eq] at hh
        obtain ⟨⟨rfl, rfl, rfl, rfl⟩, rfl⟩ := hh
        show some (fit K0 && (fit N0 && (fit [100, 97] && fit CT0)), SV.tup [.s (oS K0 N0 [100, 97] CT0), .i (oE K0 N0 [100, 97] CT0)]) = _
        rw [op1.1, op1.2]
        rfl
      · simp only [cond_true, Option.some.injEq, Prod.mk.injEq, Bool.and_eq_true, beq_iff_eq] at hh hb
        subst hb
        obtain ⟨⟨rfl, rfl, rfl⟩, rfl⟩ := hh
        show some (fit K0 && (fit N0 && (fit [97, 100] && fit CT0)), SV.tup [.s (oS K0 N0 [97, 100] CT0), .i (oE K0 N0 [97, 100] CT0)]) = _
        rw [op0.1, op0.2]
        rfl
    · cases hh
def cYes : List SV → List Cont → Option (Bool × SV)
  | [], _ => some (true, .b true)
  | _, _ => none
theorem alive_ok (h : AeOk) : POk Tryd.prog G 10 cYes := by
  intro args acs r hh β M w hR hw ha
  unfold cYes at hh
  split at hh
  · simp only [Option.some.injEq, Prod.mk.injEq, true_and] at hh
    subst hh
    refine pure0 (vf_ok (ea_ok h) mixed (noL_ok _ _ _ _) (of_eq (vaAl _) ?_)) rfl rfl hR
    exact congrArg SV.b (by kernel_rfl)
  · cases hh
end Go.Proofs.YtgjhkfafmmkimaaDoor
