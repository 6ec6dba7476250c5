/-
  aead: a block is the document's. No statement is proved here.
-/
import Derived.Test.YtgjhkfafmmkimaaDoorAfC
import Derived.Test.YtgjhkfafmmkimaaDoorAeP
namespace Go.Proofs.YtgjhkfafmmkimaaDoor
open Go.RowKit
set_option linter.unusedVariables false
set_option linter.unusedSimpArgs false
set_option maxRecDepth 100000

def R4 (a b c d : BitVec 8) : BitVec 32 := ((((0#32 <<< 8 ||| d.setWidth 32) <<< 8 ||| c.setWidth 32) <<< 8 ||| b.setWidth 32) <<< 8 ||| a.setWidth 32)
def W4 (a b c d : BitVec 8) : BitVec 32 := ((((0#32 ||| a.setWidth 32 <<< 0) ||| b.setWidth 32 <<< 8) ||| c.setWidth 32 <<< 16) ||| d.setWidth 32 <<< 24)
theorem R_n (n : BitVec 32) : R4 (n.setWidth 8) ((n >>> 8).setWidth 8) ((n >>> 16).setWidth 8) ((n >>> 24).setWidth 8) = n := by
  apply BitVec.eq_of_getLsbD_eq
  intro i hi
  have : i = 0 ∨ i = 1 ∨ i = 2 ∨ i = 3 ∨ i = 4 ∨ i = 5 ∨ i = 6 ∨ i = 7 ∨ i = 8 ∨ i = 9 ∨ i = 10 ∨ i = 11 ∨ i = 12 ∨ i = 13 ∨ i = 14 ∨ i = 15 ∨ i = 16 ∨ i = 17 ∨ i = 18 ∨ i = 19 ∨ i = 20 ∨ i = 21 ∨ i = 22 ∨ i = 23 ∨ i = 24 ∨ i = 25 ∨ i = 26 ∨ i = 27 ∨ i = 28 ∨ i = 29 ∨ i = 30 ∨ i = 31 := by omega
  rcases this with rfl | rfl | rfl | rfl | rfl | rfl | rfl | rfl | rfl | rfl | rfl | rfl | rfl | rfl | rfl | rfl | rfl | rfl | rfl | rfl | rfl | rfl | rfl | rfl | rfl | rfl | rfl | rfl | rfl | rfl | rfl | rfl <;> simp [R4]
theorem W_R (a b c d : BitVec 8) : W4 a b c d = R4 a b c d := by
  apply BitVec.eq_of_getLsbD_eq
  intro i hi
  have : i = 0 ∨ i = 1 ∨ i = 2 ∨ i = 3 ∨ i = 4 ∨ i = 5 ∨ i = 6 ∨ i = 7 ∨ i = 8 ∨ i = 9 ∨ i = 10 ∨ i = 11 ∨ i = 12 ∨ i = 13 ∨ i = 14 ∨ i = 15 ∨ i = 16 ∨ i = 17 ∨ i = 18 ∨ i = 19 ∨ i = 20 ∨ i = 21 ∨ i = 22 ∨ i = 23 ∨ i = 24 ∨ i = 25 ∨ i = 26 ∨ i = 27 ∨ i = 28 ∨ i = 29 ∨ i = 30 ∨ i = 31 := by omega
  rcases this with rfl | rfl | rfl | rfl | rfl | rfl | rfl | rfl | rfl | rfl | rfl | rfl | rfl | rfl | rfl | rfl | rfl | rfl | rfl | rfl | rfl | rfl | rfl | rfl | rfl | rfl | rfl | rfl | rfl | rfl | rfl | rfl <;> simp [W4, R4]
theorem sh8 (w : BitVec 32) (k : Nat) : ((w.setWidth 64 >>> k).setWidth 8 : BitVec 8) = (w >>> k).setWidth 8 := by
  apply BitVec.eq_of_getLsbD_eq
  intro i hi
  simp only [BitVec.getLsbD_setWidth, BitVec.getLsbD_ushiftRight]
  by_cases h : k + i < 64
  · simp [h]
  · rw [BitVec.getLsbD_of_ge w (k + i) (by omega)]; simp
def lyF (f : Nat → BitVec 8) : Nat → Ws
  | 0 => List.replicate 16 0
  | j + 1 => (lyF f j).set (j / 4) ((lyF f j).getD (j / 4) 0 ||| (f j).setWidth 32 <<< (j % 4 * 8))
def rwF (f : Nat → BitVec 8) : Nat → Ws
  | 0 => List.replicate 16 0
  | j + 1 => (rwF f j).set ((63 - j) / 4) ((rwF f j).getD ((63 - j) / 4) 0 <<< 8 ||| (f (63 - j)).setWidth 32)
theorem lyF_eq (f : Nat → BitVec 8) : lyF f 64 = [W4 (f 0) (f 1) (f 2) (f 3), W4 (f 4) (f 5) (f 6) (f 7), W4 (f 8) (f 9) (f 10) (f 11), W4 (f 12) (f 13) (f 14) (f 15), W4 (f 16) (f 17) (f 18) (f 19), W4 (f 20) (f 21) (f 22) (f 23), W4 (f 24) (f 25) (f 26) (f 27), W4 (f 28) (f 29) (f 30) (f 31), W4 (f 32) (f 33) (f 34) (f 35), W4 (f 36) (f 37) (f 38) (f 39), W4 (f 40) (f 41) (f 42) (f 43), W4 (f 44) (f 45) (f 46) (f 47), W4 (f 48) (f 49) (f 50) (f 51), W4 (f 52) (f 53) (f 54) (f 55), W4 (f 56) (f 57) (f 58) (f 59), W4 (f 60) (f 61) (f 62) (f 63)] := by kernel_rfl
theorem rwF_eq (f : Nat → BitVec 8) : rwF f 64 = [R4 (f 0) (f 1) (f 2) (f 3), R4 (f 4) (f 5) (f 6) (f 7), R4 (f 8) (f 9) (f 10) (f 11), R4 (f 12) (f 13) (f 14) (f 15), R4 (f 16) (f 17) (f 18) (f 19), R4 (f 20) (f 21) (f 22) (f 23), R4 (f 24) (f 25) (f 26) (f 27), R4 (f 28) (f 29) (f 30) (f 31), R4 (f 32) (f 33) (f 34) (f 35), R4 (f 36) (f 37) (f 38) (f 39), R4 (f 40) (f 41) (f 42) (f 43), R4 (f 44) (f 45) (f 46) (f 47), R4 (f 48) (f 49) (f 50) (f 51), R4 (f 52) (f 53) (f 54) (f 55), R4 (f 56) (f 57) (f 58) (f 59), R4 (f 60) (f 61) (f 62) (f 63)] := by kernel_rfl
theorem lyS_F (s : Tx) : ∀ j, lyS s j = lyF (fun i => s.getD i 0) j
  | 0 => rfl
  | j + 1 => by rw [lyS, lyF, lyS_F s j]
theorem rdS_F (s : Tx) : ∀ j, rdS s j = rwF (fun i => s.getD i 0) j
  | 0 => rfl
  | j + 1 => by rw [rdS, rwF, rdS_F s j]
theorem getD_mid (A Z N : Tx) (i : Nat) (h : i < A.length + Z.length) (h2 : A.length ≤ i) : (A ++ Z ++ N).getD i 0 = Z.getD (i - A.length) 0 := by
  rw [List.getD_eq_getElem?_getD, List.getElem?_append_left (by rw [List.length_append]; exact h), List.getElem?_append_right h2, ← List.getD_eq_getElem?_getD]
theorem getD_out' (A Z Z' N : Tx) (i : Nat) (hz : Z.length = Z'.length) (h : i < A.length ∨ A.length + Z.length ≤ i) : (A ++ Z ++ N).getD i 0 = (A ++ Z' ++ N).getD i 0 := by
  rw [List.getD_eq_getElem?_getD, List.getD_eq_getElem?_getD]
  rcases h with h | h
  · have e : ∀ Y : Tx, (A ++ Y ++ N)[i]? = A[i]? := fun Y => by rw [List.append_assoc, List.getElem?_append_left h]
    rw [e, e]
  · have e : ∀ Y : Tx, A.length + Y.length ≤ i → (A ++ Y ++ N)[i]? = N[i - (A.length + Y.length)]? := fun Y h => by rw [List.getElem?_append_right (by rw [List.length_append]; exact h), List.length_append]
    rw [e Z h, e Z' (by omega), hz]
theorem ly_rd (key nonce : Tx) (n : BitVec 32) (h1 : key.length = 32) (h2 : nonce.length = 12) : (lyW key nonce).set 12 n = rdS (blkS key nonce n) 64 := by
  have eC : (bts { data := #[101, 120, 112, 97, 110, 100, 32, 51, 50, 45, 98, 121, 116, 101, 32, 107] }).length = 16 := by decide
  have hA : (bts { data := #[101, 120, 112, 97, 110, 100, 32, 51, 50, 45, 98, 121, 116, 101, 32, 107] } ++ key).length = 48 := by rw [List.length_append, eC, h1]
  unfold lyW
  rw [lyS_F, rdS_F, lyF_eq, rwF_eq]
  unfold lyT blkS
  generalize bts { data := #[101, 120, 112, 97, 110, 100, 32, 51, 50, 45, 98, 121, 116, 101, 32, 107] } ++ key = A at hA
  have hz : (bts { data := #[0, 0, 0, 0] }).length = 4 := by decide
  have hm : ∀ Z : Tx, Z.length = 4 → ∀ k, k < 4 → (A ++ Z ++ nonce).getD (48 + k) 0 = Z.getD k 0 := fun Z hZ k hk => by
    rw [getD_mid A Z nonce (48 + k) (by omega) (by omega), hA, Nat.add_sub_cancel_left]
  have ho : ∀ Z : Tx, Z.length = 4 → ∀ i, i < 48 ∨ 52 ≤ i → (A ++ bts { data := #[0, 0, 0, 0] } ++ nonce).getD i 0 = (A ++ Z ++ nonce).getD i 0 := fun Z hZ i hi => getD_out' A _ Z nonce i (by rw [hz, hZ]) (by omega)
  have hZ : (List.take 4 (List.drop 0 [n.setWidth 8, (n >>> 8).setWidth 8, (n >>> 16).setWidth 8, (n >>> 24).setWidth 8])).length = 4 := rfl
  have g0 := hm _ hZ 0 (by decide)
  have g1 := hm _ hZ 1 (by decide)
  have g2 := hm _ hZ 2 (by decide)
  have g3 := hm _ hZ 3 (by decide)
  have hR : R4 ((A ++ List.take 4 (List.drop 0 [n.setWidth 8, (n >>> 8).setWidth 8, (n >>> 16).setWidth 8, (n >>> 24).setWidth 8]) ++ nonce).getD 48 0) ((A ++ List.take 4 (List.drop 0 [n.setWidth 8, (n >>> 8).setWidth 8, (n >>> 16).setWidth 8, (n >>> 24).setWidth 8]) ++ nonce).getD 49 0) ((A ++ List.take 4 (List.drop 0 [n.setWidth 8, (n >>> 8).setWidth 8, (n >>> 16).setWidth 8, (n >>> 24).setWidth 8]) ++ nonce).getD 50 0) ((A ++ List.take 4 (List.drop 0 [n.setWidth 8, (n >>> 8).setWidth 8, (n >>> 16).setWidth 8, (n >>> 24).setWidth 8]) ++ nonce).getD 51 0) = n := by
    rw [g0, g1, g2, g3]
    exact R_n n
  have hw : ∀ k, k < 16 → k ≠ 12 → W4 ((A ++ bts { data := #[0, 0, 0, 0] } ++ nonce).getD (4 * k) 0) ((A ++ bts { data := #[0, 0, 0, 0] } ++ nonce).getD (4 * k + 1) 0) ((A ++ bts { data := #[0, 0, 0, 0] } ++ nonce).getD (4 * k + 2) 0) ((A ++ bts { data := #[0, 0, 0, 0] } ++ nonce).getD (4 * k + 3) 0) = R4 ((A ++ List.take 4 (List.drop 0 [n.setWidth 8, (n >>> 8).setWidth 8, (n >>> 16).setWidth 8, (n >>> 24).setWidth 8]) ++ nonce).getD (4 * k) 0) ((A ++ List.take 4 (List.drop 0 [n.setWidth 8, (n >>> 8).setWidth 8, (n >>> 16).setWidth 8, (n >>> 24).setWidth 8]) ++ nonce).getD (4 * k + 1) 0) ((A ++ List.take 4 (List.drop 0 [n.setWidth 8, (n >>> 8).setWidth 8, (n >>> 16).setWidth 8, (n >>> 24).setWidth 8]) ++ nonce).getD (4 * k + 2) 0) ((A ++ List.take 4 (List.drop 0 [n.setWidth 8, (n >>> 8).setWidth 8, (n >>> 16).setWidth 8, (n >>> 24).setWidth 8]) ++ nonce).getD (4 * k + 3) 0) := fun k hk hk2 => by
    rw [ho _ hZ (4 * k) (by omega), ho _ hZ (4 * k + 1) (by omega), ho _ hZ (4 * k + 2) (by omega), ho _ hZ (4 * k + 3) (by omega), W_R]
  generalize A ++ bts { data := #[0, 0, 0, 0] } ++ nonce = S1 at hw
  generalize A ++ List.take 4 (List.drop 0 [n.setWidth 8, (n >>> 8).setWidth 8, (n >>> 16).setWidth 8, (n >>> 24).setWidth 8]) ++ nonce = S2 at hw hR
  show [W4 (S1.getD 0 0) (S1.getD 1 0) (S1.getD 2 0) (S1.getD 3 0), W4 (S1.getD 4 0) (S1.getD 5 0) (S1.getD 6 0) (S1.getD 7 0), W4 (S1.getD 8 0) (S1.getD 9 0) (S1.getD 10 0) (S1.getD 11 0), W4 (S1.getD 12 0) (S1.getD 13 0) (S1.getD 14 0) (S1.getD 15 0), W4 (S1.getD 16 0) (S1.getD 17 0) (S1.getD 18 0) (S1.getD 19 0), W4 (S1.getD 20 0) (S1.getD 21 0) (S1.getD 22 0) (S1.getD 23 0), W4 (S1.getD 24 0) (S1.getD 25 0) (S1.getD 26 0) (S1.getD 27 0), W4 (S1.getD 28 0) (S1.getD 29 0) (S1.getD 30 0) (S1.getD 31 0), W4 (S1.getD 32 0) (S1.getD 33 0) (S1.getD 34 0) (S1.getD 35 0), W4 (S1.getD 36 0) (S1.getD 37 0) (S1.getD 38 0) (S1.getD 39 0), W4 (S1.getD 40 0) (S1.getD 41 0) (S1.getD 42 0) (S1.getD 43 0), W4 (S1.getD 44 0) (S1.getD 45 0) (S1.getD 46 0) (S1.getD 47 0), n, W4 (S1.getD 52 0) (S1.getD 53 0) (S1.getD 54 0) (S1.getD 55 0), W4 (S1.getD 56 0) (S1.getD 57 0) (S1.getD 58 0) (S1.getD 59 0), W4 (S1.getD 60 0) (S1.getD 61 0) (S1.getD 62 0) (S1.getD 63 0)] = [R4 (S2.getD 0 0) (S2.getD 1 0) (S2.getD 2 0) (S2.getD 3 0), R4 (S2.getD 4 0) (S2.getD 5 0) (S2.getD 6 0) (S2.getD 7 0), R4 (S2.getD 8 0) (S2.getD 9 0) (S2.getD 10 0) (S2.getD 11 0), R4 (S2.getD 12 0) (S2.getD 13 0) (S2.getD 14 0) (S2.getD 15 0), R4 (S2.getD 16 0) (S2.getD 17 0) (S2.getD 18 0) (S2.getD 19 0), R4 (S2.getD 20 0) (S2.getD 21 0) (S2.getD 22 0) (S2.getD 23 0), R4 (S2.getD 24 0) (S2.getD 25 0) (S2.getD 26 0) (S2.getD 27 0), R4 (S2.getD 28 0) (S2.getD 29 0) (S2.getD 30 0) (S2.getD 31 0), R4 (S2.getD 32 0) (S2.getD 33 0) (S2.getD 34 0) (S2.getD 35 0), R4 (S2.getD 36 0) (S2.getD 37 0) (S2.getD 38 0) (S2.getD 39 0), R4 (S2.getD 40 0) (S2.getD 41 0) (S2.getD 42 0) (S2.getD 43 0), R4 (S2.getD 44 0) (S2.getD 45 0) (S2.getD 46 0) (S2.getD 47 0), R4 (S2.getD 48 0) (S2.getD 49 0) (S2.getD 50 0) (S2.getD 51 0), R4 (S2.getD 52 0) (S2.getD 53 0) (S2.getD 54 0) (S2.getD 55 0), R4 (S2.getD 56 0) (S2.getD 57 0) (S2.getD 58 0) (S2.getD 59 0), R4 (S2.getD 60 0) (S2.getD 61 0) (S2.getD 62 0) (S2.getD 63 0)]
  have w0 := hw 0 (by decide) (by decide)
  have w1 := hw 1 (by decide) (by decide)
  have w2 := hw 2 (by decide) (by decide)
  have w3 := hw 3 (by decide) (by decide)
  have w4 := hw 4 (by decide) (by decide)
  have w5 := hw 5 (by decide) (by decide)
  have w6 := hw 6 (by decide) (by decide)
  have w7 := hw 7 (by decide) (by decide)
  have w8 := hw 8 (by decide) (by decide)
  have w9 := hw 9 (by decide) (by decide)
  have w10 := hw 10 (by decide) (by decide)
  have w11 := hw 11 (by decide) (by decide)
  have w13 := hw 13 (by decide) (by decide)
  have w14 := hw 14 (by decide) (by decide)
  have w15 := hw 15 (by decide) (by decide)
  rw [hR, show W4 (S1.getD 0 0) (S1.getD 1 0) (S1.getD 2 0) (S1.getD 3 0) = R4 (S2.getD 0 0) (S2.getD 1 0) (S2.getD 2 0) (S2.getD 3 0) from w0, show W4 (S1.getD 4 0) (S1.getD 5 0) (S1.getD 6 0) (S1.getD 7 0) = R4 (S2.getD 4 0) (S2.getD 5 0) (S2.getD 6 0) (S2.getD 7 0) from w1, show W4 (S1.getD 8 0) (S1.getD 9 0) (S1.getD 10 0) (S1.getD 11 0) = R4 (S2.getD 8 0) (S2.getD 9 0) (S2.getD 10 0) (S2.getD 11 0) from w2, show W4 (S1.getD 12 0) (S1.getD 13 0) (S1.getD 14 0) (S1.getD 15 0) = R4 (S2.getD 12 0) (S2.getD 13 0) (S2.getD 14 0) (S2.getD 15 0) from w3, show W4 (S1.getD 16 0) (S1.getD 17 0) (S1.getD 18 0) (S1.getD 19 0) = R4 (S2.getD 16 0) (S2.getD 17 0) (S2.getD 18 0) (S2.getD 19 0) from w4, show W4 (S1.getD 20 0) (S1.getD 21 0) (S1.getD 22 0) (S1.getD 23 0) = R4 (S2.getD 20 0) (S2.getD 21 0) (S2.getD 22 0) (S2.getD 23 0) from w5, show W4 (S1.getD 24 0) (S1.getD 25 0) (S1.getD 26 0) (S1.getD 27 0) = R4 (S2.getD 24 0) (S2.getD 25 0) (S2.getD 26 0) (S2.getD 27 0) from w6, show W4 (S1.getD 28 0) (S1.getD 29 0) (S1.getD 30 0) (S1.getD 31 0) = R4 (S2.getD 28 0) (S2.getD 29 0) (S2.getD 30 0) (S2.getD 31 0) from w7, show W4 (S1.getD 32 0) (S1.getD 33 0) (S1.getD 34 0) (S1.getD 35 0) = R4 (S2.getD 32 0) (S2.getD 33 0) (S2.getD 34 0) (S2.getD 35 0) from w8, show W4 (S1.getD 36 0) (S1.getD 37 0) (S1.getD 38 0) (S1.getD 39 0) = R4 (S2.getD 36 0) (S2.getD 37 0) (S2.getD 38 0) (S2.getD 39 0) from w9, show W4 (S1.getD 40 0) (S1.getD 41 0) (S1.getD 42 0) (S1.getD 43 0) = R4 (S2.getD 40 0) (S2.getD 41 0) (S2.getD 42 0) (S2.getD 43 0) from w10, show W4 (S1.getD 44 0) (S1.getD 45 0) (S1.getD 46 0) (S1.getD 47 0) = R4 (S2.getD 44 0) (S2.getD 45 0) (S2.getD 46 0) (S2.getD 47 0) from w11, show W4 (S1.getD 52 0) (S1.getD 53 0) (S1.getD 54 0) (S1.getD 55 0) = R4 (S2.getD 52 0) (S2.getD 53 0) (S2.getD 54 0) (S2.getD 55 0) from w13, show W4 (S1.getD 56 0) (S1.getD 57 0) (S1.getD 58 0) (S1.getD 59 0) = R4 (S2.getD 56 0) (S2.getD 57 0) (S2.getD 58 0) (S2.getD 59 0) from w14, show W4 (S1.getD 60 0) (S1.getD 61 0) (S1.getD 62 0) (S1.getD 63 0) = R4 (S2.getD 60 0) (S2.getD 61 0) (S2.getD 62 0) (S2.getD 63 0) from w15]
/-- A byte of the sums of words. -/
def obF (x y : Ws) (j : Nat) : BitVec 8 := ((x.getD (j / 4) 0 + y.getD (j / 4) 0) >>> (8 * (j % 4))).setWidth 8
theorem set_take {α : Type} (l : List α) (j : Nat) (v : α) (h : j < l.length) : (l.set j v).take (j + 1) = l.take j ++ [v] := by
  rw [List.take_add_one, List.getElem?_set_self h, List.take_set_of_le (Nat.le_refl _)]
  rfl
theorem ouS_map (x y : Ws) : ∀ j, j ≤ 64 → (ouS x y j).take j = (List.range j).map (obF x y)
  | 0, _ => rfl
  | j + 1, h => by
    rw [ouS, set_take _ _ _ (by rw [ouS_len]; omega), ouS_map x y j (by omega), List.range_succ, List.map_append]
    rfl
theorem obS_map (x y : Ws) : ∀ n, obS x y n = (List.range (4 * n)).map (obF x y)
  | 0 => rfl
  | n + 1 => by
    rw [obS_succ, obS_map x y n, show 4 * (n + 1) = 4 * n + 1 + 1 + 1 + 1 by omega, List.range_succ, List.range_succ, List.range_succ, List.range_succ]
    simp only [List.map_append, List.map_cons, List.map_nil, List.append_assoc]
    congr 1
    show [_, _, _, _] = [_, _, _, _]
    have f : ∀ k, k < 4 → obF x y (4 * n + k) = (((x.getD n 0 + y.getD n 0).setWidth 64 : BitVec 64) >>> (8 * k)).setWidth 8 := fun k hk => by
      unfold obF
      rw [show (4 * n + k) / 4 = n by omega, show (4 * n + k) % 4 = k by omega, sh8]
    have f0 := f 0 (by decide)
    have f1 := f 1 (by decide)
    have f2 := f 2 (by decide)
    have f3 := f 3 (by decide)
    rw [show 4 * n + 1 + 1 + 1 = 4 * n + 3 by omega, show 4 * n + 1 + 1 = 4 * n + 2 by omega]
    rw [show obF x y (4 * n) = _ from f0, f1, f2, f3]
theorem obS_ouS (x y : Ws) : obS x y 16 = ouS x y 64 := by
  have := ouS_map x y 64 (by decide)
  rw [List.take_of_length_le (by rw [ouS_len]; decide)] at this
  rw [this, obS_map]
theorem blB_R (key nonce : Tx) (n : BitVec 32) (h1 : key.length = 32) (h2 : nonce.length = 12) : blB (lyW key nonce) n = blockR key nonce n := by
  unfold blB blockR mxd
  rw [ly_rd key nonce n h1 h2, obS_ouS]
def F5 (Y : Tx → Tx → Ws) (B : Ws → BitVec 32 → Tx) : Env := ⟨G, (noT.add 21 cFits).add 22 (cLay Y), noC.add 23 (cBlock B)⟩
theorem f5_ok : EnvOk Tryd.prog (F5 lyW blB) := ⟨PT.add_ok (PT.add_ok (noT_ok _ _) fits_ok) lay_ok, CT.add_ok (noC_ok _ _) block_ok⟩
theorem vc11 (Y : Tx → Tx → Ws) (B : Ws → BitVec 32 → Tx) (key nonce : Tx) (n : BitVec 32) (K : SV → Mm → Prop) : (vf Tryd.prog (F5 Y B) noL 11 [.s key, .s nonce, .w32 n] G K) = (bif !((List.length key).beq 32 && (List.length nonce).beq 12) then K (SV.tup [SV.s (bts { data := #[] }), SV.i 2]) G else bif (List.length key).beq 32 && (List.length nonce).beq 12 then bif (List.length (Y key nonce)).beq 16 then ∀ (cap' : Nat) (rest : List (BitVec 8)), 64 + rest.length = cap' → bif decide (64 ≤ List.length (B (Y key nonce) n ++ rest)) then K (SV.tup [SV.s (List.take 64 (List.drop 0 (B (Y key nonce) n ++ rest))), SV.i 0]) [{ rw := false, c := Cont.ints MX }, { rw := true, c := Cont.a8 (B (Y key nonce) n ++ rest) }] else False else False else False) := by kernel_rfl
theorem take_left' (a b : Tx) (n : Nat) (h : a.length = n) : (a ++ b).take n = a := by rw [← h, List.take_left]
theorem B_ok : POk Tryd.prog G 11 (cPB bS bE) := by
  intro args acs r hh β M w hR hw ha
  unfold cPB at hh
  split at hh
  · rename_i key nonce n
    simp only [Option.some.injEq, Prod.mk.injEq, Bool.and_eq_true] at hh
    obtain ⟨-, rfl⟩ := hh
    refine pure0 (vf_ok f5_ok mixed (noL_ok _ _ _ _) (of_eq (vc11 lyW blB key nonce n _) ?_)) rfl rfl hR
    by_cases h : key.length = 32 ∧ nonce.length = 12
    · have e1 : bE key nonce = 0 := if_pos h
      have e2 : bS key nonce n = blockR key nonce n := by unfold bS; exact if_pos e1
      rw [e1, e2, h.1, h.2, lyW_len]
      intro cap' rest hc
      have hl := blB_len (lyW key nonce) n
      refine bif_of (decide_eq_true (by rw [List.length_append, hl]; omega)) ?_
      rw [List.drop_zero, take_left' _ _ _ hl, blB_R key nonce n h.1 h.2]
    · have e1 : bE key nonce = 2 := if_neg h
      have e2 : bS key nonce n = [] := by unfold bS; rw [e1]; exact if_neg (by decide)
      have e3 : (Nat.beq key.length 32 && Nat.beq nonce.length 12) = false := by
        rw [Bool.and_eq_false_iff]
        rw [Bool.eq_false_iff, Bool.eq_false_iff]
        simp only [ne_eq, Nat.beq_eq]
        omega
      rw [e1, e2, e3]
      rfl
  · cases hh
end Go.Proofs.YtgjhkfafmmkimaaDoor
