/-
  aead: a text turned is the document's. No statement is proved here.
-/
import Derived.Test.YtgjhkfafmmkimaaDoorAfJ
import Derived.Shelf.Strings.Repeat
import Derived.Test.YtgjhkfafmmkimaaDoorProg
namespace Go.Proofs.YtgjhkfafmmkimaaDoor
open Go.RowKit
set_option linter.unusedVariables false
set_option linter.unusedSimpArgs false
set_option maxRecDepth 100000

theorem slotK_ex : ∀ {l : List SV} {n : Nat} {K : SV → Prop}, slotK l n K → ∃ v, K v
  | [], _, _, h => h.elim
  | v :: _, 0, _, h => ⟨v, h⟩
  | _ :: l, n + 1, _, h => slotK_ex (l := l) (n := n) h
theorem capK_ex {v : SV} {K : Nat → Prop} (h : capK v K) : ∃ c, K c := by
  unfold capK at h
  split at h
  · exact ⟨_, h⟩
  · exact h.elim
theorem blkK_ex : ∀ {M : Mm} {n : Nat} {K : Tx → Prop}, blkK M n K → ∃ x, K x := by
  intro M
  induction M with
  | nil => intro n K h; cases n <;> exact h.elim
  | cons e M ih =>
    intro n K h
    cases n with
    | zero =>
      obtain ⟨r, c⟩ := e
      cases c <;> first | exact ⟨_, h⟩ | exact h.elim
    | succ n =>
      have h' : blkK M n K := by
        obtain ⟨r, c⟩ := e
        cases c <;> exact h
      exact ih h'
/-- Bytes of a piece, turned. -/
def tB (S B0 : Tx) (i j : Nat) : Tx := (List.range j).map fun t => S.getD (t + i) 0 ^^^ B0.getD t 0
theorem tB_len (S B0 : Tx) (i j : Nat) : (tB S B0 i j).length = j := by simp [tB]
theorem tB_succ (S B0 : Tx) (i j : Nat) : tB S B0 i (j + 1) = tB S B0 i j ++ [S.getD (j + i) 0 ^^^ B0.getD j 0] := by
  unfold tB; rw [List.range_succ, List.map_append]; rfl
theorem take_getD (blk B0 : Tx) (h : blk.take 64 = B0) (j : Nat) (hj : j < 64) : blk.getD j 0 = B0.getD j 0 := by
  rw [← h, getD_take' _ _ _ _ hj]
def mV (m : Nat) : V31 → Nat
  | .fst => m + 1
  | .more j _ _ => m - j
def qV (m : Nat) : V31 → Prop
  | .fst => False
  | .more j _ _ => j = m
def pF (S B0 : Tx) (L : Nat) (y : Tx) (i m : Nat) : V31 → Prop
  | .fst => True
  | .more j cap x => 1 ≤ j ∧ j ≤ m ∧ x.length = cap ∧ L + j ≤ cap ∧ x.take (L + j) = y ++ tB S B0 i j
def qF (S B0 : Tx) (L : Nat) (y : Tx) (i m : Nat) (cap : Nat) (x : Tx) : Prop := x.length = cap ∧ L + m ≤ cap ∧ x.take (L + m) = y ++ tB S B0 i m
theorem innerF (w : Ws) (S z B0 : Tx) (c c0 : BitVec 32) (nn len capS L cap0 : Nat) (x0 : Tx) (i m : Nat) (hm : 1 ≤ m) (hm64 : m ≤ 64) (hS : i + m ≤ S.length) (hz : z.length = nn) (hL : L ≤ cap0) (hx0 : x0.length = cap0) (hL2 : L + 64 ≤ 1099511627776) (R d : Nat) (M1 : Mm) (cd : Code) (fr : List SV) (M : Mm) (K : Ko) (h : Wf31 Tryd.prog w S z B0 c nn len capS i m (M31 w S z nn len capS .fst) (qF S B0 0 [] i m) M1 cd fr M K) : WpR (some R) d [] Tryd.prog G M1 cd fr M K := by
  obtain ⟨rfl, h⟩ := h
  unfold Wl at h
  split at h
  rotate_left
  · exact h.elim
  rename_i id cc
  obtain ⟨he, hLt⟩ := h
  rw [he]
  unfold LT.add at hLt
  cases hid : Nat.beq id 2
  · rw [hid] at hLt; exact hLt.elim
  rw [hid] at hLt
  obtain rfl := Nat.eq_of_beq_eq_true hid
  obtain ⟨v, hLt⟩ := slotK_ex hLt
  obtain ⟨capb, hLt⟩ := capK_ex hLt
  obtain ⟨blk, ⟨hb1, hb2⟩, hLt⟩ := blkK_ex hLt
  obtain ⟨h0, hK⟩ := vLe_ok hLt
  refine loopR_pick f13_ok mixed (by show 1 ≤ 8; decide) (by kernel_rfl) (If31 i m capb) (Mf31 w S z blk c nn len capS) (pF S B0 0 [] i m) (mV m) selV (qV m) (fun _ => []) (Mf31 w S z blk c nn len capS) .fst trivial (fun st hp => ?_) h0 (fun st hp hq => ?_)
  · cases st with
    | fst =>
      refine of_eq (vif blB w S z blk c nn len capS i m capb _ _) ?_
      have hc : ilt 0 (m : Int) = true := by rw [ilt_eq]; exact decide_eq_true (by omega)
      rw [hc, take_getD blk B0 hb2 0 (by decide)]
      refine bif_of (inR_iff.2 ⟨by omega, by omega⟩) (bif_of (blt_of (by omega)) (bif_of (blt_of (by omega)) (bif_of ?_ fun cap' rest hc' => ?_)))
      · simp [hz]
      · refine ⟨⟨⟨Nat.le_refl _, hm, ?_, ?_, ?_⟩, ?_⟩, rfl, rfl, rfl, rfl, rfl, ⟨rfl, rfl⟩, ⟨rfl, rfl⟩, ⟨rfl, rfl⟩, ⟨rfl, rfl⟩, ⟨rfl, rfl⟩, ⟨rfl, rfl⟩, ⟨rfl, rfl⟩, ⟨rfl, rfl⟩, ⟨rfl, rfl⟩, ⟨rfl, rfl⟩, trivial⟩
        · simp at hc' ⊢; omega
        · simp at hc'; omega
        · show List.take (0 + 1) (List.take 0 z ++ [S.getD (0 + i) 0 ^^^ B0.getD 0 0] ++ rest) = [] ++ tB S B0 i (0 + 1)
          rw [List.take_zero, List.nil_append]
          rfl
        · show m - (0 + 1) < m + 1; omega
    | more j cap x =>
      obtain ⟨hj0, hj, hx, hcap, ht⟩ := hp
      refine of_eq (vig blB w S z blk c nn len capS i m capb j cap x _ _) ?_
      cases hc : ilt (j : Int) (m : Int)
      · have hj2 := ilt_fe hc hj
        exact ⟨rfl, hj2, ⟨rfl, rfl⟩, ⟨rfl, rfl⟩, ⟨rfl, rfl⟩, ⟨rfl, rfl⟩, ⟨rfl, rfl⟩, ⟨rfl, rfl⟩, ⟨rfl, rfl⟩, ⟨rfl, rfl⟩, ⟨rfl, rfl⟩, ⟨rfl, rfl⟩, trivial⟩
      · have hj2 := ilt_y hc
        rw [take_getD blk B0 hb2 j (by omega)]
        refine bif_of (inR_nat hj2) (bif_of (blt_of (by omega)) (bif_of (inR_nat (by omega)) (bif_of (blt_of (by omega)) (bif_of ?_ fun cap' rest hc' => bif_of (inI_iff.2 (by omega)) ?_))))
        · simp; omega
        · refine ⟨⟨⟨by omega, by omega, ?_, ?_, ?_⟩, ?_⟩, rfl, rfl, rfl, rfl, rfl, ⟨rfl, rfl⟩, ⟨rfl, rfl⟩, ⟨rfl, rfl⟩, ⟨rfl, rfl⟩, ⟨rfl, rfl⟩, ⟨rfl, rfl⟩, ⟨rfl, rfl⟩, ⟨rfl, rfl⟩, ⟨rfl, rfl⟩, ⟨rfl, rfl⟩, trivial⟩
          · simp at hc' ⊢; omega
          · simp at hc'; omega
          · have ht' : x.take j = tB S B0 i j := by rw [Nat.zero_add, List.nil_append] at ht; exact ht
            show List.take (0 + (j + 1)) (List.take j x ++ [S.getD (j + i) 0 ^^^ B0.getD j 0] ++ rest) = [] ++ tB S B0 i (j + 1)
            rw [ht', ← tB_succ, Nat.zero_add, List.nil_append, take_left' _ _ _ (tB_len S B0 i (j + 1))]
          · show m - (j + 1) < m - j; omega
  · cases st with
    | fst => exact hq.elim
    | more j cap x =>
      obtain ⟨hj0, hj, hx, hcap, ht⟩ := hp
      obtain rfl : j = m := hq
      have := hK cap x ⟨hx, hcap, ht⟩
      rw [frK_eq] at this
      exact this
theorem innerH (w : Ws) (S z B0 : Tx) (c c0 : BitVec 32) (nn len capS L cap0 : Nat) (x0 : Tx) (i m : Nat) (hm : 1 ≤ m) (hm64 : m ≤ 64) (hS : i + m ≤ S.length) (hz : z.length = nn) (hL : L ≤ cap0) (hx0 : x0.length = cap0) (hL2 : L + 64 ≤ 1099511627776) (R d : Nat) (M1 : Mm) (cd : Code) (fr : List SV) (M : Mm) (K : Ko) (h : Wh31 Tryd.prog w S B0 c len capS L cap0 x0 i m (M31 w S z nn len capS (.more c0 L cap0 x0)) (qF S B0 L (x0.take L) i m) M1 cd fr M K) : WpR (some R) d [] Tryd.prog G M1 cd fr M K := by
  obtain ⟨rfl, h⟩ := h
  unfold Wl at h
  split at h
  rotate_left
  · exact h.elim
  rename_i id cc
  obtain ⟨he, hLt⟩ := h
  rw [he]
  unfold LT.add at hLt
  cases hid : Nat.beq id 2
  · rw [hid] at hLt; exact hLt.elim
  rw [hid] at hLt
  obtain rfl := Nat.eq_of_beq_eq_true hid
  obtain ⟨v, hLt⟩ := slotK_ex hLt
  obtain ⟨capb, hLt⟩ := capK_ex hLt
  obtain ⟨blk, ⟨hb1, hb2⟩, hLt⟩ := blkK_ex hLt
  obtain ⟨h0, hK⟩ := vLe_ok hLt
  refine loopR_pick f13_ok mixed (by show 1 ≤ 9; decide) (by kernel_rfl) (Ih31 i m capb) (Mh31 w S blk c len capS L cap0 x0) (pF S B0 L (x0.take L) i m) (mV m) selW (qV m) (fun _ => []) (Mh31 w S blk c len capS L cap0 x0) .fst trivial (fun st hp => ?_) h0 (fun st hp hq => ?_)
  · cases st with
    | fst =>
      refine of_eq (vih blB w S z blk c c0 nn len capS L cap0 x0 i m capb _ _) ?_
      have hc : ilt 0 (m : Int) = true := by rw [ilt_eq]; exact decide_eq_true (by omega)
      rw [hc, take_getD blk B0 hb2 0 (by decide)]
      refine bif_of (inR_iff.2 ⟨by omega, by omega⟩) (bif_of (blt_of (by omega)) (bif_of (blt_of (by omega)) (bif_of ?_ fun cap' rest hc' => ?_)))
      · simp [hx0, hL, show L + 1 ≤ 1099511627776 by omega]
      · refine ⟨⟨⟨Nat.le_refl _, hm, ?_, ?_, ?_⟩, ?_⟩, rfl, rfl, rfl, rfl, rfl, ⟨rfl, rfl⟩, ⟨rfl, rfl⟩, ⟨rfl, rfl⟩, ⟨rfl, rfl⟩, ⟨rfl, rfl⟩, ⟨rfl, rfl⟩, ⟨rfl, rfl⟩, ⟨rfl, rfl⟩, ⟨rfl, rfl⟩, ⟨rfl, rfl⟩, ⟨rfl, rfl⟩, trivial⟩
        · have : (x0.take L).length = L := by rw [List.length_take]; omega
          simp [this] at hc' ⊢; omega
        · simp at hc'; omega
        · have hl : (x0.take L).length = L := by rw [List.length_take]; omega
          show List.take (L + (0 + 1)) (List.take L x0 ++ [S.getD (0 + i) 0 ^^^ B0.getD 0 0] ++ rest) = List.take L x0 ++ tB S B0 i (0 + 1)
          rw [take_left' _ _ _ (by rw [List.length_append, hl]; rfl)]
          rfl
        · show m - (0 + 1) < m + 1; omega
    | more j cap x =>
      obtain ⟨hj0, hj, hx, hcap, ht⟩ := hp
      refine of_eq (vij blB w S z blk c c0 nn len capS L cap0 x0 i m capb j cap x _ _) ?_
      cases hc : ilt (j : Int) (m : Int)
      · have hj2 := ilt_fe hc hj
        exact ⟨rfl, hj2, ⟨rfl, rfl⟩, ⟨rfl, rfl⟩, ⟨rfl, rfl⟩, ⟨rfl, rfl⟩, ⟨rfl, rfl⟩, ⟨rfl, rfl⟩, ⟨rfl, rfl⟩, ⟨rfl, rfl⟩, ⟨rfl, rfl⟩, ⟨rfl, rfl⟩, ⟨rfl, rfl⟩, trivial⟩
      · have hj2 := ilt_y hc
        rw [take_getD blk B0 hb2 j (by omega)]
        refine bif_of (inR_nat hj2) (bif_of (blt_of (by omega)) (bif_of (inR_nat (by omega)) (bif_of (blt_of (by omega)) (bif_of ?_ fun cap' rest hc' => bif_of (inI_iff.2 (by omega)) ?_))))
        · simp; omega
        · refine ⟨⟨⟨by omega, by omega, ?_, ?_, ?_⟩, ?_⟩, rfl, rfl, rfl, rfl, rfl, ⟨rfl, rfl⟩, ⟨rfl, rfl⟩, ⟨rfl, rfl⟩, ⟨rfl, rfl⟩, ⟨rfl, rfl⟩, ⟨rfl, rfl⟩, ⟨rfl, rfl⟩, ⟨rfl, rfl⟩, ⟨rfl, rfl⟩, ⟨rfl, rfl⟩, ⟨rfl, rfl⟩, trivial⟩
          · simp at hc' ⊢; omega
          · simp at hc'; omega
          · have hl : (x0.take L).length = L := by rw [List.length_take]; omega
            show List.take (L + (j + 1)) (List.take (L + j) x ++ [S.getD (j + i) 0 ^^^ B0.getD j 0] ++ rest) = List.take L x0 ++ tB S B0 i (j + 1)
            rw [ht, List.append_assoc (List.take L x0), ← tB_succ, take_left' _ _ _ (by rw [List.length_append, hl, tB_len])]
          · show m - (j + 1) < m - j; omega
  · cases st with
    | fst => exact hq.elim
    | more j cap x =>
      obtain ⟨hj0, hj, hx, hcap, ht⟩ := hp
      obtain rfl : j = m := hq
      have := hK cap x ⟨hx, hcap, ht⟩
      rw [frK_eq] at this
      exact this
end Go.Proofs.YtgjhkfafmmkimaaDoor
namespace Go.Proofs.YtgjhkfafmmkimaaDoor
open Go.RowKit
set_option linter.unusedVariables false
set_option linter.unusedSimpArgs false
set_option maxRecDepth 100000

/-- The first bytes of a text turned by the blocks of words. -/
def trF (w : Ws) (s : Tx) (n : Nat) : Tx := (List.range n).map fun j => s.getD j 0 ^^^ (blB w (BitVec.ofInt 32 (1 + ((j / 64 : Nat) : Int)))).getD (j % 64) 0
theorem trF_len (w : Ws) (s : Tx) (n : Nat) : (trF w s n).length = n := by simp [trF]
theorem trF_succ (w : Ws) (s : Tx) (n : Nat) : trF w s (n + 1) = trF w s n ++ [s.getD n 0 ^^^ (blB w (BitVec.ofInt 32 (1 + ((n / 64 : Nat) : Int)))).getD (n % 64) 0] := by
  unfold trF; rw [List.range_succ, List.map_append]; rfl
theorem getD_left (s z : Tx) (j : Nat) (h : j < s.length) : (s ++ z).getD j 0 = s.getD j 0 := by
  rw [List.getD_eq_getElem?_getD, List.getElem?_append_left h, ← List.getD_eq_getElem?_getD]
theorem trF_piece (w : Ws) (s z : Tx) (k : Nat) : ∀ j, j ≤ 64 → 64 * k + j ≤ s.length → trF w s (64 * k + j) = trF w s (64 * k) ++ tB (s ++ z) (blB w (BitVec.ofInt 32 (1 + ((k : Nat) : Int)))) (64 * k) j
  | 0, _, _ => by rw [Nat.add_zero]; show _ = _ ++ []; rw [List.append_nil]
  | j + 1, h, h2 => by
    rw [← Nat.add_assoc, trF_succ, trF_piece w s z k j (by omega) (by omega), tB_succ, List.append_assoc]
    rw [show (64 * k + j) / 64 = k by omega, show (64 * k + j) % 64 = j by omega, Nat.add_comm j (64 * k), getD_left s z (64 * k + j) (by omega)]
structure T31 where
  capS : Nat
  S : Tx
def t31 (s : Tx) (θ : T31) : Prop := s.length ≤ θ.capS ∧ θ.S = s ++ List.replicate (θ.capS - s.length) 0
def p31 (w : Ws) (s : Tx) (k : Nat) : U31 → Prop
  | .fst => k = 0
  | .more c L cap x => 1 ≤ k ∧ c = BitVec.ofInt 32 (k : Int) ∧ L = min (64 * k) s.length ∧ x.length = cap ∧ L ≤ cap ∧ x.take L = trF w s L
def z31 (s : Tx) : Tx := List.replicate s.length 0
def W31 (P : Program) (w : Ws) (s : Tx) (θ : T31) (k : Nat) (st : U31) (M1 : Mm) (cd : Code) (fr : List SV) (M : Mm) (K : Ko) : Prop := match st with
  | .fst => Wf31 P w θ.S (z31 s) (blB w (BitVec.ofInt 32 0 + BitVec.ofInt 32 1)) (BitVec.ofInt 32 0 + BitVec.ofInt 32 1) s.length s.length θ.capS (64 * k) (min 64 (s.length - 64 * k)) (M31 w θ.S (z31 s) s.length s.length θ.capS .fst) (qF θ.S (blB w (BitVec.ofInt 32 0 + BitVec.ofInt 32 1)) 0 [] (64 * k) (min 64 (s.length - 64 * k))) M1 cd fr M K
  | .more c0 L cap0 x0 => Wh31 P w θ.S (blB w (c0 + BitVec.ofInt 32 1)) (c0 + BitVec.ofInt 32 1) s.length θ.capS L cap0 x0 (64 * k) (min 64 (s.length - 64 * k)) (M31 w θ.S (z31 s) s.length s.length θ.capS (.more c0 L cap0 x0)) (qF θ.S (blB w (c0 + BitVec.ofInt 32 1)) L (x0.take L) (64 * k) (min 64 (s.length - 64 * k))) M1 cd fr M K
theorem ro_g : ∀ (k : Nat) (e : Ent), G[k]? = some e → e.rw = false := fun k e he => by
  match k, he with
  | 0, he => obtain rfl := Option.some.inj he; rfl
  | k + 1, he => cases he
theorem cnt (k : Nat) : BitVec.ofInt 32 (k : Int) + BitVec.ofInt 32 1 = BitVec.ofInt 32 (1 + (k : Int)) := by rw [← BitVec.ofInt_add, Int.add_comm]
theorem turn_spec (w : Ws) (s : Tx) (hw : w.length = 16) (hs : s.length ≤ 1000000000) : Spec Tryd.prog G 31 [.a32 w, .s s] G (fun r M => r = .s (trF w s s.length) ∧ M = G) := by
  refine range_funA (E := F13 blB) f13_ok mixed (f := 31) (gf := 50) (n := 42) (bid := 0) (pt := 17) (rt := 4) (nB := 8) (fn := Tryd.f31) (A1 := A1c (bdOf Tryd.prog 31)) (A2 := A2c (bdOf Tryd.prog 31)) (A3 := A3c (bdOf Tryd.prog 31)) (A4 := A4c (bdOf Tryd.prog 31)) (Z := ezc (bdOf Tryd.prog 31)) (assign := asc (bdOf Tryd.prog 31)) (body := boc (bdOf Tryd.prog 31)) (g := .tmp 16) (t31 s) (fun _ => nK s.length 64) (fun θ st => M31 w θ.S (z31 s) s.length s.length θ.capS st) (fun _ k st => p31 w s k st) sel31 (W31 Tryd.prog w s) (fun _ => pcK s.length 64) (fun _ => i31) (caps := [.ptr 6 0, .ptr 7 0]) (M0 := G) (fun θ => Mv s.length θ.capS 64) (fun _ => .fst) (.s (trF w s s.length))
    Tryd.func31 (by kernel_rfl) (by kernel_rfl) (by kernel_rfl) ro_g (by show 1 ≤ 8; decide) (fun _ _ => rfl) (fun _ st => by cases st <;> (simp [M31])) (fun _ => rfl) (fun _ => rfl) (fun _ _ => rfl) (fun θ hT k st hk hp R d M1 cd fr M K h => ?_)
    (of_eq (vp31 blB w s _) ?_) (fun _ => rfl) rfl (fun args w => enter_run (c := bdOf Tryd.prog 50) Tryd.func50 (by kernel_rfl) (by kernel_rfl) args w)
    (fun θ hT β0 => chunk_seq s.length θ.capS 64 (by decide) (by decide) hT.1 (by omega) β0) (fun θ hT β0 β st W hR hag => ?_) (fun θ hT k st hkN hp => ?_) (fun θ hT st hp => ?_) rfl
  · obtain ⟨c2, c3⟩ := hT
    have hi := nK_lt (by decide) hk
    have hSl : θ.S.length = θ.capS := by rw [c3, List.length_append, List.length_replicate]; omega
    have hzl : (z31 s).length = s.length := List.length_replicate ..
    cases st with
    | fst => exact innerF w θ.S (z31 s) _ _ 0 s.length s.length θ.capS 0 0 [] (64 * k) (min 64 (s.length - 64 * k)) (by omega) (by omega) (by omega) hzl (Nat.le_refl _) rfl (by decide) R d M1 cd fr M K h
    | more c0 L cap0 x0 =>
      obtain ⟨q1, q2, q3, q4, q5, q6⟩ := hp
      exact innerH w θ.S (z31 s) _ _ c0 s.length s.length θ.capS L cap0 x0 (64 * k) (min 64 (s.length - 64 * k)) (by omega) (by omega) (by omega) hzl q5 q4 (by omega) R d M1 cd fr M K h
  · refine bif_of (by rw [ile_eq]; exact decide_eq_true (by omega)) fun capS S h3 h4 => ?_
    exact ⟨⟨capS, S⟩, ⟨h3, h4⟩, ⟨rfl, rfl, rfl, rfl, ⟨rfl, rfl⟩, ⟨rfl, rfl⟩, ⟨rfl, rfl⟩, ⟨rfl, rfl⟩, ⟨rfl, rfl⟩, ⟨rfl, rfl⟩, ⟨rfl, rfl⟩, ⟨rfl, rfl⟩, trivial⟩, rfl⟩
  · refine rel_view2 hR (fun k => k) (by show 1 ≤ 8; decide) (fun k hk => ?_) (fun g hg => by rw [← hag g (by have : g < 1 := hg; omega)]; exact hR.glob g hg) (fun k hk => (hag k hk).symm) (fun k e he hk => ?_)
    · match k, hk with
      | 0, _ => rfl
    · match k, he, hk with
      | 1, he, _ => obtain rfl := Option.some.inj he; exact ⟨rfl, rfl, fun h => nomatch h⟩
      | 2, he, _ => obtain rfl := Option.some.inj he; exact ⟨rfl, rfl, fun h => nomatch h⟩
      | 3, he, _ => obtain rfl := Option.some.inj he; exact ⟨rfl, rfl, fun h => nomatch h⟩
      | 4, he, _ => obtain rfl := Option.some.inj he; exact ⟨rfl, rfl, fun h => nomatch h⟩
      | 5, he, _ => obtain rfl := Option.some.inj he; exact ⟨rfl, rfl, fun h => nomatch h⟩
      | 6, he, _ => obtain rfl := Option.some.inj he; exact ⟨rfl, rfl, fun _ => ⟨true, by cases st <;> rfl⟩⟩
      | 7, he, _ => obtain rfl := Option.some.inj he; exact ⟨rfl, rfl, fun _ => ⟨true, by cases st <;> rfl⟩⟩
      | k + 8, he, _ => cases he
  · obtain ⟨c2, c3⟩ := hT
    have hi := nK_lt (by decide) hkN
    cases st with
    | fst =>
      obtain rfl : k = 0 := hp
      have h := of_eq (vr31f blB w θ.S (z31 s) (blB w (BitVec.ofInt 32 0 + BitVec.ofInt 32 1)) (BitVec.ofInt 32 0 + BitVec.ofInt 32 1) s.length s.length θ.capS (64 * 0) (min 64 (s.length - 64 * 0)) (M31 w θ.S (z31 s) s.length s.length θ.capS .fst) (qF θ.S (blB w (BitVec.ofInt 32 0 + BitVec.ofInt 32 1)) 0 [] (64 * 0) (min 64 (s.length - 64 * 0))) (fun st' => p31 w s (0 + 1) st')) ?_
      · rw [frK_eq, setK_eq] at h; exact h
      rw [hw]
      intro cap' rest hc
      have hl := blB_len w (BitVec.ofInt 32 0 + BitVec.ofInt 32 1)
      refine ⟨rfl, rfl, ⟨by rw [List.length_append, hl]; omega, take_left' _ _ _ hl⟩, rfl, rfl, rfl, rfl, rfl, ⟨rfl, rfl⟩, ⟨rfl, rfl⟩, ⟨rfl, rfl⟩, ⟨rfl, rfl⟩, ⟨rfl, rfl⟩, ⟨rfl, rfl⟩, ⟨rfl, rfl⟩, ⟨rfl, rfl⟩, ⟨rfl, rfl⟩, fun cap x hx => ⟨?_, ⟨rfl, rfl⟩, ⟨rfl, rfl⟩, ⟨rfl, rfl⟩, ⟨rfl, rfl⟩, ⟨rfl, rfl⟩, ⟨rfl, rfl⟩, ⟨rfl, rfl⟩, ⟨rfl, rfl⟩, ⟨rfl, rfl⟩, trivial⟩⟩
      obtain ⟨x1, x2, x3⟩ := hx
      rw [Nat.zero_add] at x2 x3
      rw [List.nil_append] at x3
      refine ⟨Nat.le_refl _, rfl, by omega, x1, x2, ?_⟩
      have hp := trF_piece w s (List.replicate (θ.capS - s.length) 0) 0 (min 64 (s.length - 64 * 0)) (by omega) (by omega)
      rw [x3, c3]
      rw [Nat.mul_zero, Nat.zero_add] at hp
      exact hp.symm
    | more c0 L cap0 x0 =>
      obtain ⟨q1, rfl, q3, q4, q5, q6⟩ := hp
      obtain rfl : L = 64 * k := by omega
      have h := of_eq (vr31m blB w θ.S (z31 s) (blB w (BitVec.ofInt 32 (k : Int) + BitVec.ofInt 32 1)) (BitVec.ofInt 32 (k : Int) + BitVec.ofInt 32 1) (BitVec.ofInt 32 (k : Int)) s.length s.length θ.capS (64 * k) cap0 x0 (64 * k) (min 64 (s.length - 64 * k)) (M31 w θ.S (z31 s) s.length s.length θ.capS (.more (BitVec.ofInt 32 (k : Int)) (64 * k) cap0 x0)) (qF θ.S (blB w (BitVec.ofInt 32 (k : Int) + BitVec.ofInt 32 1)) (64 * k) (x0.take (64 * k)) (64 * k) (min 64 (s.length - 64 * k))) (fun st' => p31 w s (k + 1) st')) ?_
      · rw [frK_eq, setK_eq] at h; exact h
      rw [hw]
      intro cap' rest hc
      have hl := blB_len w (BitVec.ofInt 32 (k : Int) + BitVec.ofInt 32 1)
      refine ⟨rfl, rfl, ⟨by rw [List.length_append, hl]; omega, take_left' _ _ _ hl⟩, rfl, rfl, rfl, rfl, rfl, ⟨rfl, rfl⟩, ⟨rfl, rfl⟩, ⟨rfl, rfl⟩, ⟨rfl, rfl⟩, ⟨rfl, rfl⟩, ⟨rfl, rfl⟩, ⟨rfl, rfl⟩, ⟨rfl, rfl⟩, ⟨rfl, rfl⟩, ⟨rfl, rfl⟩, fun cap x hx => ⟨?_, ⟨rfl, rfl⟩, ⟨rfl, rfl⟩, ⟨rfl, rfl⟩, ⟨rfl, rfl⟩, ⟨rfl, rfl⟩, ⟨rfl, rfl⟩, ⟨rfl, rfl⟩, ⟨rfl, rfl⟩, ⟨rfl, rfl⟩, trivial⟩⟩
      obtain ⟨x1, x2, x3⟩ := hx
      have hcn := cnt k
      refine ⟨by omega, by rw [hcn]; congr 1; omega, by omega, x1, x2, ?_⟩
      have hp := trF_piece w s (List.replicate (θ.capS - s.length) 0) k (min 64 (s.length - 64 * k)) (by omega) (by omega)
      rw [x3, c3, q6, hcn]
      exact hp.symm
  · cases st with
    | fst =>
      have h0 : nK s.length 64 = 0 := hp
      have hg := nK_ge (len := s.length) (c := 64) (by decide)
      have hl0 : s.length = 0 := by rw [h0] at hg; omega
      have h := of_eq (vz31f blB w θ.S (z31 s) s.length s.length θ.capS (.s (trF w s s.length))) (by rw [hl0]; rfl)
      simp only [frK_eq, forceK_eq] at h
      exact h
    | more c L cap x =>
      obtain ⟨q1, q2, q3, q4, q5, q6⟩ := hp
      have hg := nK_ge (len := s.length) (c := 64) (by decide)
      obtain rfl : L = s.length := by omega
      have h := of_eq (vz31m blB w θ.S (z31 s) s.length s.length θ.capS c s.length cap x (.s (trF w s s.length))) (bif_of (decide_eq_true (by omega)) (by rw [List.drop_zero, q6]))
      simp only [frK_eq, forceK_eq] at h
      exact h
def cTurn (U : Ws → Tx → Tx) : List SV → List Cont → Option (Bool × SV)
  | [.a32 w, .s s], _ => some (Nat.beq w.length 16 && Nat.ble s.length 1000000000, .s (U w s))
  | _, _ => none
def trW (w : Ws) (s : Tx) : Tx := trF w s s.length
theorem trW_len (w : Ws) (s : Tx) : (trW w s).length = s.length := trF_len ..
theorem turn_ok : POk Tryd.prog G 31 (cTurn trW) := by
  intro args acs r h β M w hR hw ha
  unfold cTurn at h
  split at h
  · rename_i w0 s
    simp only [Option.some.injEq, Prod.mk.injEq, Bool.and_eq_true] at h
    obtain ⟨⟨h0, h1⟩, rfl⟩ := h
    exact pure0 (Spec.weak (turn_spec w0 s (Nat.eq_of_beq_eq_true h0) (Nat.le_of_ble_eq_true h1)) fun r M h => h.1) rfl rfl hR
  · cases h
theorem trW_D (key nonce s : Tx) (h1 : key.length = 32) (h2 : nonce.length = 12) : trW (lyW key nonce) s = turnD blockR key nonce s := by
  apply List.ext_getElem
  · rw [trW_len, turnD_len]
  · intro j g1 g2
    rw [trW_len] at g1
    have e1 := turnD_at blockR key nonce s j g1
    rw [List.getD_eq_getElem?_getD, List.getElem?_eq_getElem g2, Option.getD_some] at e1
    rw [e1]
    simp only [trW, trF, List.getElem_map, List.getElem_range]
    rw [blB_R key nonce _ h1 h2]
    rfl
end Go.Proofs.YtgjhkfafmmkimaaDoor
namespace Go.Proofs.YtgjhkfafmmkimaaDoor
open Go.Shelf Go.RowKit
def rep_ren : Go.Shelf.Ren := ⟨fun | 105 => 52 | 212 => 54 | 99 => 55 | 165 => 56 | 166 => 57 | 170 => 58 | 169 => 59 | 263 => 61 | 264 => 62 | 206 => 63 | 240 => 64 | 241 => 65 | 276 => 66 | 277 => 67 | n => n, fun | 9 => 9 | 3 => 3 | 4 => 4 | 20 => 20 | 0 => 0 | 46 => 48 | 109 => 86 | 5 => 5 | 72 => 90 | 76 => 94 | 51 => 22 | 146 => 98 | 53 => 51 | 148 => 100 | 70 => 88 | 37 => 35 | 75 => 93 | 127 => 102 | 164 => 103 | 80 => 73 | n => n, fun | n => n⟩
theorem rep_lays : Go.Proofs.Lays.n105 Tryd.prog rep_ren := {
  mixed := by kernel_rfl
  f99 := Tryd.func55.trans (congrArg some (by kernel_rfl))
  f105 := Tryd.func52.trans (congrArg some (by kernel_rfl))
  f165 := Tryd.func56.trans (congrArg some (by kernel_rfl))
  f166 := Tryd.func57.trans (congrArg some (by kernel_rfl))
  f169 := Tryd.func59.trans (congrArg some (by kernel_rfl))
  f170 := Tryd.func58.trans (congrArg some (by kernel_rfl))
  f206 := Tryd.func63.trans (congrArg some (by kernel_rfl))
  f212 := Tryd.func54.trans (congrArg some (by kernel_rfl))
  f240 := Tryd.func64.trans (congrArg some (by kernel_rfl))
  f241 := Tryd.func65.trans (congrArg some (by kernel_rfl))
  f263 := Tryd.func61.trans (congrArg some (by kernel_rfl))
  f264 := Tryd.func62.trans (congrArg some (by kernel_rfl))
  f276 := Tryd.func66.trans (congrArg some (by kernel_rfl))
  f277 := Tryd.func67.trans (congrArg some (by kernel_rfl))
  t0 := Tryd.underlying0
  a0 := Tryd.isAgg0
  z0 := Tryd.sizeOf0
  v0 := Tryd.zeroValue0
  t3 := Tryd.underlying3
  a3 := Tryd.isAgg3
  z3 := Tryd.sizeOf3
  v3 := Tryd.zeroValue3
  t4 := Tryd.underlying4
  a4 := Tryd.isAgg4
  z4 := Tryd.sizeOf4
  v4 := Tryd.zeroValue4
  t5 := Tryd.underlying5
  a5 := Tryd.isAgg5
  z5 := Tryd.sizeOf5
  v5 := Tryd.zeroValue5
  t9 := Tryd.underlying9
  a9 := Tryd.isAgg9
  z9 := Tryd.sizeOf9
  v9 := Tryd.zeroValue9
  t20 := Tryd.underlying20
  a20 := Tryd.isAgg20
  z20 := Tryd.sizeOf20
  v20 := Tryd.zeroValue20
  t37 := Tryd.underlying35
  a37 := Tryd.isAgg35
  z37 := Tryd.sizeOf35
  v37 := Tryd.zeroValue35
  t46 := Tryd.underlying48
  a46 := Tryd.isAgg48
  z46 := Tryd.sizeOf48
  v46 := Tryd.zeroValue48
  t51 := Tryd.underlying22
  a51 := Tryd.isAgg22
  z51 := Tryd.sizeOf22
  v51 := Tryd.zeroValue22
  t53 := Tryd.underlying51
  a53 := Tryd.isAgg51
  z53 := Tryd.sizeOf51
  v53 := Tryd.zeroValue51
  t70 := Tryd.underlying88
  a70 := Tryd.isAgg88
  z70 := Tryd.sizeOf88
  v70 := Tryd.zeroValue88
  t72 := Tryd.underlying90
  a72 := Tryd.isAgg90
  z72 := Tryd.sizeOf90
  v72 := Tryd.zeroValue90
  t75 := Tryd.underlying93
  a75 := Tryd.isAgg93
  z75 := Tryd.sizeOf93
  v75 := Tryd.zeroValue93
  t76 := Tryd.underlying94
  a76 := Tryd.isAgg94
  z76 := Tryd.sizeOf94
  v76 := Tryd.zeroValue94
  t109 := Tryd.underlying86
  a109 := Tryd.isAgg86
  z109 := Tryd.sizeOf86
  v109 := Tryd.zeroValue86
  t127 := Tryd.underlying102
  a127 := Tryd.isAgg102
  z127 := Tryd.sizeOf102
  v127 := Tryd.zeroValue102
  t146 := Tryd.underlying98
  a146 := Tryd.isAgg98
  z146 := Tryd.sizeOf98
  v146 := Tryd.zeroValue98
  t148 := Tryd.underlying100
  a148 := Tryd.isAgg100
  z148 := Tryd.sizeOf100
  v148 := Tryd.zeroValue100
  t164 := Tryd.underlying103
  a164 := Tryd.isAgg103
  z164 := Tryd.sizeOf103
  v164 := Tryd.zeroValue103 }
theorem rep_extra : Builder.Extra Tryd.prog rep_ren := {
  sizeBuilder := by kernel_rfl
  liesBuilder := by kernel_rfl
  t5 := Tryd.underlying5
  a5 := Tryd.isAgg5
  z5 := Tryd.sizeOf5
  v5 := Tryd.zeroValue5
  infoByte := by kernel_rfl
  cellsByte := by kernel_rfl
  sizeByte := by kernel_rfl
  neB5 := by decide }
theorem rep_calls (s : ByteArray) (c : Nat) (w : World) (hc : c ≤ 9223372036854775807) (hlen : s.size * c ≤ 140737488355328) :
    Calls Tryd.prog 52 #[.string s, .int .i64 c] w fun e w' => e = .returned (.string ⟨(Lib.repeatL s.data.toList c).toArray⟩) ∧ Below w.heap.size w w' := Any.strings_Repeat rep_lays rep_extra s c w hc hlen
end Go.Proofs.YtgjhkfafmmkimaaDoor
