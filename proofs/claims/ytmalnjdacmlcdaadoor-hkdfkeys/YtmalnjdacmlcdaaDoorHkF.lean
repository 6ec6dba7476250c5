/-
  hkdf: the first bytes of the pieces. No statement is proved here.
-/
import Derived.Test.YtmalnjdacmlcdaaDoorHkE
namespace Go.Proofs.YtmalnjdacmlcdaaDoor
open Go.RowKit
set_option linter.unusedVariables false
set_option linter.unusedSimpArgs false
set_option maxRecDepth 100000

def nb (k : Nat) : BitVec 8 := BitVec.ofInt 8 ((k + 1 : Nat) : Int)
theorem nb_succ (k : Nat) : nb k + BitVec.ofInt 8 1 = nb (k + 1) := by
  unfold nb
  rw [show (((k + 1 + 1 : Nat) : Nat) : Int) = ((k + 1 : Nat) : Int) + 1 by omega, BitVec.ofInt_add]
theorem mb_ro (key info : Tx) : ∀ (k : Nat) (e : Ent), (Mb key info)[k]? = some e → e.rw = false := fun k e he => by
  match k, he with
  | 0, he => obtain rfl := Option.some.inj he; rfl
  | 1, he => obtain rfl := Option.some.inj he; rfl
  | 2, he => obtain rfl := Option.some.inj he; rfl
  | 3, he => obtain rfl := Option.some.inj he; rfl
  | k + 4, he => cases he
theorem pieces_seq {U : Tx → Tx → Tx} (hE : EnvOk Tryd.prog (EI U)) (hU : ∀ k s, (U k s).length = 32) (key info : Tx) (hk : key.length ≤ 1000000) (hi : info.length ≤ 900000) (N : Nat) (β0 : Nat → Nat) : SeqLeft Tryd.prog 22 (vals β0 [.ptr 2 0, .ptr 3 0]).toArray (fun k => val β0 (.s (pcs U key info (k + 1)))) N (fun W => Rel G β0 (Mb key info) W) := by
  refine iter_fun (E := EI U) hE mixed (n := 21) (b0 := 0) (b1 := 1) (rid := 4) (N := N) (gf := 22) (fn := Tryd.f22) (Mb := Mb key info) (βb := β0) (xs := fun k => .s (pcs U key info (k + 1))) (R0 := sL (bdOf Tryd.prog 22)) (R1 := sL (sR (bdOf Tryd.prog 22))) (X := xC (bdOf Tryd.prog 22)) (Z := zC (bdOf Tryd.prog 22)) (ops1 := (oC (bdOf Tryd.prog 22)).take 2) (ops2 := (oC (bdOf Tryd.prog 22)).drop 3) (yo := yC (bdOf Tryd.prog 22)) (f := .tmp 17) (x := .tmp 18) (c := .tmp 20) (ts := #[9]) (caps := [.ptr 2 0, .ptr 3 0])
    (fun l k => it22 l (pcs U key info k) (nb k)) (fun l k b => iu22 l (pcs U key info (k + 1)) (nb k) b) Tryd.func22 (by kernel_rfl) (by kernel_rfl) (by kernel_rfl) (by kernel_rfl) (by kernel_rfl) (fun _ => rfl) (mb_ro key info) rfl (fun l => of_eq (vp22 U key info l) ⟨rfl, rfl, rfl, rfl, rfl, ⟨rfl, rfl⟩, ⟨rfl, rfl⟩, ⟨rfl, rfl⟩, ⟨rfl, rfl⟩, trivial⟩) (fun l k hkN => ?_)
  have ht : (pcs U key info k).length ≤ 32 := by
    cases k with
    | zero => exact Nat.zero_le _
    | succ k => rw [pcs_len hU]; exact Nat.le_refl _
  have eb : List.take 1 (List.drop 0 [nb k]) = [nb k] := rfl
  have eU : U key (pcs U key info k ++ info ++ [nb k]) = pcs U key info (k + 1) := rfl
  refine of_eq (vi22 U key info (pcs U key info k) (pcs U key info (k + 1)) (pcs U key info (k + 1)) (nb k) (nb (k + 1)) l) ?_
  rw [eb, eU]
  refine bif_of (by rw [ile_eq]; exact decide_eq_true (by omega)) (bif_of (by rw [ile_eq, List.length_append]; exact decide_eq_true (by simp; omega)) (bif_of (by
    rw [Nat.ble_eq_true_of_le hk, Nat.ble_eq_true_of_le (by rw [List.length_append, List.length_append]; simp; omega)]; rfl) ?_))
  exact ⟨⟨rfl, rfl⟩, ⟨rfl, rfl, rfl, rfl, rfl, rfl, ⟨rfl, rfl⟩, ⟨rfl, rfl⟩, ⟨rfl, rfl⟩, ⟨rfl, rfl⟩, rfl, rfl, rfl, rfl, congrArg SV.w8 (nb_succ k), ⟨rfl, rfl⟩, ⟨rfl, rfl⟩, ⟨rfl, rfl⟩, ⟨rfl, rfl⟩, trivial⟩, rfl, rfl, rfl, rfl, rfl, rfl, ⟨rfl, rfl⟩, ⟨rfl, rfl⟩, ⟨rfl, rfl⟩, ⟨rfl, rfl⟩, trivial⟩
def p14 (U : Tx → Tx → Tx) (key info : Tx) (n : Int) (k : Nat) : BS → Prop
  | .new => k = 0
  | .nil => False
  | .at' len cap l => len = 32 * k ∧ (len : Int) < n ∧ len ≤ cap ∧ l.length = cap ∧ l.take len = ct U key info k
def px14 (U : Tx → Tx → Tx) (key info : Tx) (n : Int) : BS → Prop
  | .new => False
  | .nil => n = 0
  | .at' len cap l => (len : Int) = n ∧ 0 < len ∧ len ≤ cap ∧ l.length = cap ∧ l.take len = xp U key info len
/-- How much of a piece is taken. -/
theorem cut_is (n : Int) (a : Nat) (h0 : (a : Int) ≤ n) : (bif ilt (n - (a : Int)) ((32 : Nat) : Int) then n - (a : Int) else ((32 : Nat) : Int)) = ((min (n.toNat - a) 32 : Nat) : Int) := by
  rw [ilt_eq]
  by_cases h : n - (a : Int) < ((32 : Nat) : Int)
  · rw [decide_eq_true h]
    show n - (a : Int) = _
    omega
  · rw [decide_eq_false h]
    show ((32 : Nat) : Int) = _
    omega
theorem take_cut {T x rest : Tx} {c : Nat} (hc : c ≤ x.length) : (T ++ x.take c ++ rest).take (T.length + (x.take c).length) = T ++ x.take c := by
  rw [List.take_append_of_le_length (by rw [List.length_append]; exact Nat.le_refl _), List.take_of_length_le (by rw [List.length_append]; exact Nat.le_refl _)]
theorem firstB_ok {U : Tx → Tx → Tx} (hE : EnvOk Tryd.prog (EI U)) (hU : ∀ k s, (U k s).length = 32) (key info : Tx) (hk : key.length ≤ 1000000) (hi : info.length ≤ 900000) (n : Int) (h0 : 0 ≤ n) (h1 : n ≤ 8160) : Spec Tryd.prog G 14 [.i n, .fn 22 [.ptr 2 0, .ptr 3 0]] (Mb key info) (fun r M => r = .s (xp U key info n.toNat) ∧ M = Mb key info) := by
  refine range_fun (E := EF) ef_ok mixed (f := 14) (gf := 22) (n := 22) (bid := 0) (pt := 8) (rt := 4) (N := n.toNat / 32 + 1) (nB := 6) (fn := Tryd.f14) (A1 := sL (bdOf Tryd.prog 14)) (A2 := sL (sR (bdOf Tryd.prog 14))) (A3 := sL (sL (sR (sR (bdOf Tryd.prog 14))))) (Z := ezC (bdOf Tryd.prog 14)) (assign := asC (bdOf Tryd.prog 14)) (body := boC (bdOf Tryd.prog 14)) (g := .tmp 7) (Mf key info n) (p14 U key info n) (px14 U key info n) (fun _ => selF) (fun k => .s (pcs U key info (k + 1))) i14 (caps := [.ptr 2 0, .ptr 3 0]) (M0 := Mb key info) (Mb := Mb key info) .new (.s (xp U key info n.toNat))
    Tryd.func14 (by kernel_rfl) (by kernel_rfl) (by kernel_rfl) (mb_ro key info) (by show 2 ≤ 6; decide) (Nat.succ_pos _) rfl (fun i => by cases i <;> (simp [Mf])) rfl (fun i => by cases i <;> rfl) (fun _ => rfl)
    (of_eq (vp14 key info n) ⟨⟨rfl, rfl, rfl, ⟨rfl, rfl⟩, ⟨rfl, rfl⟩, ⟨rfl, rfl⟩, ⟨rfl, rfl⟩, ⟨rfl, rfl⟩, ⟨rfl, rfl⟩, trivial⟩, rfl⟩) rfl rfl (fun args w => enter_run (c := bdOf Tryd.prog 22) Tryd.func22 (by kernel_rfl) (by kernel_rfl) args w)
    (fun β0 => pieces_seq hE hU key info hk hi _ β0) (fun β0 β i W hR hag => ?_) (fun k i hkN hp => ?_) (fun i hx => ?_) rfl
  · refine rel_view (τ := fun k => k) hR (by show 2 ≤ 4; decide) (fun k hk => ?_) (fun g hg => by rw [← hag g (by have : g < 2 := hg; omega)]; exact hR.glob g hg) (fun k e he hk => ?_)
    · match k, hk with
      | 0, _ => rfl
      | 1, _ => rfl
    · match k, he, hk with
      | 2, he, _ =>
        obtain rfl := Option.some.inj he
        exact ⟨rfl, rfl, false, by cases i <;> rfl, (hag 2 (by decide)).symm⟩
      | 3, he, _ =>
        obtain rfl := Option.some.inj he
        exact ⟨rfl, rfl, false, by cases i <;> rfl, (hag 3 (by decide)).symm⟩
      | k + 4, he, _ => cases he
  · have lx := pcs_len hU key info k
    cases i with
    | new =>
      obtain rfl : k = 0 := hp
      have h := of_eq (vr14n key info (pcs U key info (0 + 1)) n (fun i' => 0 + 1 < n.toNat / 32 + 1 ∧ p14 U key info n (0 + 1) i') (px14 U key info n)) ?_
      · rw [frK_eq, setK_eq] at h; exact h
      refine ⟨rfl, ?_⟩
      have e0 : (bif ilt (n - 0) ((32 : Nat) : Int) then n - 0 else ((32 : Nat) : Int)) = ((min (n.toNat - 0) 32 : Nat) : Int) := cut_is n 0 h0
      rw [lx, e0]
      obtain ⟨c, hc⟩ : ∃ c, c = min (n.toNat - 0) 32 := ⟨_, rfl⟩
      rw [← hc, Int.toNat_natCast, List.drop_zero]
      have lm : (List.take c (pcs U key info (0 + 1))).length = c := by rw [List.length_take, lx]; omega
      have e1 : ct U key info (0 + 1) = pcs U key info (0 + 1) := rfl
      have tk : ∀ rest : Tx, (List.take c (pcs U key info (0 + 1)) ++ rest).take c = List.take c (pcs U key info (0 + 1)) := fun rest => by
        rw [List.take_append_of_le_length (by rw [lm]; exact Nat.le_refl _), List.take_of_length_le (by rw [lm]; exact Nat.le_refl _)]
      rw [lm]
      refine bif_of (inI_iff.2 (by omega)) (bif_of (by rw [Bool.and_eq_true, ile_eq, ile_eq]; exact ⟨decide_eq_true (by omega), decide_eq_true (by omega)⟩) (bif_of (Nat.ble_eq_true_of_le (by omega)) ?_))
      cases hz : Nat.beq c 0
      · have hc0 : c ≠ 0 := fun e => by rw [e] at hz; cases hz
        intro cap rest hcap
        cases hn : (((c : Nat) : Int) == n)
        · have hn' : ((c : Nat) : Int) ≠ n := by simpa using hn
          refine ⟨⟨by omega, by omega, by omega, by omega, by rw [List.length_append, lm]; exact hcap, ?_⟩, ⟨rfl, rfl⟩, ⟨rfl, rfl⟩, ⟨rfl, rfl⟩, ⟨rfl, rfl⟩, ⟨rfl, rfl⟩, ⟨rfl, rfl⟩, ⟨rfl, rfl⟩, trivial⟩
          rw [tk, e1, List.take_of_length_le (by rw [lx]; omega)]
        · have hn' : ((c : Nat) : Int) = n := by simpa using hn
          refine ⟨⟨hn', by omega, by omega, by rw [List.length_append, lm]; exact hcap, ?_⟩, ⟨rfl, rfl⟩, ⟨rfl, rfl⟩, ⟨rfl, rfl⟩, ⟨rfl, rfl⟩, ⟨rfl, rfl⟩, ⟨rfl, rfl⟩, ⟨rfl, rfl⟩, trivial⟩
          rw [tk, ← e1, xp_of hU key info c 1 (by omega)]
      · have hc0 : c = 0 := Nat.eq_of_beq_eq_true hz
        have hn0 : n = 0 := by omega
        subst hc0
        rw [hn0]
        exact ⟨rfl, ⟨rfl, rfl⟩, ⟨rfl, rfl⟩, ⟨rfl, rfl⟩, ⟨rfl, rfl⟩, ⟨rfl, rfl⟩, ⟨rfl, rfl⟩, trivial⟩
    | nil => exact hp.elim
    | at' len cap l =>
      obtain ⟨rfl, q1, q2, q3, q4⟩ := hp
      have h := of_eq (vr14b key info (pcs U key info (k + 1)) n (32 * k) cap l (fun i' => k + 1 < n.toNat / 32 + 1 ∧ p14 U key info n (k + 1) i') (px14 U key info n)) ?_
      · rw [frK_eq, setK_eq] at h; exact h
      refine ⟨rfl, ?_⟩
      have e0 := cut_is n (32 * k) (by omega)
      rw [lx, e0]
      obtain ⟨c, hc⟩ : ∃ c, c = min (n.toNat - 32 * k) 32 := ⟨_, rfl⟩
      rw [← hc, Int.toNat_natCast, List.drop_zero]
      have lm : (List.take c (pcs U key info (k + 1))).length = c := by rw [List.length_take, lx]; omega
      have lt := ct_len hU key info k
      have e1 : ct U key info (k + 1) = ct U key info k ++ pcs U key info (k + 1) := rfl
      have tk : ∀ rest : Tx, (ct U key info k ++ List.take c (pcs U key info (k + 1)) ++ rest).take (32 * k + c) = ct U key info k ++ List.take c (pcs U key info (k + 1)) := fun rest => by
        have := take_cut (T := ct U key info k) (x := pcs U key info (k + 1)) (rest := rest) (c := c) (by rw [lx]; omega)
        rw [lt, lm] at this
        exact this
      have tk2 : ct U key info k ++ List.take c (pcs U key info (k + 1)) = (ct U key info (k + 1)).take (32 * k + c) := by
        rw [e1, ← lt, List.take_length_add_append]
      rw [lm, q4]
      refine bif_of (inI_iff.2 (by omega)) (bif_of (by rw [Bool.and_eq_true, ile_eq, ile_eq]; exact ⟨decide_eq_true (by omega), decide_eq_true (by omega)⟩) (bif_of (Nat.ble_eq_true_of_le (by omega)) (bif_of (by simp only [Bool.and_eq_true, decide_eq_true_eq]; omega) fun cap' rest hcap => ?_)))
      have hl' : (ct U key info k ++ List.take c (pcs U key info (k + 1)) ++ rest).length = cap' := by rw [List.length_append, List.length_append, lt, lm]; exact hcap
      cases hn : (((32 * k + c : Nat) : Int) == n)
      · have hn' : ((32 * k + c : Nat) : Int) ≠ n := by simpa using hn
        have hc32 : c = 32 := by omega
        refine ⟨⟨by omega, by omega, by omega, by omega, hl', ?_⟩, ⟨rfl, rfl⟩, ⟨rfl, rfl⟩, ⟨rfl, rfl⟩, ⟨rfl, rfl⟩, ⟨rfl, rfl⟩, ⟨rfl, rfl⟩, ⟨rfl, rfl⟩, trivial⟩
        rw [tk, e1, List.take_of_length_le (by rw [lx]; omega)]
      · have hn' : ((32 * k + c : Nat) : Int) = n := by simpa using hn
        refine ⟨⟨hn', by omega, by omega, hl', ?_⟩, ⟨rfl, rfl⟩, ⟨rfl, rfl⟩, ⟨rfl, rfl⟩, ⟨rfl, rfl⟩, ⟨rfl, rfl⟩, ⟨rfl, rfl⟩, ⟨rfl, rfl⟩, trivial⟩
        rw [tk, tk2, xp_of hU key info (32 * k + c) (k + 1) (by omega)]
  · cases i with
    | new => exact hx.elim
    | nil =>
      have hn0 : n = 0 := hx
      have h := of_eq (vz14n key info n (.s (xp U key info n.toNat))) (by rw [hn0]; rfl)
      simp only [frK_eq, forceK_eq] at h
      exact h
    | at' len cap l =>
      obtain ⟨q1, q2, q3, q4, q5⟩ := hx
      have e : n.toNat = len := by omega
      have h := of_eq (vz14b key info n len cap l (.s (xp U key info n.toNat))) (bif_of (by simp only [Bool.and_eq_true, decide_eq_true_eq]; exact ⟨⟨⟨blt_of q2, by omega⟩, blt_of (by omega)⟩, Nat.ble_eq_true_of_le (by omega)⟩) (by rw [e, q5]))
      simp only [frK_eq, forceK_eq] at h
      exact h
end Go.Proofs.YtmalnjdacmlcdaaDoor
