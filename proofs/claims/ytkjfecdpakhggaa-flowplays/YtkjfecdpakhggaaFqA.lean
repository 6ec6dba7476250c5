/-
  flow: a queue as both sides see it: what Put and Read make of it. No statement is proved here.
-/
import Derived.Test.YtkjfecdpakhggaaFpF
namespace Go.Proofs.Ytkjfecdpakhggaa
open Go.RowKit
set_option linter.unusedVariables false
set_option linter.unusedSimpArgs false
set_option maxRecDepth 100000

/-- The next number, the window, what is ready, what is held so far behind the next number, the end so far behind it, whether it ended. -/
structure Qa where
  a : BitVec 32
  z : Nat
  rd : List (BitVec 8)
  f : Nat → Option (BitVec 8)
  e : Option Nat
  ed : Bool
def Qa.win (q : Qa) : Nat := q.z - q.rd.length
def Qa.lim (q : Qa) : Nat := q.e.getD q.win
def Qa.ee (q : Qa) (sq : BitVec 32) (d : Tx) : Nat := (sq + BitVec.ofNat 32 d.length - q.a).toNat
def Qa.f1 (q : Qa) (sq : BitVec 32) (d : Tx) (j : Nat) : Option (BitVec 8) := if (q.f j).isSome = true then q.f j else if j < q.lim then d[(q.a + BitVec.ofNat 32 j - sq).toNat]? else none
def freeA (f : Nat → Option (BitVec 8)) (E : Nat) : Bool := (List.range 65537).all fun j => decide (j < E) || (f j).isNone
def nxA (f : Nat → Option (BitVec 8)) : Nat → Nat → Nat
  | 0, k => k
  | n + 1, k => if (f k).isSome = true then nxA f n (k + 1) else k
def cntA (f : Nat → Option (BitVec 8)) : Nat := nxA f 65537 0
structure NxF (f : Nat → Option (BitVec 8)) (k : Nat) : Prop where
  all : ∀ j, j < k → (f j).isSome = true
  stop : f k = none
def byA (f : Nat → Option (BitVec 8)) (k : Nat) : Tx := (List.range k).map fun j => bOf (f j)
def Qa.e1 (q : Qa) (sq : BitVec 32) (d : Tx) (fin : Bool) : Option Nat := match q.e with
  | some E => some E
  | none => if (fin && decide (q.ee sq d ≤ q.win) && freeA (q.f1 sq d) (q.ee sq d)) = true then some (q.ee sq d) else none
def Qa.pu (q : Qa) (f1 : Nat → Option (BitVec 8)) (e1 : Option Nat) (k : Nat) : Qa := ⟨if e1 = some k then q.a + BitVec.ofNat 32 k + 1 else q.a + BitVec.ofNat 32 k, q.z, q.rd ++ byA f1 k, fun j => f1 (j + k), if e1 = some k then none else e1.map (· - k), decide (e1 = some k)⟩
def Qa.off (q : Qa) (d : Tx) : Bool := q.ed || decide (65536 < d.length)
def Qa.put (q : Qa) (sq : BitVec 32) (d : Tx) (fin : Bool) : Qa := if q.off d = true then q else q.pu (q.f1 sq d) (q.e1 sq d fin) (cntA (q.f1 sq d))
def Qa.moved (q : Qa) (sq : BitVec 32) (d : Tx) (fin : Bool) : Bool := (q.put sq d fin).a != q.a
def rdN (m : Int) (n : Nat) : Nat := min m.toNat n
def Qa.read (q : Qa) (m : Int) : Qa := { q with rd := q.rd.drop (rdN m q.rd.length) }
def Qa.told (q : Qa) (m : Int) : Tx := q.rd.take (rdN m q.rd.length)
def heldA (f : Nat → Option (BitVec 8)) : Nat → Nat
  | 0 => 0
  | n + 1 => heldA f n + (if (f n).isSome = true then 1 else 0)
def Qa.held (q : Qa) : Nat := heldA q.f q.win
def Qa.window (q : Qa) : Int := bif q.ed then 0 else ((q.z : Nat) : Int) - ((q.rd.length : Nat) : Int)
def newA (x : BitVec 32) (w : Nat) : Qa := ⟨x, w, [], fun _ => none, none, false⟩
/-- What holds of a queue. -/
structure Qa.Ok (q : Qa) : Prop where
  z1 : 0 < q.z
  z2 : q.z ≤ 65536
  rl : q.rd.length ≤ q.z
  fw : ∀ j, q.win ≤ j → q.f j = none
  en : q.ed = false → ∀ E, q.e = some E → 0 < E ∧ E ≤ q.win ∧ ∀ j, E ≤ j → q.f j = none
  nf : q.ed = true → ∀ j, q.f j = none
  f0 : q.f 0 = none
  ne : q.ed = true → q.e = none
theorem freeA_iff {f : Nat → Option (BitVec 8)} (h : ∀ j, 65537 ≤ j → f j = none) (E : Nat) : freeA f E = true ↔ ∀ j, E ≤ j → f j = none := by
  unfold freeA
  rw [List.all_eq_true]
  constructor
  · intro q j hj
    rcases Nat.lt_or_ge j 65537 with g | g
    · have := q j (List.mem_range.2 g)
      rw [decide_eq_false (by omega), Bool.false_or] at this
      exact Option.isNone_iff_eq_none.1 this
    · exact h j g
  · intro q j _
    rcases Nat.lt_or_ge j E with g | g
    · rw [decide_eq_true g]; rfl
    · rw [q j g]; simp
theorem nxA_ok {f : Nat → Option (BitVec 8)} : ∀ n k, f (k + n) = none → (∀ j, j < k → (f j).isSome = true) → NxF f (nxA f n k)
  | 0, k, h, ha => ⟨ha, h⟩
  | n + 1, k, h, ha => by
    unfold nxA
    by_cases c : (f k).isSome = true
    · rw [if_pos c]
      refine nxA_ok n (k + 1) (by rw [show k + 1 + n = k + (n + 1) by omega]; exact h) fun j hj => ?_
      rcases Nat.lt_or_eq_of_le (Nat.le_of_lt_succ hj) with g | rfl
      · exact ha j g
      · exact c
    · rw [if_neg c]
      refine ⟨ha, ?_⟩
      cases hf : f k
      · rfl
      · rw [hf] at c; exact absurd rfl c
theorem cntA_ok {f : Nat → Option (BitVec 8)} (h : f 65537 = none) : NxF f (cntA f) := nxA_ok 65537 0 (by rw [Nat.zero_add]; exact h) fun j hj => absurd hj (Nat.not_lt_zero _)
theorem NxF.le {f : Nat → Option (BitVec 8)} {k : Nat} (h : NxF f k) {n : Nat} (hn : f n = none) : k ≤ n := by
  rcases Nat.lt_or_ge n k with g | g
  · have := h.all n g
    rw [hn] at this; cases this
  · exact g
theorem NxF.uniq {f : Nat → Option (BitVec 8)} {k k' : Nat} (h : NxF f k) (h' : NxF f k') : k = k' := Nat.le_antisymm (h.le h'.stop) (h'.le h.stop)
theorem byA_len (f : Nat → Option (BitVec 8)) (k : Nat) : (byA f k).length = k := by unfold byA; simp
theorem Qa.Ok.lim {q : Qa} (h : q.Ok) (hd : q.ed = false) : q.lim ≤ q.win := by
  unfold Qa.lim
  cases he : q.e with
  | none => exact Nat.le_refl _
  | some E => exact (h.en hd E he).2.1
theorem Qa.Ok.win {q : Qa} (h : q.Ok) : q.win ≤ 65536 := by
  have := h.z2
  unfold Qa.win
  omega
theorem Qa.Ok.f1w {q : Qa} (h : q.Ok) (hd : q.ed = false) (sq : BitVec 32) (d : Tx) (j : Nat) (hj : q.win ≤ j) : q.f1 sq d j = none := by
  have := h.lim hd
  unfold Qa.f1
  rw [h.fw j hj, if_neg (by simp), if_neg (by omega)]
theorem Qa.Ok.f1e {q : Qa} (h : q.Ok) (hd : q.ed = false) (sq : BitVec 32) (d : Tx) (E : Nat) (hE : q.e = some E) (j : Nat) (hj : E ≤ j) : q.f1 sq d j = none := by
  unfold Qa.f1
  rw [(h.en hd E hE).2.2 j hj, if_neg (by simp), if_neg (by unfold Qa.lim; rw [hE]; show ¬ j < E; omega)]
theorem Qa.Ok.cnt {q : Qa} (h : q.Ok) (hd : q.ed = false) (sq : BitVec 32) (d : Tx) : NxF (q.f1 sq d) (cntA (q.f1 sq d)) ∧ cntA (q.f1 sq d) ≤ q.win := by
  have hw := h.win
  have := cntA_ok (f := q.f1 sq d) (h.f1w hd sq d _ (by omega))
  exact ⟨this, this.le (h.f1w hd sq d _ (Nat.le_refl _))⟩
theorem Qa.Ok.e1 {q : Qa} (h : q.Ok) (hd : q.ed = false) (sq : BitVec 32) (d : Tx) (fin : Bool) {E : Nat} (hE : q.e1 sq d fin = some E) : E ≤ q.win ∧ ∀ j, E ≤ j → q.f1 sq d j = none := by
  unfold Qa.e1 at hE
  have hw := h.win
  cases he : q.e with
  | some E' =>
    rw [he] at hE
    cases hE
    exact ⟨(h.en hd E he).2.1, h.f1e hd sq d E he⟩
  | none =>
    rw [he] at hE
    dsimp only at hE
    split at hE
    · rename_i c
      cases hE
      simp only [Bool.and_eq_true, decide_eq_true_eq] at c
      exact ⟨c.1.2, (freeA_iff (fun j hj => h.f1w hd sq d j (by omega)) _).1 c.2⟩
    · cases hE
theorem Qa.off_false {q : Qa} {d : Tx} (h : q.off d = false) : q.ed = false ∧ d.length ≤ 65536 := by
  unfold Qa.off at h
  simp only [Bool.or_eq_false_iff, decide_eq_false_iff_not, Nat.not_lt] at h
  exact h
theorem Qa.put_off {q : Qa} {sq : BitVec 32} {d : Tx} {fin : Bool} (h : q.off d = true) : q.put sq d fin = q := by unfold Qa.put; rw [if_pos h]
theorem Qa.put_on {q : Qa} {sq : BitVec 32} {d : Tx} {fin : Bool} (h : q.off d = false) : q.put sq d fin = q.pu (q.f1 sq d) (q.e1 sq d fin) (cntA (q.f1 sq d)) := by unfold Qa.put; rw [if_neg (by rw [h]; simp)]
theorem Qa.Ok.put {q : Qa} (h : q.Ok) (sq : BitVec 32) (d : Tx) (fin : Bool) : (q.put sq d fin).Ok := by
  cases ho : q.off d
  rotate_left
  · rw [Qa.put_off ho]; exact h
  rw [Qa.put_on ho]
  obtain ⟨hd, -⟩ := Qa.off_false ho
  obtain ⟨hk, hkw⟩ := h.cnt hd sq d
  have hz2 := h.z2
  have hrl := h.rl
  generalize hkk : cntA (q.f1 sq d) = k at hk hkw
  have hlen : (q.rd ++ byA (q.f1 sq d) k).length = q.rd.length + k := by rw [List.length_append, byA_len]
  have hww : q.win = q.z - q.rd.length := rfl
  have hw : (q.pu (q.f1 sq d) (q.e1 sq d fin) k).win = q.win - k := by
    show q.z - (q.rd ++ byA (q.f1 sq d) k).length = q.z - q.rd.length - k
    rw [hlen]; omega
  have hfw : ∀ j, q.win - k ≤ j → q.f1 sq d (j + k) = none := fun j hj => h.f1w hd sq d (j + k) (by omega)
  refine ⟨h.z1, h.z2, ?_, ?_, ?_, ?_, ?_, fun hed => if_pos (of_decide_eq_true hed)⟩
  · show (q.rd ++ byA (q.f1 sq d) k).length ≤ q.z
    rw [hlen]; omega
  · intro j hj
    rw [hw] at hj
    exact hfw j hj
  · intro hed E' hE'
    have hE' : (if q.e1 sq d fin = some k then none else (q.e1 sq d fin).map (· - k)) = some E' := hE'
    rw [if_neg (of_decide_eq_false hed)] at hE'
    cases hE : q.e1 sq d fin with
    | none => rw [hE] at hE'; cases hE'
    | some E =>
      rw [hE] at hE'
      obtain ⟨g1, g2⟩ := h.e1 hd sq d fin hE
      have hne : E ≠ k := fun e => by
        have : decide (q.e1 sq d fin = some k) = false := hed
        rw [hE, e] at this
        simp at this
      have hkE := hk.le (g2 E (Nat.le_refl _))
      have : E - k = E' := by simpa using hE'
      subst this
      refine ⟨by omega, by rw [← hE, hw]; omega, fun j hj => g2 (j + k) (by omega)⟩
  · intro hed j
    have hE : q.e1 sq d fin = some k := of_decide_eq_true hed
    exact (h.e1 hd sq d fin hE).2 (j + k) (by omega)
  · show q.f1 sq d (0 + k) = none
    rw [Nat.zero_add]; exact hk.stop
theorem Qa.Ok.read {q : Qa} (h : q.Ok) (m : Int) : (q.read m).Ok := by
  have hl : (q.read m).rd.length ≤ q.rd.length := by
    show (q.rd.drop _).length ≤ _
    rw [List.length_drop]; omega
  have hw : q.win ≤ (q.read m).win := by
    show q.z - q.rd.length ≤ q.z - (q.read m).rd.length
    omega
  have := h.rl
  refine ⟨h.z1, h.z2, ?_, fun j hj => h.fw j (by omega), fun hd E hE => ?_, h.nf, h.f0, h.ne⟩
  · show (q.read m).rd.length ≤ q.z
    omega
  · obtain ⟨g1, g2, g3⟩ := h.en hd E hE
    exact ⟨g1, by omega, g3⟩
theorem newA_ok (x : BitVec 32) (w : Nat) (h1 : 0 < w) (h2 : w ≤ 65536) : (newA x w).Ok := ⟨h1, h2, Nat.zero_le _, fun _ _ => rfl, fun _ E hE => (by cases hE), fun h => (by cases h), rfl, fun h => (by cases h)⟩
theorem heldA_eq {f : Nat → Option (BitVec 8)} {n : Nat} : ∀ k, (∀ j, n ≤ j → f j = none) → heldA f (n + k) = heldA f n
  | 0, _ => rfl
  | k + 1, h => by
    show heldA f (n + k) + (if (f (n + k)).isSome = true then 1 else 0) = _
    rw [heldA_eq k h, h (n + k) (by omega)]; rfl
theorem heldA_ge {f : Nat → Option (BitVec 8)} {n m : Nat} (hm : n ≤ m) (h : ∀ j, n ≤ j → f j = none) : heldA f m = heldA f n := by
  obtain ⟨k, rfl⟩ := Nat.le.dest hm
  exact heldA_eq k h
theorem heldA_le (f : Nat → Option (BitVec 8)) : ∀ n, heldA f n ≤ n
  | 0 => Nat.le_refl _
  | n + 1 => by
    have := heldA_le f n
    unfold heldA
    split <;> omega
end Go.Proofs.Ytkjfecdpakhggaa
