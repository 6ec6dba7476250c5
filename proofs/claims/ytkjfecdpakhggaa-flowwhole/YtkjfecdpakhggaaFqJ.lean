/-
  flow: scripts, and whether one is more than is played. No statement is proved here.
-/
import Derived.Test.YtkjfecdpakhggaaFqH
namespace Go.Proofs.Ytkjfecdpakhggaa
open Go.RowKit
set_option linter.unusedVariables false
set_option linter.unusedSimpArgs false
set_option maxRecDepth 100000

/-- A step's cells. -/
abbrev SF : List Fk := [.u32, .s, .b, .b, .i]
abbrev Sr : Type := Rc SF
def scrE (pre : List Value) (l : List Sr) : Ent := ⟨false, .recs none SF pre l⟩
def mH (pre : List Value) (l : List Sr) : Mm := [scrE pre l]
/-- How many bytes a step has. -/
def stW (r : Sr) : Nat := r.2.1.length
def hvN (l : List Sr) : Nat → Nat
  | 0 => 0
  | i + 1 => hvN l i + stW (l.getD i (rz SF))
def i21 (pre : List Value) (len cap : Nat) (n : Int) (i : Nat) : List (Nat × SV) := [(0, .rs 0 pre.length 0 5 len cap), (3, .i n), (4, .i (i : Nat))]
def o21 (pre : List Value) (len cap : Nat) (n : Int) : List (Nat × SV) := [(0, .rs 0 pre.length 0 5 len cap), (3, .i n)]
def L21 (pre : List Value) (l : List Sr) (len cap : Nat) (N : Int) : LT := noL.add 0 (vLoop (mH pre l) 30 (i21 pre len cap 0 0) (mH pre l) (o21 pre len cap N) (mH pre l))
theorem r21 (pre : List Value) (l : List Sr) (len cap i : Nat) (n n' N : Int) (a : Prop) : (frK 30 (i21 pre len cap n i) fun fr => vround Try.prog E0 noL 7 0 fr (mH pre l) (Kn (mH pre l) 0 30 a (i21 pre len cap n' (i + 1)) (mH pre l) (o21 pre len cap N) (mH pre l))) = (bif ilt (↑i : Int) (↑len : Int) then bif bif true then ilt (↑i : Int) 300 else false then bif inR (↑i : Int) len then bif rok pre.length i 5 SF pre l.length then bif inI (n + (↑(List.length (l.getD (i + (pre.length - pre.length) / 5) (rz SF)).snd.fst) : Int)) then bif inI ((↑i : Int) + 1) then a ∧ SV.rs 0 pre.length 0 5 len cap = SV.rs 0 pre.length 0 5 len cap ∧ SV.i (n + (↑(List.length (l.getD (i + (pre.length - pre.length) / 5) (rz SF)).snd.fst) : Int)) = SV.i n' ∧ SV.i ((↑i : Int) + 1) = SV.i (↑(i + 1) : Int) ∧ (false = false ∧ Cont.recs none SF pre l = Cont.recs none SF pre l) ∧ True else False else False else False else False else 0 = 0 ∧ SV.rs 0 pre.length 0 5 len cap = SV.rs 0 pre.length 0 5 len cap ∧ SV.i n = SV.i N ∧ (false = false ∧ Cont.recs none SF pre l = Cont.recs none SF pre l) ∧ True else 0 = 0 ∧ SV.rs 0 pre.length 0 5 len cap = SV.rs 0 pre.length 0 5 len cap ∧ SV.i n = SV.i N ∧ (false = false ∧ Cont.recs none SF pre l = Cont.recs none SF pre l) ∧ True) := by kernel_rfl
theorem v21 (pre : List Value) (l : List Sr) (len cap : Nat) (N : Int) (K : SV → Prop) : (vf Try.prog E0 (L21 pre l len cap N) 7 [.rs 0 pre.length 0 5 len cap] (mH pre l) (fun r _ => K r)) = (loopOf Try.prog 7 0 = loopOf Try.prog 7 0 ∧ SV.rs 0 pre.length 0 5 len cap = SV.rs 0 pre.length 0 5 len cap ∧ SV.i 0 = SV.i 0 ∧ SV.i 0 = SV.i (↑0 : Int) ∧ (false = false ∧ Cont.recs none SF pre l = Cont.recs none SF pre l) ∧ bif ilt 100 (↑len : Int) then K (SV.b true) else K (SV.b (bif false then true else ilt 8192 N))) := by kernel_rfl
def i21z (d : Option Addr) (c : Nat) : List (Nat × SV) := [(0, .v (.slice d 0 c)), (3, .i 0), (4, .i 0)]
def o21z (d : Option Addr) (c : Nat) : List (Nat × SV) := [(0, .v (.slice d 0 c)), (3, .i 0)]
def L21z (d : Option Addr) (c : Nat) : LT := noL.add 0 (vLoop G 30 (i21z d c) G (o21z d c) G)
theorem r21z (d : Option Addr) (c : Nat) (a : Prop) : (frK 30 (i21z d c) fun fr => vround Try.prog E0 noL 7 0 fr G (Kn G 0 30 a (i21z d c) G (o21z d c) G)) = (0 = 0 ∧ SV.v (Value.slice d 0 c) = SV.v (Value.slice d 0 c) ∧ SV.i 0 = SV.i 0 ∧ True) := by kernel_rfl
theorem v21z (d : Option Addr) (c : Nat) (K : SV → Prop) : (vf Try.prog E0 (L21z d c) 7 [.v (.slice d 0 c)] G (fun r _ => K r)) = (loopOf Try.prog 7 0 = loopOf Try.prog 7 0 ∧ SV.v (Value.slice d 0 c) = SV.v (Value.slice d 0 c) ∧ SV.i 0 = SV.i 0 ∧ SV.i 0 = SV.i 0 ∧ K (SV.b (bif false then true else ilt 8192 0))) := by kernel_rfl
theorem rok_s {i m : Nat} (pre : List Value) (h : i < m) : rok pre.length i 5 SF pre m = true := by
  unfold rok
  rw [Nat.sub_self, show Nat.beq 5 SF.length = true from rfl, show Nat.blt 0 5 = true from rfl, show Nat.ble pre.length pre.length = true from by rw [Nat.ble_eq]; exact Nat.le_refl _]
  show Nat.blt (i + 0) m = true
  rw [Nat.blt_eq]; exact h
def okS (l : List Sr) : Bool := l.all fun r => Nat.ble r.2.1.length 140737488355328
theorem okS_at {l : List Sr} (h : okS l = true) (i : Nat) : (l.getD i (rz SF)).2.1.length ≤ 140737488355328 := by
  rcases Nat.lt_or_ge i l.length with q | q
  · rw [List.getD_eq_getElem?_getD, List.getElem?_eq_getElem q]
    have := List.all_eq_true.1 h _ (List.getElem_mem q)
    simp only [Nat.ble_eq] at this
    exact this
  · rw [List.getD_eq_getElem?_getD, List.getElem?_eq_none q]
    exact Nat.zero_le _
theorem hvN_le {l : List Sr} (h : okS l = true) : ∀ i, hvN l i ≤ i * 140737488355328
  | 0 => Nat.le_refl _
  | i + 1 => by
    have h1 := hvN_le h i
    have h2 := okS_at h i
    unfold hvN stW
    omega
theorem loop21 (pre : List Value) (l : List Sr) (len cap : Nat) (hl : len ≤ l.length) (hb : len ≤ 140737488355328) (ho : okS l = true) : LOk Try.prog G (mH pre l) 7 (L21 pre l len cap ((hvN l (min len 300) : Nat) : Int)) := by
  refine LT.add_ok (noL_ok _ _ _ _) (loop_next e0_ok mixed (noL_ok _ _ _ _) (by show 0 ≤ 1; decide) (by kernel_rfl) (fun i => i21 pre len cap ((hvN l i : Nat) : Int) i) (fun _ => mH pre l) (fun i => i ≤ len ∧ i ≤ 300) (fun i => len - i) (fun i => i + 1) 0 ⟨Nat.zero_le _, Nat.zero_le _⟩ (fun i hp => of_eq (r21 pre l len cap i _ _ _ _) ?_))
  obtain ⟨hp1, hp2⟩ := hp
  have hle := hvN_le ho i
  have h2 := okS_at ho i
  rw [show i + (pre.length - pre.length) / 5 = i by omega]
  cases hc : ilt (i : Int) (len : Int)
  · have := of_nilt hc
    exact ⟨rfl, rfl, congrArg (fun n => SV.i ((hvN l n : Nat) : Int)) (by omega), ⟨rfl, rfl⟩, trivial⟩
  · have hi := of_ilt hc
    show bif ilt (i : Int) 300 then _ else _
    cases hd : ilt (i : Int) 300
    · have : ¬ (i : Int) < 300 := by rw [ilt_eq] at hd; exact of_decide_eq_false hd
      exact ⟨rfl, rfl, congrArg (fun n => SV.i ((hvN l n : Nat) : Int)) (by omega), ⟨rfl, rfl⟩, trivial⟩
    · have h5 : (i : Int) < 300 := by rw [ilt_eq] at hd; exact of_decide_eq_true hd
      have hr := rok_s pre (show i < l.length by omega)
      have hn : inR (i : Int) len = true := inR_iff.2 ⟨by omega, by omega⟩
      refine bif_of hn (bif_of hr (bif_of (inI_iff.2 (by omega)) (bif_of (inI_iff.2 (by omega)) ⟨⟨⟨by omega, by omega⟩, by omega⟩, rfl, congrArg SV.i ?_, rfl, ⟨rfl, rfl⟩, trivial⟩)))
      show _ = ((hvN l i + stW (l.getD i (rz SF)) : Nat) : Int)
      unfold stW
      omega
theorem loop21z (d : Option Addr) (c : Nat) : LOk Try.prog G G 7 (L21z d c) :=
  LT.add_ok (noL_ok _ _ _ _) (loop_next e0_ok mixed (noL_ok _ _ _ _) (Nat.le_refl _) (by kernel_rfl) (fun _ : Nat => i21z d c) (fun _ => G) (fun _ => True) (fun _ => 0) (fun i => i) 0 trivial (fun i hp => of_eq (r21z d c _) ⟨rfl, rfl, rfl, trivial⟩))
def hvB (l : List Sr) (len : Nat) : Bool := bif ilt 100 (len : Int) then true else ilt 8192 ((hvN l (min len 300) : Nat) : Int)
def unS : Cont → Option (List Value × List Sr)
  | .recs none [.u32, .s, .b, .b, .i] pre l => some (pre, l)
  | _ => none
theorem unS_ok {c : Cont} {pre : List Value} {l : List Sr} (h : unS c = some (pre, l)) : c = .recs none SF pre l := by
  unfold unS at h
  split at h
  · cases h; rfl
  · cases h
theorem tgt_rs {M : Mm} {k base eo sz len cap : Nat} {c : Cont} (h : tgt M (.rs k base eo sz len cap) = c) (hh : c.here = true) : ∃ r, M[k]? = some ⟨r, c⟩ := by
  unfold tgt at h
  dsimp only at h
  cases hk : M[k]? with
  | none => rw [hk] at h; subst h; cases hh
  | some e => rw [hk] at h; exact ⟨e.rw, by rw [← h]⟩
def cHv : List SV → List Cont → Option (Bool × SV)
  | [.rs _ base eo sz len _], [c] => match unS c with
    | some (pre, l) => some (Nat.beq base pre.length && (Nat.beq eo 0 && (Nat.beq sz 5 && (Nat.ble len l.length && (Nat.ble len 140737488355328 && okS l)))), .b (hvB l len))
    | none => none
  | [.v (.slice _ 0 _)], _ => some (true, .b false)
  | _, _ => none
theorem hv_ok : POk Try.prog G 7 cHv := by
  intro args acs r hh β M w hR hw ha
  unfold cHv at hh
  split at hh
  · rename_i k base eo sz len cap c
    split at hh
    · rename_i pre l hu
      simp only [Option.some.injEq, Prod.mk.injEq, Bool.and_eq_true, Nat.ble_eq] at hh
      obtain ⟨⟨h0, h1, h2, h3, h4, h5⟩, rfl⟩ := hh
      obtain rfl := Nat.eq_of_beq_eq_true h0
      obtain rfl := Nat.eq_of_beq_eq_true h1
      obtain rfl := Nat.eq_of_beq_eq_true h2
      simp only [List.map_cons, List.map_nil, List.cons.injEq, and_true] at ha
      have hc := unS_ok hu
      rw [ha] at hc
      exact pure1 (G := G) (c := .recs none SF pre l) (args0 := [.rs 0 pre.length 0 5 len cap]) (vf_ok e0_ok mixed (loop21 pre l len cap h3 h4 h5) (of_eq (v21 pre l len cap _ _) ⟨rfl, rfl, rfl, rfl, ⟨rfl, rfl⟩, by
        unfold hvB
        cases ilt 100 (len : Int) <;> rfl⟩)) rfl rfl rfl rfl rfl (fun _ => rfl) hR (tgt_rs hc rfl)
    · cases hh
  · rename_i cs d c
    simp only [Option.some.injEq, Prod.mk.injEq, true_and] at hh
    subst hh
    exact pure0 (vf_ok e0_ok mixed (loop21z d c) (of_eq (v21z d c _) ⟨rfl, rfl, rfl, rfl, rfl⟩)) rfl rfl hR
  · cases hh
/-- What is not too much: how many steps, how many bytes. -/
theorem hv_no {l : List Sr} {len : Nat} (h : hvB l len = false) : len ≤ 100 ∧ ∀ i, i < len → stW (l.getD i (rz SF)) ≤ 8192 := by
  unfold hvB at h
  cases hc : ilt 100 (len : Int)
  · rw [hc] at h
    have h1 : ¬ (100 : Int) < (len : Int) := by rw [ilt_eq] at hc; exact of_decide_eq_false hc
    have h2 : ¬ (8192 : Int) < ((hvN l (min len 300) : Nat) : Int) := by
      replace h : ilt 8192 ((hvN l (min len 300) : Nat) : Int) = false := h
      rw [ilt_eq] at h; exact of_decide_eq_false h
    rw [Nat.min_eq_left (by omega)] at h2
    refine ⟨by omega, fun i hi => ?_⟩
    have key : ∀ n, i < n → stW (l.getD i (rz SF)) ≤ hvN l n := fun n => by
      induction n with
      | zero => intro h; omega
      | succ n ih =>
        intro h
        unfold hvN
        rcases Nat.lt_or_ge i n with q | q
        · have := ih q; omega
        · obtain rfl : i = n := by omega
          omega
    have := key len hi
    omega
  · rw [hc] at h; cases h
end Go.Proofs.Ytkjfecdpakhggaa
