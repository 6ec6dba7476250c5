/-
  link: scripts, and whether one is more than is played. No statement is proved here.
-/
import Derived.Test.YtedcileokcbohaaDoorLiO
import Derived.Test.YtedcileokcbohaaDoorCal
import Derived.Test.YtedcileokcbohaaDoorLiQ
namespace Go.Proofs.YtedcileokcbohaaDoor
open Go.RowKit
set_option linter.unusedVariables false
set_option linter.unusedSimpArgs false
set_option maxRecDepth 100000

/-- A step's cells. -/
abbrev SF : List Fk := [.i, .u16, .s, .u32, .s, .u32, .u32, .s, .u64]
abbrev Sr : Type := Rc SF
def scrE (pre : List Value) (l : List Sr) : Ent := ⟨false, .recs none SF pre l⟩
def mH (pre : List Value) (l : List Sr) : Mm := [e0, scrE pre l]
/-- How many bytes a step has. -/
def stW (r : Sr) : Nat := r.2.2.1.length + r.2.2.2.2.1.length + r.2.2.2.2.2.2.2.1.length
def hvN (l : List Sr) : Nat → Nat
  | 0 => 0
  | i + 1 => hvN l i + stW (l.getD i (rz SF))
def i21 (pre : List Value) (len cap : Nat) (n : Int) (i : Nat) : List (Nat × SV) := [(0, .rs 1 pre.length 0 9 len cap), (3, .i n), (4, .i (i : Nat))]
def o21 (pre : List Value) (len cap : Nat) (n : Int) : List (Nat × SV) := [(0, .rs 1 pre.length 0 9 len cap), (3, .i n)]
def L21 (pre : List Value) (l : List Sr) (len cap : Nat) (N : Int) : LT := noL.add 0 (vLoop (mH pre l) 46 (i21 pre len cap 0 0) (mH pre l) (o21 pre len cap N) (mH pre l))
theorem r21 (pre : List Value) (l : List Sr) (len cap i : Nat) (n n' N : Int) (a : Prop) : (frK 46 (i21 pre len cap n i) fun fr => vround Tryd.prog E0 noL 21 0 fr (mH pre l) (Kn (mH pre l) 0 46 a (i21 pre len cap n' (i + 1)) (mH pre l) (o21 pre len cap N) (mH pre l))) = (bif ilt (↑i : Int) (↑len : Int) then bif bif true then ilt (↑i : Int) 300 else false then bif inR (↑i : Int) len then bif rok pre.length i 9 SF pre l.length then bif inI (n + (↑(List.length (l.getD (i + (pre.length - pre.length) / 9) (rz SF)).snd.snd.fst) : Int)) then bif inR (↑i : Int) len then bif rok pre.length i 9 SF pre l.length then bif inI (n + (↑(List.length (l.getD (i + (pre.length - pre.length) / 9) (rz SF)).snd.snd.fst) : Int) + (↑(List.length (l.getD (i + (pre.length - pre.length) / 9) (rz SF)).snd.snd.snd.snd.fst) : Int)) then bif inR (↑i : Int) len then bif rok pre.length i 9 SF pre l.length then bif inI (n + (↑(List.length (l.getD (i + (pre.length - pre.length) / 9) (rz SF)).snd.snd.fst) : Int) + (↑(List.length (l.getD (i + (pre.length - pre.length) / 9) (rz SF)).snd.snd.snd.snd.fst) : Int) + (↑(List.length (l.getD (i + (pre.length - pre.length) / 9) (rz SF)).snd.snd.snd.snd.snd.snd.snd.fst) : Int)) then bif inI ((↑i : Int) + 1) then a ∧ SV.rs 1 pre.length 0 9 len cap = SV.rs 1 pre.length 0 9 len cap ∧ SV.i (n + (↑(List.length (l.getD (i + (pre.length - pre.length) / 9) (rz SF)).snd.snd.fst) : Int) + (↑(List.length (l.getD (i + (pre.length - pre.length) / 9) (rz SF)).snd.snd.snd.snd.fst) : Int) + (↑(List.length (l.getD (i + (pre.length - pre.length) / 9) (rz SF)).snd.snd.snd.snd.snd.snd.snd.fst) : Int)) = SV.i n' ∧ SV.i ((↑i : Int) + 1) = SV.i (↑(i + 1) : Int) ∧ (false = false ∧ Cont.a8 HD = Cont.a8 HD) ∧ (false = false ∧ Cont.recs none SF pre l = Cont.recs none SF pre l) ∧ True else False else False else False else False else False else False else False else False else False else False else 0 = 0 ∧ SV.rs 1 pre.length 0 9 len cap = SV.rs 1 pre.length 0 9 len cap ∧ SV.i n = SV.i N ∧ (false = false ∧ Cont.a8 HD = Cont.a8 HD) ∧ (false = false ∧ Cont.recs none SF pre l = Cont.recs none SF pre l) ∧ True else 0 = 0 ∧ SV.rs 1 pre.length 0 9 len cap = SV.rs 1 pre.length 0 9 len cap ∧ SV.i n = SV.i N ∧ (false = false ∧ Cont.a8 HD = Cont.a8 HD) ∧ (false = false ∧ Cont.recs none SF pre l = Cont.recs none SF pre l) ∧ True) := by kernel_rfl
theorem v21 (pre : List Value) (l : List Sr) (len cap : Nat) (N : Int) (K : SV → Prop) : (vf Tryd.prog E0 (L21 pre l len cap N) 21 [.rs 1 pre.length 0 9 len cap] (mH pre l) (fun r _ => K r)) = (loopOf Tryd.prog 21 0 = loopOf Tryd.prog 21 0 ∧ SV.rs 1 pre.length 0 9 len cap = SV.rs 1 pre.length 0 9 len cap ∧ SV.i 0 = SV.i 0 ∧ SV.i 0 = SV.i (↑0 : Int) ∧ (false = false ∧ Cont.a8 HD = Cont.a8 HD) ∧ (false = false ∧ Cont.recs none SF pre l = Cont.recs none SF pre l) ∧ bif ilt 200 (↑len : Int) then K (SV.b true) else K (SV.b (bif false then true else ilt 8192 N))) := by kernel_rfl
def i21z (d : Option Addr) (c : Nat) : List (Nat × SV) := [(0, .v (.slice d 0 c)), (3, .i 0), (4, .i 0)]
def o21z (d : Option Addr) (c : Nat) : List (Nat × SV) := [(0, .v (.slice d 0 c)), (3, .i 0)]
def L21z (d : Option Addr) (c : Nat) : LT := noL.add 0 (vLoop G 46 (i21z d c) G (o21z d c) G)
theorem r21z (d : Option Addr) (c : Nat) (a : Prop) : (frK 46 (i21z d c) fun fr => vround Tryd.prog E0 noL 21 0 fr G (Kn G 0 46 a (i21z d c) G (o21z d c) G)) = (0 = 0 ∧ SV.v (Value.slice d 0 c) = SV.v (Value.slice d 0 c) ∧ SV.i 0 = SV.i 0 ∧ (false = false ∧ Cont.a8 HD = Cont.a8 HD) ∧ True) := by kernel_rfl
theorem v21z (d : Option Addr) (c : Nat) (K : SV → Prop) : (vf Tryd.prog E0 (L21z d c) 21 [.v (.slice d 0 c)] G (fun r _ => K r)) = (loopOf Tryd.prog 21 0 = loopOf Tryd.prog 21 0 ∧ SV.v (Value.slice d 0 c) = SV.v (Value.slice d 0 c) ∧ SV.i 0 = SV.i 0 ∧ SV.i 0 = SV.i 0 ∧ (false = false ∧ Cont.a8 HD = Cont.a8 HD) ∧ K (SV.b (bif false then true else ilt 8192 0))) := by kernel_rfl
theorem rok_s {i m : Nat} (pre : List Value) (h : i < m) : rok pre.length i 9 SF pre m = true := by
  unfold rok
  rw [Nat.sub_self, show Nat.beq 9 SF.length = true from rfl, show Nat.blt 0 9 = true from rfl, show Nat.ble pre.length pre.length = true from by rw [Nat.ble_eq]; exact Nat.le_refl _]
  show Nat.blt (i + 0) m = true
  rw [Nat.blt_eq]; exact h
def okS (l : List Sr) : Bool := l.all fun r => Nat.ble r.2.2.1.length 140737488355328 && (Nat.ble r.2.2.2.2.1.length 140737488355328 && Nat.ble r.2.2.2.2.2.2.2.1.length 140737488355328)
theorem okS_at {l : List Sr} (h : okS l = true) (i : Nat) : (l.getD i (rz SF)).2.2.1.length ≤ 140737488355328 ∧ (l.getD i (rz SF)).2.2.2.2.1.length ≤ 140737488355328 ∧ (l.getD i (rz SF)).2.2.2.2.2.2.2.1.length ≤ 140737488355328 := by
  rcases Nat.lt_or_ge i l.length with q | q
  · rw [List.getD_eq_getElem?_getD, List.getElem?_eq_getElem q]
    have := List.all_eq_true.1 h _ (List.getElem_mem q)
    simp only [Bool.and_eq_true, Nat.ble_eq] at this
    exact this
  · rw [List.getD_eq_getElem?_getD, List.getElem?_eq_none q]
    exact ⟨Nat.zero_le _, Nat.zero_le _, Nat.zero_le _⟩
theorem hvN_le {l : List Sr} (h : okS l = true) : ∀ i, hvN l i ≤ i * 422212465065984
  | 0 => Nat.le_refl _
  | i + 1 => by
    have h1 := hvN_le h i
    obtain ⟨h2, h3, h4⟩ := okS_at h i
    unfold hvN stW
    omega
theorem loop21 (pre : List Value) (l : List Sr) (len cap : Nat) (hl : len ≤ l.length) (hb : len ≤ 140737488355328) (ho : okS l = true) : LOk Tryd.prog G (mH pre l) 21 (L21 pre l len cap ((hvN l (min len 300) : Nat) : Int)) := by
  refine LT.add_ok (noL_ok _ _ _ _) (loop_next e0_ok mixed (noL_ok _ _ _ _) (by show 1 ≤ 2; decide) (by kernel_rfl) (fun i => i21 pre len cap ((hvN l i : Nat) : Int) i) (fun _ => mH pre l) (fun i => i ≤ len ∧ i ≤ 300) (fun i => len - i) (fun i => i + 1) 0 ⟨Nat.zero_le _, Nat.zero_le _⟩ (fun i hp => of_eq (r21 pre l len cap i _ _ _ _) ?_))
  obtain ⟨hp1, hp2⟩ := hp
  have hle := hvN_le ho i
  obtain ⟨h2, h3, h4⟩ := okS_at ho i
  rw [show i + (pre.length - pre.length) / 9 = i by omega]
  cases hc : ilt (i : Int) (len : Int)
  · have := of_nilt hc
    exact ⟨rfl, rfl, congrArg (fun n => SV.i ((hvN l n : Nat) : Int)) (by omega), ⟨rfl, rfl⟩, ⟨rfl, rfl⟩, trivial⟩
  · have hi := of_ilt hc
    show bif ilt (i : Int) 300 then _ else _
    cases hd : ilt (i : Int) 300
    · have : ¬ (i : Int) < 300 := by rw [ilt_eq] at hd; exact of_decide_eq_false hd
      exact ⟨rfl, rfl, congrArg (fun n => SV.i ((hvN l n : Nat) : Int)) (by omega), ⟨rfl, rfl⟩, ⟨rfl, rfl⟩, trivial⟩
    · have h5 : (i : Int) < 300 := by rw [ilt_eq] at hd; exact of_decide_eq_true hd
      have hr := rok_s pre (show i < l.length by omega)
      have hn : inR (i : Int) len = true := inR_iff.2 ⟨by omega, by omega⟩
      refine bif_of hn (bif_of hr (bif_of (inI_iff.2 (by omega)) (bif_of hn (bif_of hr (bif_of (inI_iff.2 (by omega)) (bif_of hn (bif_of hr (bif_of (inI_iff.2 (by omega)) (bif_of (inI_iff.2 (by omega)) ⟨⟨⟨by omega, by omega⟩, by omega⟩, rfl, congrArg SV.i ?_, rfl, ⟨rfl, rfl⟩, ⟨rfl, rfl⟩, trivial⟩)))))))))
      show _ = ((hvN l i + stW (l.getD i (rz SF)) : Nat) : Int)
      unfold stW
      omega
theorem loop21z (d : Option Addr) (c : Nat) : LOk Tryd.prog G G 21 (L21z d c) :=
  LT.add_ok (noL_ok _ _ _ _) (loop_next e0_ok mixed (noL_ok _ _ _ _) (Nat.le_refl _) (by kernel_rfl) (fun _ : Nat => i21z d c) (fun _ => G) (fun _ => True) (fun _ => 0) (fun i => i) 0 trivial (fun i hp => of_eq (r21z d c _) ⟨rfl, rfl, rfl, ⟨rfl, rfl⟩, trivial⟩))
def hvB (l : List Sr) (len : Nat) : Bool := bif ilt 200 (len : Int) then true else ilt 8192 ((hvN l (min len 300) : Nat) : Int)
def unS : Cont → Option (List Value × List Sr)
  | .recs none [.i, .u16, .s, .u32, .s, .u32, .u32, .s, .u64] pre l => some (pre, l)
  | _ => none
theorem unS_ok {c : Cont} {pre : List Value} {l : List Sr} (h : unS c = some (pre, l)) : c = .recs none SF pre l := by
  unfold unS at h
  split at h
  · cases h; rfl
  · cases h
def cHv : List SV → List Cont → Option (Bool × SV)
  | [.rs _ base eo sz len _], [c] => match unS c with
    | some (pre, l) => some (Nat.beq base pre.length && (Nat.beq eo 0 && (Nat.beq sz 9 && (Nat.ble len l.length && (Nat.ble len 140737488355328 && okS l)))), .b (hvB l len))
    | none => none
  | [.v (.slice _ 0 _)], _ => some (true, .b false)
  | _, _ => none
theorem hv_ok : POk Tryd.prog G 21 cHv := by
  intro args acs r hh β M w hR hw ha
  unfold cHv at hh
  split at hh
  · rename_i k base eo sz len cap c
    split at hh
    · rename_i pre l hu
      simp only [Option.some.injEq, Prod.mk.injEq, Bool.and_eq_true, Nat.ble_eq] at hh
      obtain ⟨⟨h0, h1, h2, h3, h4, h5⟩, rfl⟩ := hh
      obtain rfl := Nat.eq_of_beq_eq_true h0
      obtain rfl := Nat.eq_of_beq_eq_true h1
      obtain rfl := Nat.eq_of_beq_eq_true h2
      simp only [List.map_cons, List.map_nil, List.cons.injEq, and_true] at ha
      have hc := unS_ok hu
      rw [ha] at hc
      exact pure1 (c := .recs none SF pre l) (args0 := [.rs 1 pre.length 0 9 len cap]) (vf_ok e0_ok mixed (loop21 pre l len cap h3 h4 h5) (of_eq (v21 pre l len cap _ _) ⟨rfl, rfl, rfl, rfl, ⟨rfl, rfl⟩, ⟨rfl, rfl⟩, by
        unfold hvB
        cases ilt 200 (len : Int) <;> rfl⟩)) rfl rfl rfl rfl rfl (fun _ => rfl) hR (tgt_rs hc rfl)
    · cases hh
  · rename_i cs d c
    simp only [Option.some.injEq, Prod.mk.injEq, true_and] at hh
    subst hh
    exact pokE rfl e0_ok (loop21z d c) (v21z d c _) ⟨rfl, rfl, rfl, rfl, ⟨rfl, rfl⟩, rfl⟩ rfl rfl hR
  · cases hh
/-- What is not too much: how many steps, how many bytes. -/
theorem hv_no {l : List Sr} {len : Nat} (h : hvB l len = false) : len ≤ 200 ∧ ∀ i, i < len → stW (l.getD i (rz SF)) ≤ 8192 := by
  unfold hvB at h
  cases hc : ilt 200 (len : Int)
  · rw [hc] at h
    have h1 : ¬ (200 : Int) < (len : Int) := by rw [ilt_eq] at hc; exact of_decide_eq_false hc
    have h2 : ¬ (8192 : Int) < ((hvN l (min len 300) : Nat) : Int) := by
      replace h : ilt 8192 ((hvN l (min len 300) : Nat) : Int) = false := h
      rw [ilt_eq] at h; exact of_decide_eq_false h
    rw [Nat.min_eq_left (by omega)] at h2
    refine ⟨by omega, fun i hi => ?_⟩
    have key : ∀ n, i < n → stW (l.getD i (rz SF)) ≤ hvN l n := fun n => by
      induction n with
      | zero => intro h; omega
      | succ n ih =>
        intro h
        unfold hvN
        rcases Nat.lt_or_ge i n with q | q
        · have := ih q; omega
        · obtain rfl : i = n := by omega
          omega
    have := key len hi
    omega
  · rw [hc] at h; cases h
end Go.Proofs.YtedcileokcbohaaDoor
namespace Go.Proofs.YtedcileokcbohaaDoor
open Go.RowKit
set_option linter.unusedVariables false
set_option linter.unusedSimpArgs false
set_option maxRecDepth 100000

def i49 (a : BitVec 32) (i : Nat) : List (Nat × SV) := [(0, .ptr 1 0), (1, .w32 a), (5, .i (i : Nat))]
def o49 (a : BitVec 32) : List (Nat × SV) := [(0, .ptr 1 0), (1, .w32 a)]
def ro49 (r : Int) : List (Nat × SV) := [(4, .i r)]
def L49 (mac : Tx) (own : BitVec 32) (q : Int) (f : BitVec 64) (s : TS) (a : BitVec 32) (r : Int) (qq zz : Prop) : LT := noL.add 0 (vLoopR (M0T (pT mac own q f) s) 26 (i49 a 0) (M0T (pT mac own q f) s) qq (o49 a) (M0T (pT mac own q f) s) zz (ro49 r) (M0T (pT mac own q f) s))
theorem r49 (mac : Tx) (own : BitVec 32) (q : Int) (f : BitVec 64) (b : Bool) (len cap : Nat) (l : List Nr) (a : BitVec 32) (i : Nat) (r : Int) (aa qq zz : Prop) : (frK 26 (i49 a i) fun fr => vround Tryd.prog E0 noL 49 0 fr (M0T (pT mac own q f) ⟨b, len, cap, l⟩) (Kt (M0T (pT mac own q f) ⟨b, len, cap, l⟩) 0 26 aa (i49 a (i + 1)) (M0T (pT mac own q f) ⟨b, len, cap, l⟩) qq (o49 a) (M0T (pT mac own q f) ⟨b, len, cap, l⟩) zz (ro49 r) (M0T (pT mac own q f) ⟨b, len, cap, l⟩))) = (bif !b || len.beq 0 then bif ilt (↑i : Int) (↑len : Int) then bif !b && inR (↑i : Int) len then bif !b && rok 0 i 3 NF [] l.length then bif (l.getD i (rz NF)).fst == a then zz ∧ SV.i (↑i : Int) = SV.i r ∧ (false = false ∧ Cont.a8 HD = Cont.a8 HD) ∧ (true = true ∧ Cont.row (pT mac own q f ++ [SV.ns b 2 3 len cap]) = Cont.row (pT mac own q f ++ [SV.ns b 2 3 len cap])) ∧ (true = true ∧ Cont.nrec b 57 NF l = Cont.nrec b 57 NF l) ∧ True else bif inI ((↑i : Int) + 1) then aa ∧ SV.ptr 1 0 = SV.ptr 1 0 ∧ SV.w32 a = SV.w32 a ∧ SV.i ((↑i : Int) + 1) = SV.i (↑(i + 1) : Int) ∧ (false = false ∧ Cont.a8 HD = Cont.a8 HD) ∧ (true = true ∧ Cont.row (pT mac own q f ++ [SV.ns b 2 3 len cap]) = Cont.row (pT mac own q f ++ [SV.ns b 2 3 len cap])) ∧ (true = true ∧ Cont.nrec b 57 NF l = Cont.nrec b 57 NF l) ∧ True else False else False else False else 0 = 0 ∧ qq ∧ SV.ptr 1 0 = SV.ptr 1 0 ∧ SV.w32 a = SV.w32 a ∧ (false = false ∧ Cont.a8 HD = Cont.a8 HD) ∧ (true = true ∧ Cont.row (pT mac own q f ++ [SV.ns b 2 3 len cap]) = Cont.row (pT mac own q f ++ [SV.ns b 2 3 len cap])) ∧ (true = true ∧ Cont.nrec b 57 NF l = Cont.nrec b 57 NF l) ∧ True else False) := by kernel_rfl
theorem v49 (mac : Tx) (own : BitVec 32) (q : Int) (f : BitVec 64) (s : TS) (a : BitVec 32) (r : Int) (qq zz : Prop) (K : SV → Mm → Prop) : (vf Tryd.prog E0 (L49 mac own q f s a r qq zz) 49 [.ptr 1 0, .w32 a] (M0T (pT mac own q f) s) K) = (loopOf Tryd.prog 49 0 = loopOf Tryd.prog 49 0 ∧ SV.ptr 1 0 = SV.ptr 1 0 ∧ SV.w32 a = SV.w32 a ∧ SV.i 0 = SV.i (↑0 : Int) ∧ (false = false ∧ Cont.a8 HD = Cont.a8 HD) ∧ (true = true ∧ Cont.row (pT mac own q f ++ [SV.ns s.b 2 3 s.len s.cap]) = Cont.row (pT mac own q f ++ [SV.ns s.b 2 3 s.len s.cap])) ∧ (true = true ∧ Cont.nrec s.b 57 NF s.l = Cont.nrec s.b 57 NF s.l) ∧ (qq → K (SV.i (-1)) (M0T (pT mac own q f) s)) ∧ (zz → K (SV.i r) (M0T (pT mac own q f) s))) := by kernel_rfl
end Go.Proofs.YtedcileokcbohaaDoor
namespace Go.Proofs.YtedcileokcbohaaDoor
open Go.RowKit
set_option linter.unusedVariables false
set_option linter.unusedSimpArgs false
set_option maxRecDepth 100000

def sdE (sl : List Nr) : Ent := ⟨true, .recs (some 57) NF [] sl⟩
def unD : Cont → Option (List Nr)
  | .recs _ [.u32, .s, .u64] [] l => some l
  | _ => none
/-- A row that grows: none yet, or so many of a block. -/
def rdO (t : Nat) (fr : List SV) (M : Mm) : Option (Option (Nat × Nat × Nat × List Nr)) := match (fr[t]? : Option SV) with
  | some (SV.v (.slice none 0 0)) => some none
  | some (SV.rs k _ _ _ sn sc) => match (M[k]? : Option Ent) with
    | some ⟨_, c⟩ => match unD c with
      | some l => some (some (k, sn, sc, l))
      | none => none
    | none => none
  | _ => none
structure S48 where
  i : Nat
  o : Option (Nat × Nat × List Nr)
def i48 (n : BitVec 64) (st : S48) : List (Nat × SV) := match st.o with
  | none => [(0, .ptr 1 0), (1, .w64 n), (4, .v (.slice none 0 0)), (5, .i (st.i : Nat))]
  | some (sn, sc, _) => [(0, .ptr 1 0), (1, .w64 n), (4, .rs 3 0 0 3 sn sc), (5, .i (st.i : Nat))]
def o48 (st : S48) : List (Nat × SV) := match st.o with
  | none => [(0, .ptr 1 0), (4, .v (.slice none 0 0))]
  | some (sn, sc, _) => [(0, .ptr 1 0), (4, .rs 3 0 0 3 sn sc)]
def m48 (p : List SV) (s : TS) (st : S48) : Mm := match st.o with
  | none => [e0, rowT p s 2, recT' s]
  | some (_, _, sl) => [e0, rowT p s 2, recT' s, sdE sl]
def sel48 (i : Nat) (fr : List SV) (M : Mm) : Option (S48 × List Nat) := match rdO 4 fr M with
  | some none => some (⟨i + 1, none⟩, [])
  | some (some (k, sn, sc, l)) => some (⟨i + 1, some (sn, sc, l)⟩, [k])
  | none => none
theorem r48A (mac : Tx) (own : BitVec 32) (q : Int) (f n : BitVec 64) (b : Bool) (len cap : Nat) (l : List Nr) (i : Nat) (a : S48 → Prop) (z : Prop) : (frK 39 (i48 n ⟨i, none⟩) fun fr => vround Tryd.prog E0 noL 48 0 fr (m48 (pT mac own q f) ⟨b, len, cap, l⟩ ⟨i, none⟩) (Kp (M0T (pT mac own q f) ⟨b, len, cap, l⟩) 0 39 (sel48 i) a (i48 n) (m48 (pT mac own q f) ⟨b, len, cap, l⟩) z (o48 ⟨i, none⟩) (m48 (pT mac own q f) ⟨b, len, cap, l⟩ ⟨i, none⟩))) = (bif !b || len.beq 0 then bif ilt (↑i : Int) (↑len : Int) then bif !b && inR (↑i : Int) len then bif !b && rok 0 i 3 NF [] l.length then bif n.ult (l.getD i (rz NF)).snd.snd.fst then bif !b && inR (↑i : Int) len then bif !b && (rok 0 i 3 NF [] l.length && true) then ∀ (cap' : Nat) (rest : List (Rc [Fk.u32, Fk.s, Fk.u64])), (List.take 1 (List.drop 0 [((l.getD i (rz NF)).fst, (l.getD i (rz NF)).snd.fst, (l.getD i (rz NF)).snd.snd.fst, ())])).length + rest.length = cap' → bif inI ((↑i : Int) + 1) then a { i := i + 1, o := some ((List.take 1 (List.drop 0 [((l.getD i (rz NF)).fst, (l.getD i (rz NF)).snd.fst, (l.getD i (rz NF)).snd.snd.fst, ())])).length, cap', List.take 1 (List.drop 0 [((l.getD i (rz NF)).fst, (l.getD i (rz NF)).snd.fst, (l.getD i (rz NF)).snd.snd.fst, ())]) ++ rest) } ∧ SV.ptr 1 0 = ren (sig (List.length (M0T (pT mac own q f) { b := b, len := len, cap := cap, l := l })) [0 + 1 + 1 + 1 + 1]) (SV.ptr 1 0) ∧ SV.w64 n = ren (sig (List.length (M0T (pT mac own q f) { b := b, len := len, cap := cap, l := l })) [0 + 1 + 1 + 1 + 1]) (SV.w64 n) ∧ SV.rs (0 + 1 + 1 + 1 + 1) 0 0 3 (List.take 1 (List.drop 0 [((l.getD i (rz NF)).fst, (l.getD i (rz NF)).snd.fst, (l.getD i (rz NF)).snd.snd.fst, ())])).length cap' = ren (sig (List.length (M0T (pT mac own q f) { b := b, len := len, cap := cap, l := l })) [0 + 1 + 1 + 1 + 1]) (SV.rs 3 0 0 3 (List.take 1 (List.drop 0 [((l.getD i (rz NF)).fst, (l.getD i (rz NF)).snd.fst, (l.getD i (rz NF)).snd.snd.fst, ())])).length cap') ∧ SV.i ((↑i : Int) + 1) = ren (sig (List.length (M0T (pT mac own q f) { b := b, len := len, cap := cap, l := l })) [0 + 1 + 1 + 1 + 1]) (SV.i (↑(i + 1) : Int)) ∧ (false = false ∧ Cont.a8 HD = Cont.ren (sig (List.length (M0T (pT mac own q f) { b := b, len := len, cap := cap, l := l })) [0 + 1 + 1 + 1 + 1]) (Cont.a8 HD)) ∧ (true = true ∧ Cont.row (pT mac own q f ++ [SV.ns b 2 3 len cap]) = Cont.ren (sig (List.length (M0T (pT mac own q f) { b := b, len := len, cap := cap, l := l })) [0 + 1 + 1 + 1 + 1]) (Cont.row (pT mac own q f ++ [SV.ns b 2 3 len cap]))) ∧ (true = true ∧ Cont.nrec b 57 NF l = Cont.ren (sig (List.length (M0T (pT mac own q f) { b := b, len := len, cap := cap, l := l })) [0 + 1 + 1 + 1 + 1]) (Cont.nrec b 57 NF l)) ∧ (true = true ∧ Cont.recs (some 57) [Fk.u32, Fk.s, Fk.u64] [] (List.take 1 (List.drop 0 [((l.getD i (rz NF)).fst, (l.getD i (rz NF)).snd.fst, (l.getD i (rz NF)).snd.snd.fst, ())]) ++ rest) = Cont.ren (sig (List.length (M0T (pT mac own q f) { b := b, len := len, cap := cap, l := l })) [0 + 1 + 1 + 1 + 1]) (Cont.recs (some 57) NF [] (List.take 1 (List.drop 0 [((l.getD i (rz NF)).fst, (l.getD i (rz NF)).snd.fst, (l.getD i (rz NF)).snd.snd.fst, ())]) ++ rest))) ∧ True else False else False else False else bif inI ((↑i : Int) + 1) then a { i := i + 1, o := none } ∧ SV.ptr 1 0 = ren (sig (List.length (M0T (pT mac own q f) { b := b, len := len, cap := cap, l := l })) []) (SV.ptr 1 0) ∧ SV.w64 n = ren (sig (List.length (M0T (pT mac own q f) { b := b, len := len, cap := cap, l := l })) []) (SV.w64 n) ∧ SV.v (Value.slice none 0 0) = ren (sig (List.length (M0T (pT mac own q f) { b := b, len := len, cap := cap, l := l })) []) (SV.v (Value.slice none 0 0)) ∧ SV.i ((↑i : Int) + 1) = ren (sig (List.length (M0T (pT mac own q f) { b := b, len := len, cap := cap, l := l })) []) (SV.i (↑(i + 1) : Int)) ∧ (false = false ∧ Cont.a8 HD = Cont.ren (sig (List.length (M0T (pT mac own q f) { b := b, len := len, cap := cap, l := l })) []) (Cont.a8 HD)) ∧ (true = true ∧ Cont.row (pT mac own q f ++ [SV.ns b 2 3 len cap]) = Cont.ren (sig (List.length (M0T (pT mac own q f) { b := b, len := len, cap := cap, l := l })) []) (Cont.row (pT mac own q f ++ [SV.ns b 2 3 len cap]))) ∧ (true = true ∧ Cont.nrec b 57 NF l = Cont.ren (sig (List.length (M0T (pT mac own q f) { b := b, len := len, cap := cap, l := l })) []) (Cont.nrec b 57 NF l)) ∧ True else False else False else False else 0 = 0 ∧ z ∧ SV.ptr 1 0 = SV.ptr 1 0 ∧ SV.v (Value.slice none 0 0) = SV.v (Value.slice none 0 0) ∧ (false = false ∧ Cont.a8 HD = Cont.a8 HD) ∧ (true = true ∧ Cont.row (pT mac own q f ++ [SV.ns b 2 3 len cap]) = Cont.row (pT mac own q f ++ [SV.ns b 2 3 len cap])) ∧ (true = true ∧ Cont.nrec b 57 NF l = Cont.nrec b 57 NF l) ∧ True else False) := by kernel_rfl
theorem r48S (mac : Tx) (own : BitVec 32) (q : Int) (f n : BitVec 64) (b : Bool) (len cap : Nat) (l : List Nr) (i sn sc : Nat) (sl : List Nr) (a : S48 → Prop) (z : Prop) : (frK 39 (i48 n ⟨i, some (sn, sc, sl)⟩) fun fr => vround Tryd.prog E0 noL 48 0 fr (m48 (pT mac own q f) ⟨b, len, cap, l⟩ ⟨i, some (sn, sc, sl)⟩) (Kp (M0T (pT mac own q f) ⟨b, len, cap, l⟩) 0 39 (sel48 i) a (i48 n) (m48 (pT mac own q f) ⟨b, len, cap, l⟩) z (o48 ⟨i, some (sn, sc, sl)⟩) (m48 (pT mac own q f) ⟨b, len, cap, l⟩ ⟨i, some (sn, sc, sl)⟩))) = (bif !b || len.beq 0 then bif ilt (↑i : Int) (↑len : Int) then bif !b && inR (↑i : Int) len then bif !b && rok 0 i 3 NF [] l.length then bif n.ult (l.getD i (rz NF)).snd.snd.fst then bif !b && inR (↑i : Int) len then bif !b && (rok 0 i 3 NF [] l.length && true) then bif sn.ble sc && (sl.length.beq sc && ((sn + (List.take 1 (List.drop 0 [((l.getD i (rz NF)).fst, (l.getD i (rz NF)).snd.fst, (l.getD i (rz NF)).snd.snd.fst, ())])).length).ble 33554432 && true)) then ∀ (cap' : Nat) (rest : List (Rc [Fk.u32, Fk.s, Fk.u64])), sn + (List.take 1 (List.drop 0 [((l.getD i (rz NF)).fst, (l.getD i (rz NF)).snd.fst, (l.getD i (rz NF)).snd.snd.fst, ())])).length + rest.length = cap' → bif inI ((↑i : Int) + 1) then a { i := i + 1, o := some (sn + (List.take 1 (List.drop 0 [((l.getD i (rz NF)).fst, (l.getD i (rz NF)).snd.fst, (l.getD i (rz NF)).snd.snd.fst, ())])).length, cap', List.take sn sl ++ List.take 1 (List.drop 0 [((l.getD i (rz NF)).fst, (l.getD i (rz NF)).snd.fst, (l.getD i (rz NF)).snd.snd.fst, ())]) ++ rest) } ∧ SV.ptr 1 0 = ren (sig (List.length (M0T (pT mac own q f) { b := b, len := len, cap := cap, l := l })) [0 + 1 + 1 + 1 + 1 + 1]) (SV.ptr 1 0) ∧ SV.w64 n = ren (sig (List.length (M0T (pT mac own q f) { b := b, len := len, cap := cap, l := l })) [0 + 1 + 1 + 1 + 1 + 1]) (SV.w64 n) ∧ SV.rs (0 + 1 + 1 + 1 + 1 + 1) 0 0 3 (sn + (List.take 1 (List.drop 0 [((l.getD i (rz NF)).fst, (l.getD i (rz NF)).snd.fst, (l.getD i (rz NF)).snd.snd.fst, ())])).length) cap' = ren (sig (List.length (M0T (pT mac own q f) { b := b, len := len, cap := cap, l := l })) [0 + 1 + 1 + 1 + 1 + 1]) (SV.rs 3 0 0 3 (sn + (List.take 1 (List.drop 0 [((l.getD i (rz NF)).fst, (l.getD i (rz NF)).snd.fst, (l.getD i (rz NF)).snd.snd.fst, ())])).length) cap') ∧ SV.i ((↑i : Int) + 1) = ren (sig (List.length (M0T (pT mac own q f) { b := b, len := len, cap := cap, l := l })) [0 + 1 + 1 + 1 + 1 + 1]) (SV.i (↑(i + 1) : Int)) ∧ (false = false ∧ Cont.a8 HD = Cont.ren (sig (List.length (M0T (pT mac own q f) { b := b, len := len, cap := cap, l := l })) [0 + 1 + 1 + 1 + 1 + 1]) (Cont.a8 HD)) ∧ (true = true ∧ Cont.row (pT mac own q f ++ [SV.ns b 2 3 len cap]) = Cont.ren (sig (List.length (M0T (pT mac own q f) { b := b, len := len, cap := cap, l := l })) [0 + 1 + 1 + 1 + 1 + 1]) (Cont.row (pT mac own q f ++ [SV.ns b 2 3 len cap]))) ∧ (true = true ∧ Cont.nrec b 57 NF l = Cont.ren (sig (List.length (M0T (pT mac own q f) { b := b, len := len, cap := cap, l := l })) [0 + 1 + 1 + 1 + 1 + 1]) (Cont.nrec b 57 NF l)) ∧ (true = true ∧ Cont.recs (some 57) [Fk.u32, Fk.s, Fk.u64] [] (List.take sn sl ++ List.take 1 (List.drop 0 [((l.getD i (rz NF)).fst, (l.getD i (rz NF)).snd.fst, (l.getD i (rz NF)).snd.snd.fst, ())]) ++ rest) = Cont.ren (sig (List.length (M0T (pT mac own q f) { b := b, len := len, cap := cap, l := l })) [0 + 1 + 1 + 1 + 1 + 1]) (Cont.recs (some 57) NF [] (List.take sn sl ++ List.take 1 (List.drop 0 [((l.getD i (rz NF)).fst, (l.getD i (rz NF)).snd.fst, (l.getD i (rz NF)).snd.snd.fst, ())]) ++ rest))) ∧ True else False else False else False else False else bif inI ((↑i : Int) + 1) then a { i := i + 1, o := some (sn, sc, sl) } ∧ SV.ptr 1 0 = ren (sig (List.length (M0T (pT mac own q f) { b := b, len := len, cap := cap, l := l })) [3]) (SV.ptr 1 0) ∧ SV.w64 n = ren (sig (List.length (M0T (pT mac own q f) { b := b, len := len, cap := cap, l := l })) [3]) (SV.w64 n) ∧ SV.rs 3 0 0 3 sn sc = ren (sig (List.length (M0T (pT mac own q f) { b := b, len := len, cap := cap, l := l })) [3]) (SV.rs 3 0 0 3 sn sc) ∧ SV.i ((↑i : Int) + 1) = ren (sig (List.length (M0T (pT mac own q f) { b := b, len := len, cap := cap, l := l })) [3]) (SV.i (↑(i + 1) : Int)) ∧ (false = false ∧ Cont.a8 HD = Cont.ren (sig (List.length (M0T (pT mac own q f) { b := b, len := len, cap := cap, l := l })) [3]) (Cont.a8 HD)) ∧ (true = true ∧ Cont.row (pT mac own q f ++ [SV.ns b 2 3 len cap]) = Cont.ren (sig (List.length (M0T (pT mac own q f) { b := b, len := len, cap := cap, l := l })) [3]) (Cont.row (pT mac own q f ++ [SV.ns b 2 3 len cap]))) ∧ (true = true ∧ Cont.nrec b 57 NF l = Cont.ren (sig (List.length (M0T (pT mac own q f) { b := b, len := len, cap := cap, l := l })) [3]) (Cont.nrec b 57 NF l)) ∧ (true = true ∧ Cont.recs (some 57) NF [] sl = Cont.ren (sig (List.length (M0T (pT mac own q f) { b := b, len := len, cap := cap, l := l })) [3]) (Cont.recs (some 57) NF [] sl)) ∧ True else False else False else False else 0 = 0 ∧ z ∧ SV.ptr 1 0 = SV.ptr 1 0 ∧ SV.rs 3 0 0 3 sn sc = SV.rs 3 0 0 3 sn sc ∧ (false = false ∧ Cont.a8 HD = Cont.a8 HD) ∧ (true = true ∧ Cont.row (pT mac own q f ++ [SV.ns b 2 3 len cap]) = Cont.row (pT mac own q f ++ [SV.ns b 2 3 len cap])) ∧ (true = true ∧ Cont.nrec b 57 NF l = Cont.nrec b 57 NF l) ∧ (true = true ∧ Cont.recs (some 57) NF [] sl = Cont.recs (some 57) NF [] sl) ∧ True else False) := by kernel_rfl
def v48L (p : List SV) (n : BitVec 64) (s : TS) (QA : Prop) (QS : Nat → Nat → List Nr → Prop) (fr : List SV) (M : Mm) (K : Ko) : Prop := vLe (M0T p s) fr M 39 [(0, .ptr 1 0), (1, .w64 n), (4, .v (.slice none 0 0)), (5, .i (0 : Nat))] [e0, rowT p s 2, recT' s] ((QA → frK 39 [(0, .ptr 1 0), (4, .v (.slice none 0 0))] fun fr1 => K .normal fr1 [e0, rowT p s 2, recT' s]) ∧ ∀ (sn sc : Nat) (sl : List Nr), QS sn sc sl → frK 39 [(0, .ptr 1 0), (4, .rs 3 0 0 3 sn sc)] fun fr1 => K .normal fr1 [e0, rowT p s 2, recT' s, sdE sl])
def L48 (p : List SV) (n : BitVec 64) (s : TS) (QA : Prop) (QS : Nat → Nat → List Nr → Prop) : LT := noL.add 0 (v48L p n s QA QS)
theorem v48 (mac : Tx) (own : BitVec 32) (q : Int) (f n : BitVec 64) (b : Bool) (len cap : Nat) (l : List Nr) (QA : Prop) (QS : Nat → Nat → List Nr → Prop) (K : SV → Mm → Prop) : (vf Tryd.prog E0 (L48 (pT mac own q f) n ⟨b, len, cap, l⟩ QA QS) 48 [.ptr 1 0, .w64 n] (M0T (pT mac own q f) ⟨b, len, cap, l⟩) K) = (loopOf Tryd.prog 48 0 = loopOf Tryd.prog 48 0 ∧ SV.ptr 1 0 = SV.ptr 1 0 ∧ SV.w64 n = SV.w64 n ∧ SV.v (Value.slice none 0 0) = SV.v (Value.slice none 0 0) ∧ SV.i 0 = SV.i (↑0 : Int) ∧ (false = false ∧ Cont.a8 HD = Cont.a8 HD) ∧ (true = true ∧ Cont.row (pT mac own q f ++ [SV.ns b 2 3 len cap]) = Cont.row (pT mac own q f ++ [SV.ns b 2 3 len cap])) ∧ (true = true ∧ Cont.nrec b 57 NF l = Cont.nrec b 57 NF l) ∧ (QA → K (SV.tup []) [e0, { rw := true, c := Cont.row ((pT mac own q f ++ [SV.ns b 2 3 len cap]).set 4 (SV.v (Value.slice none 0 0))) }, recT' { b := b, len := len, cap := cap, l := l }]) ∧ ∀ (sn sc : Nat) (sl : List Nr), QS sn sc sl → K (SV.tup []) [e0, { rw := true, c := Cont.row ((pT mac own q f ++ [SV.ns b 2 3 len cap]).set 4 (SV.rs 3 0 0 3 sn sc)) }, recT' { b := b, len := len, cap := cap, l := l }, sdE sl]) := by kernel_rfl
end Go.Proofs.YtedcileokcbohaaDoor
