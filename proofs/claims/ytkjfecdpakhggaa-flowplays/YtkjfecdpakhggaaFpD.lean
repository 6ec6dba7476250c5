/-
  flow: functions that only read a queue: what they answer, wherever it lies; hold. No statement is proved here.
-/
import Derived.Test.YtkjfecdpakhggaaFpB
import Derived.Test.YtkjfecdpakhggaaRfE
namespace Go.Proofs.Ytkjfecdpakhggaa
open Go.RowKit
set_option linter.unusedVariables false
set_option linter.unusedSimpArgs false
set_option maxRecDepth 100000

/-- Small lists of blocks that are only read: what a call on them answers it answers anywhere. -/
theorem small_pure {f : Nat} {args args0 : List SV} {r0 : SV} {R : Mm} {b0 β : Nat → Nat} {w : World} (hro : ∀ (i : Nat) (e : Ent), R[i]? = some e → e.rw = false ∧ e.c.wf R.length = true ∧ At (b0) w (b0 i) false e.c) (hargs : vals β args = vals b0 args0) (ha : SV.wf.wfs R.length args0 = true) (hr : r0.wf 0 = true) (hS : Spec Try.prog G f args0 R (fun r _ => r = r0)) : CallR Try.prog f (vals β args).toArray w (fun v w' => v = val β r0 ∧ Fp0 w w') := by
  have hR0 : Rel G b0 R w := ⟨fun k x hx hc => by
      have h := hro k x hx
      rw [h.1]; exact h.2.2, fun i j x y hx hy hij hr => (by rw [(hro i x hx).1] at hr; cases hr), fun g hg => absurd hg (by show ¬ g < 0; omega), Nat.zero_le _, fun k hk => absurd hk (by show ¬ k < 0; omega), fun k x hx => (by cases hx), fun k x hx => (hro k x hx).2.1⟩
  rw [hargs]
  refine (hS b0 w hR0 ha).mono fun v w' hh => ?_
  obtain ⟨β1, M1, r1, hE, hR1, ⟨-, rfl⟩, rfl⟩ := hh
  refine ⟨?_, hE.fp.mono fun i _ hi => ?_⟩
  · rw [val_agree (n := 0) (β := β) (β' := β1) (fun k hk => absurd hk (by omega)) r1 hr]
  · obtain ⟨k, x, hx, hr, -⟩ := hi
    rw [(hro k x hx).1] at hr; cases hr
theorem tgt_ptr {M : Mm} {k off : Nat} {c : Cont} (h : tgt M (.ptr k off) = c) (hh : c.here = true) : ∃ r, M[k]? = some ⟨r, c⟩ := by
  unfold tgt at h
  dsimp only at h
  cases hk : M[k]? with
  | none => rw [hk] at h; subst h; cases hh
  | some e => rw [hk] at h; exact ⟨e.rw, by subst h; rfl⟩
/-- A function of a queue's row alone. -/
theorem row_pure {f k : Nat} {β : Nat → Nat} {M : Mm} {w : World} {l l0 : List SV} {r0 : SV} (hR : Rel G β M w) (hk : tgt M (.ptr k 0) = .row l) (he : vals (fun _ => β k) l0 = vals β l) (hw : SV.wf.wfs 1 l0 = true) (hr : r0.wf 0 = true) (hS : Spec Try.prog G f [.ptr 0 0] [⟨false, .row l0⟩] (fun r _ => r = r0)) : CallR Try.prog f (vals β [.ptr k 0]).toArray w (fun v w' => v = val β r0 ∧ Fp0 w w') := by
  obtain ⟨r, hM⟩ := tgt_ptr hk rfl
  have hrow : Holds w (β k) r (vals β l) none := hR.all k _ hM rfl
  refine small_pure (b0 := fun _ => β k) (R := [⟨false, .row l0⟩]) (fun i e hi => ?_) rfl rfl hr hS
  match i, hi with
  | 0, hi =>
    cases hi
    refine ⟨rfl, hw, ?_⟩
    have : Holds w (β k) r (vals (fun _ => β k) l0) none := by rw [he]; exact hrow
    exact At.weak (r := r) (c := .row l0) this (fun q => by cases q)
def cInT : List SV → List Cont → Option (Bool × SV)
  | [.w32 x, .w32 f, .w32 n], _ => some (true, .b ((x - f).ult n))
  | _, _ => none
theorem inT_ok : POk Try.prog G 11 cInT := by
  intro args acs r h β M w hR hwf hacs
  unfold cInT at h
  split at h
  · rename_i x f n
    cases h
    exact pure0 (vf_ok e0_ok mixed (noL_ok _ _ _ _) (of_eq (vInV x f n (fun r => r = .b ((x - f).ult n))) rfl)) rfl rfl hR
  · cases h
def lenT : SV → Option Nat
  | .v (.slice none 0 0) => some 0
  | .sl _ _ n _ => some n
  | _ => none
def ptrT : SV → Bool
  | .mp _ => true
  | _ => false
def winT (z : Int) (ed : Bool) (n : Nat) : Int := bif ed then 0 else z - (n : Nat)
def cWdT : List SV → List Cont → Option (Bool × SV)
  | [.ptr _ 0], [.row [.i z, .w32 _, sl, .mp _, .w32 _, .b _, .b ed]] => match lenT sl with
    | some n => some (!(z == 0) && inI (z - (n : Nat)), .i (winT z ed n))
    | none => none
  | _, _ => none
theorem lenT_val {sl : SV} {n : Nat} (h : lenT sl = some n) (β : Nat → Nat) : ∃ p cap, val β sl = .slice p n cap := by
  unfold lenT at h
  split at h
  · cases h; exact ⟨none, 0, rfl⟩
  · cases h; exact ⟨_, _, rfl⟩
  · cases h
theorem wdV (z : Int) (a en : BitVec 32) (tl ed : Bool) (p : Option Addr) (n cap : Nat) (mv : Value) (hz : (!(z == 0)) = true) (hi : inI (z - (n : Nat)) = true) : Spec Try.prog G 21 [.ptr 0 0] (mV z a en tl ed p n cap mv) (fun r _ => r = .i (winT z ed n)) := by
  have hz' : (z == 0) = false := by simpa using hz
  refine vf_ok e1_ok mixed (noL_ok _ _ _ _) (of_eq (vWdV z a en tl ed p n cap mv (fun r => r = .i (winT z ed n))) ?_)
  rw [hz', hi]
  cases ed <;> rfl
theorem wdT_ok : POk Try.prog G 21 cWdT := by
  intro args acs r h β M w hR hwf hacs
  unfold cWdT at h
  split at h
  · rename_i k z a sl j en tl ed
    split at h
    · rename_i n hn
      simp only [Option.some.injEq, Prod.mk.injEq, Bool.and_eq_true] at h
      obtain ⟨⟨hz, hi⟩, rfl⟩ := h
      obtain ⟨p, cap, hv⟩ := lenT_val hn β
      have ht : tgt M (.ptr k 0) = .row [.i z, .w32 a, sl, .mp j, .w32 en, .b tl, .b ed] := (List.cons.inj hacs).1.symm
      refine row_pure (l0 := [.i z, .w32 a, .v (.slice p n cap), .v (.map (some (β j))), .w32 en, .b tl, .b ed]) hR ht ?_ rfl rfl (wdV z a en tl ed p n cap _ hz hi)
      simp only [vals, val, hv]
    · cases h
  · cases h
def T4 : PT := (T0.add 11 cInT).add 21 cWdT
theorem t4_ok : PTok Try.prog G T4 := PT.add_ok (PT.add_ok t0_ok inT_ok) wdT_ok
def E4 : Env := { G := G, T := T4, C := noC.add 33 cRe, H := hMp }
-- hold
theorem put_st (mb clk : Nat) (es : List EntE) (x : BitVec 32) (b : BitVec 8) : (stM mb clk es).put x b = stM mb ((stM mb clk es).put x b).clk ((stM mb clk es).put x b).es := by
  unfold St.put
  split <;> rfl
theorem hoS_st (a sq rm : BitVec 32) (d : List (BitVec 8)) (mb clk : Nat) (es : List EntE) : ∀ i, hoS a sq rm d (stM mb clk es) i = stM mb (hoS a sq rm d (stM mb clk es) i).clk (hoS a sq rm d (stM mb clk es) i).es
  | 0 => rfl
  | i + 1 => by
    have ih := hoS_st a sq rm d mb clk es i
    unfold hoS
    generalize hoS a sq rm d (stM mb clk es) i = s at ih
    cases !(s.get (sq + BitVec.ofInt 32 (i : Int))).isSome && (sq + BitVec.ofInt 32 (i : Int) - a).ult rm
    · exact ih
    · simp only [cond_true]
      rw [ih]; exact put_st _ _ _ _ _
theorem hoS_next {a sq rm : BitVec 32} {d : List (BitVec 8)} {s : St} {i : Nat} : hoS a sq rm d s (i + 1) = bif !((hoS a sq rm d s i).get (sq + BitVec.ofInt 32 (i : Int))).isSome && (sq + BitVec.ofInt 32 (i : Int) - a).ult rm then (hoS a sq rm d s i).put (sq + BitVec.ofInt 32 (i : Int)) (d.getD i 0) else hoS a sq rm d s i := by
  conv => lhs; unfold hoS
theorem loopHoN (z : Int) (a en : BitVec 32) (tl ed : Bool) (mb clk : Nat) (es : List EntE) (sq rm : BitVec 32) (d : List (BitVec 8)) (hd : d.length ≤ 65536) : LOk Try.prog G (mN z a en tl ed mb clk es) 29 (LHoN z a en tl ed mb clk es sq rm d (hoS a sq rm d (stM mb clk es) d.length).clk (hoS a sq rm d (stM mb clk es) d.length).es) := by
  refine LT.add_ok (noL_ok _ _ _ _) (loop_next e3_ok mixed (noL_ok _ _ _ _) (Nat.zero_le _) (by kernel_rfl) (fun i => iHo sq rm d i) (fun i => mN z a en tl ed mb (hoS a sq rm d (stM mb clk es) i).clk (hoS a sq rm d (stM mb clk es) i).es) (fun i => i ≤ d.length) (fun i => d.length - i) (fun i => i + 1) 0 (Nat.zero_le _) (fun i hp => of_eq (rHoN z a en tl ed mb clk es (hoS a sq rm d (stM mb clk es) i).clk (hoS a sq rm d (stM mb clk es) i).es sq rm d i (hoS a sq rm d (stM mb clk es) (i + 1)).clk (hoS a sq rm d (stM mb clk es) (i + 1)).es (hoS a sq rm d (stM mb clk es) d.length).clk (hoS a sq rm d (stM mb clk es) d.length).es _) ?_))
  have e0 := hoS_st a sq rm d mb clk es i
  have e1 := hoS_st a sq rm d mb clk es (i + 1)
  have e2 := hoS_next (a := a) (sq := sq) (rm := rm) (d := d) (s := stM mb clk es) (i := i)
  rw [← e0, ← e1]
  generalize hoS a sq rm d (stM mb clk es) (i + 1) = s' at e2 ⊢
  rcases bTF (ilt (i : Int) (d.length : Int)) with hc | hc
  · have hi : i < d.length := by have := of_ilt hc; omega
    refine bifT hc ?_
    rcases bTF (!((hoS a sq rm d (stM mb clk es) i).get (sq + BitVec.ofInt 32 (i : Int))).isSome) with hb | hb
    · refine bifT hb ?_
      rcases bTF ((sq + BitVec.ofInt 32 (i : Int) - a).ult rm) with hu | hu
      · rw [hb, hu] at e2
        exact bifT (by rw [hu]; rfl) (bif_of (inRn hi) (bif_of (inI_iff.2 (by omega)) ⟨⟨hi, by show d.length - (i + 1) < d.length - i; omega⟩, rfl, rfl, rfl, rfl, rfl, rfl, ⟨rfl, rfl⟩, ⟨rfl, congrArg Cont.res e2.symm⟩, trivial⟩))
      · rw [hb, hu] at e2
        exact bifF (by rw [hu]; rfl) (bif_of (inI_iff.2 (by omega)) ⟨⟨hi, by show d.length - (i + 1) < d.length - i; omega⟩, rfl, rfl, rfl, rfl, rfl, rfl, ⟨rfl, rfl⟩, ⟨rfl, congrArg Cont.res e2.symm⟩, trivial⟩)
    · rw [hb] at e2
      exact bifF hb (bif_of (inI_iff.2 (by omega)) ⟨⟨hi, by show d.length - (i + 1) < d.length - i; omega⟩, rfl, rfl, rfl, rfl, rfl, rfl, ⟨rfl, rfl⟩, ⟨rfl, congrArg Cont.res e2.symm⟩, trivial⟩)
  · have hi : i = d.length := by
      have := of_nilt hc
      replace hp : i ≤ d.length := hp
      omega
    subst hi
    exact bifF hc ⟨rfl, ⟨rfl, rfl⟩, ⟨rfl, congrArg Cont.res e0⟩, trivial⟩
theorem loopHoS (z : Int) (a en : BitVec 32) (tl ed : Bool) (mb clk : Nat) (es : List EntE) (off n cap : Nat) (l : List (BitVec 8)) (sq rm : BitVec 32) (d : List (BitVec 8)) (hd : d.length ≤ 65536) : LOk Try.prog G (mS z a en tl ed mb clk es off n cap l) 29 (LHoS z a en tl ed mb clk es off n cap l sq rm d (hoS a sq rm d (stM mb clk es) d.length).clk (hoS a sq rm d (stM mb clk es) d.length).es) := by
  refine LT.add_ok (noL_ok _ _ _ _) (loop_next e3_ok mixed (noL_ok _ _ _ _) (Nat.zero_le _) (by kernel_rfl) (fun i => iHo sq rm d i) (fun i => mS z a en tl ed mb (hoS a sq rm d (stM mb clk es) i).clk (hoS a sq rm d (stM mb clk es) i).es off n cap l) (fun i => i ≤ d.length) (fun i => d.length - i) (fun i => i + 1) 0 (Nat.zero_le _) (fun i hp => of_eq (rHoS z a en tl ed mb clk es (hoS a sq rm d (stM mb clk es) i).clk (hoS a sq rm d (stM mb clk es) i).es off n cap l sq rm d i (hoS a sq rm d (stM mb clk es) (i + 1)).clk (hoS a sq rm d (stM mb clk es) (i + 1)).es (hoS a sq rm d (stM mb clk es) d.length).clk (hoS a sq rm d (stM mb clk es) d.length).es _) ?_))
  have e0 := hoS_st a sq rm d mb clk es i
  have e1 := hoS_st a sq rm d mb clk es (i + 1)
  have e2 := hoS_next (a := a) (sq := sq) (rm := rm) (d := d) (s := stM mb clk es) (i := i)
  rw [← e0, ← e1]
  generalize hoS a sq rm d (stM mb clk es) (i + 1) = s' at e2 ⊢
  rcases bTF (ilt (i : Int) (d.length : Int)) with hc | hc
  · have hi : i < d.length := by have := of_ilt hc; omega
    refine bifT hc ?_
    rcases bTF (!((hoS a sq rm d (stM mb clk es) i).get (sq + BitVec.ofInt 32 (i : Int))).isSome) with hb | hb
    · refine bifT hb ?_
      rcases bTF ((sq + BitVec.ofInt 32 (i : Int) - a).ult rm) with hu | hu
      · rw [hb, hu] at e2
        exact bifT (by rw [hu]; rfl) (bif_of (inRn hi) (bif_of (inI_iff.2 (by omega)) ⟨⟨hi, by show d.length - (i + 1) < d.length - i; omega⟩, rfl, rfl, rfl, rfl, rfl, rfl, ⟨rfl, rfl⟩, ⟨rfl, congrArg Cont.res e2.symm⟩, ⟨rfl, rfl⟩, trivial⟩))
      · rw [hb, hu] at e2
        exact bifF (by rw [hu]; rfl) (bif_of (inI_iff.2 (by omega)) ⟨⟨hi, by show d.length - (i + 1) < d.length - i; omega⟩, rfl, rfl, rfl, rfl, rfl, rfl, ⟨rfl, rfl⟩, ⟨rfl, congrArg Cont.res e2.symm⟩, ⟨rfl, rfl⟩, trivial⟩)
    · rw [hb] at e2
      exact bifF hb (bif_of (inI_iff.2 (by omega)) ⟨⟨hi, by show d.length - (i + 1) < d.length - i; omega⟩, rfl, rfl, rfl, rfl, rfl, rfl, ⟨rfl, rfl⟩, ⟨rfl, congrArg Cont.res e2.symm⟩, ⟨rfl, rfl⟩, trivial⟩)
  · have hi : i = d.length := by
      have := of_nilt hc
      replace hp : i ≤ d.length := hp
      omega
    subst hi
    exact bifF hc ⟨rfl, ⟨rfl, rfl⟩, ⟨rfl, congrArg Cont.res e0⟩, ⟨rfl, rfl⟩, trivial⟩
theorem inI_win {z : Int} {n : Nat} {ed : Bool} (h : InQ z n ed) : (z == 0) = false ∧ inI (z - (n : Nat)) = true := by
  obtain ⟨-, h1, h2, h3⟩ := h
  exact ⟨by simp; omega, inI_iff.2 (by omega)⟩
theorem ho_ok : COk Try.prog G 29 cHo := by
  intro args M K h
  unfold cHo at h
  split at h
  · rename_i sq d z a en tl ed mb clk es
    obtain ⟨⟨hq, hd⟩, hK⟩ := h
    obtain ⟨h1, h2⟩ := inI_win hq
    obtain rfl := hq.1
    refine vf_ok e3_ok mixed (loopHoN z a en tl false mb clk es sq (rmQ z 0 a en tl) d hd) (of_eq (vHoN z a en tl false mb clk es sq (rmQ z 0 a en tl) d _ _ K) ?_)
    cases tl
    · exact bifF rfl (bifF h1 (bifF rfl (bifT h2 ⟨rfl, rfl, rfl, rfl, rfl, rfl, rfl, ⟨rfl, rfl⟩, ⟨rfl, rfl⟩, hK⟩)))
    · exact bifT rfl ⟨rfl, rfl, rfl, rfl, rfl, rfl, rfl, ⟨rfl, rfl⟩, ⟨rfl, rfl⟩, hK⟩
  · rename_i sq d z a off n cap en tl ed mb clk es l
    obtain ⟨⟨hq, hd⟩, hK⟩ := h
    obtain ⟨h1, h2⟩ := inI_win hq
    obtain rfl := hq.1
    refine vf_ok e3_ok mixed (loopHoS z a en tl false mb clk es off n cap l sq (rmQ z n a en tl) d hd) (of_eq (vHoS z a en tl false mb clk es off n cap l sq (rmQ z n a en tl) d _ _ K) ?_)
    cases tl
    · exact bifF rfl (bifF h1 (bifF rfl (bifT h2 ⟨rfl, rfl, rfl, rfl, rfl, rfl, rfl, ⟨rfl, rfl⟩, ⟨rfl, rfl⟩, ⟨rfl, rfl⟩, hK⟩)))
    · exact bifT rfl ⟨rfl, rfl, rfl, rfl, rfl, rfl, rfl, ⟨rfl, rfl⟩, ⟨rfl, rfl⟩, ⟨rfl, rfl⟩, hK⟩
  · exact h.elim
end Go.Proofs.Ytkjfecdpakhggaa
