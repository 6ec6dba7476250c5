/-
  ip: Take and Waits wherever the sets lie. No statement is proved here.
-/
import Derived.Test.YtggoncamiafclabIpX
namespace Go.Proofs.Ytggoncamiafclab
open Go.RowKit
set_option linter.unusedVariables false
set_option linter.unusedSimpArgs false
set_option maxRecDepth 100000

def Ms (most : Int) (life : BitVec 64) (s : St) : Mm := [⟨false, .row [.i most, .w64 life, .mp 1]⟩, ⟨true, .res s⟩]
theorem spec_at {f : Nat} {xs : List SV} {M : Mm} {j k : Nat} {most : Int} {life : BitVec 64} {r0 : Bool} {s : St} {Q K : SV → Mm → Prop}
    (hj : M[j]? = some ⟨r0, .row [.i most, .w64 life, .mp k]⟩) (hk : M[k]? = some ⟨true, .res s⟩) (hS : Spec Try.prog G f (.ptr 0 0 :: xs) (Ms most life s) Q) (hx : SV.wf.wfs 0 xs = true)
    (hQ : ∀ r M1, Q r M1 → r.wf 0 = true ∧ ∃ s', M1[1]? = some ⟨true, .res s'⟩ ∧ K r (M.set k ⟨true, .res s'⟩)) : Spec Try.prog G f (.ptr j 0 :: xs) M K := by
  intro β w hR hwf
  have hne : k ≠ j := fun e => by subst e; rw [hk] at hj; cases hj
  have hrow : Holds w (β j) r0 [.int .i64 most, c64 life, .map (some (β k))] none := hR.all j _ hj rfl
  have hres := hR.all k _ hk rfl
  have hR0 : Rel G (fun i => if i = 0 then β j else β k) (Ms most life s) w := by
    refine ⟨fun i x hx hc => ?_, fun i i2 x y hx hy hij hr hxc hyc b hb hb' => ?_, fun g hg => absurd hg (by show ¬ g < 0; omega), Nat.zero_le _, fun i hi => absurd hi (by show ¬ i < 0; omega), fun i x hx => (by cases hx), fun i x hx => ?_⟩
    · match i, hx with
      | 0, hx => cases hx; exact At.weak (r := r0) (c := .row [.i most, .w64 life, .mp k]) (β := β) hrow (fun q => by cases q)
      | 1, hx => cases hx; exact hres
    · match i, i2, hx, hy with
      | 0, _, hx, _ => cases hx; cases hr
      | 1, 0, hx, hy => cases hx; cases hy; exact hR.dis k j _ _ hk hj hne rfl rfl rfl b hb hb'
      | 1, 1, _, _ => exact hij rfl
    · match i, hx with
      | 0, hx => cases hx; rfl
      | 1, hx => cases hx; rfl
  have hargs : vals β (.ptr j 0 :: xs) = vals (fun i => if i = 0 then β j else β k) (.ptr 0 0 :: xs) := by
    show Value.pointer (some ⟨β j, 0, none⟩) :: vals β xs = Value.pointer (some ⟨β j, 0, none⟩) :: vals _ xs
    rw [vals_agree (n := 0) (β := (fun i => if i = 0 then β j else β k)) (β' := β) (fun k hk => absurd hk (by omega)) xs hx]
  rw [hargs]
  refine (hS _ w hR0 ?_).mono fun v w' hh => ?_
  · show (true && SV.wf.wfs 2 xs) = true
    rw [wfs_mono (Nat.zero_le _) xs hx]; rfl
  obtain ⟨β1, M1, r, hE, hR1, ⟨hrw, rfl⟩, hQr⟩ := hh
  obtain ⟨hr0, s', hM1, hK⟩ := hQ r M1 hQr
  have hβ1 : β1 1 = β k := (hE.agree 1 (by show 1 < 2; omega)).trans rfl
  have hF : Fp (own (β k) (.res s)) w w' := hE.fp.mono fun i _ hi => by
    obtain ⟨q, x, hx, hr, ho⟩ := hi
    match q, hx with
    | 0, hx => cases hx; cases hr
    | 1, hx => cases hx; exact ho
  have hAt := hR1.all 1 _ hM1 rfl
  obtain ⟨g1, g2⟩ := hR.setR (c' := .res s') hk rfl hF rfl (fun i hi => by
    rcases hE.rws i ⟨1, _, hM1, rfl, (by rw [hβ1]; exact hi)⟩ with q | q
    · obtain ⟨q2, x, hx, hr, ho⟩ := q
      match q2, hx with
      | 0, hx => cases hx; cases hr
      | 1, hx => cases hx; exact .inl ho
    · exact .inr q) (fun _ => by
      have h1 : β1 1 = s'.mb ∧ RIn s'.objs w' := hAt
      exact ⟨hβ1.symm.trans h1.1, h1.2⟩)
  exact ⟨β, _, r, g2, g1, ⟨wf_mono (Nat.zero_le _) r hr0, val_agree (n := 0) (fun k hk => absurd hk (by omega)) r hr0⟩, hK⟩
/-- What Take makes of the sets, and answers. -/
def TakeP (most : Int) (life now : BitVec 64) (mb clk : Nat) (es gs : List SetE) (a b : BitVec 32) (c ttl : BitVec 8) (d : BitVec 16) (stay more : Bool) (off : BitVec 16) (m : Tx) (K1 : SV → St → Prop) : Prop :=
  bif bif false then true else most == 0 then K1 (errT 1) (stO mb clk es gs) else bif (BitVec.ofInt 64 4611686018427387904).ule now then K1 (errT 2) (stO mb clk es gs) else OkS (stO mb clk es gs) ∧ ∀ gs', OkS (stO mb clk (es.filter fun e => !(e.u.ule now)) gs') →
    bif isPc more off then (OkS (stO mb clk (es.filter fun e => !(e.u.ule now)) gs') ∧ m.length ≤ 4294967296 ∧ ∀ e, e ∈ (es.filter fun e => !(e.u.ule now)) → e.len ≤ 33554430) ∧
      (∀ s' z, GErr most life now ⟨a, b, c, d⟩ (8 * ((off.toNat : Nat) : Int)) m more ttl (stO mb clk (es.filter fun e => !(e.u.ule now)) gs') s' z → K1 (errT z) s') ∧
      (∀ s' ps, GMade most life now ⟨a, b, c, d⟩ (8 * ((off.toNat : Nat) : Int)) m more ttl (stO mb clk (es.filter fun e => !(e.u.ule now)) gs') s' ps → K1 (.tup [.agg [.w32 a, .w32 b, .w8 c, .w8 (pAt ps 0).2.2.2.1, .w16 d, .b false, .b false, .w16 0, .s (datW ps ps.length)], .b true, .i 0]) s')
    else bif Nat.ble m.length 4294967296 then K1 (.tup [.agg [.w32 a, .w32 b, .w8 c, .w8 ttl, .w16 d, .b stay, .b more, .w16 off, .s m], .b true, .i 0]) (stO mb clk (es.filter fun e => !(e.u.ule now)) gs') else False
theorem s23 (most : Int) (life now : BitVec 64) (mb clk : Nat) (es gs : List SetE) (a b : BitVec 32) (c ttl : BitVec 8) (d : BitVec 16) (stay more : Bool) (off : BitVec 16) (m : Tx) (K1 : SV → St → Prop) (h : TakeP most life now mb clk es gs a b c ttl d stay more off m K1) :
    Spec Try.prog G 6 [.ptr 0 0, .agg [.w32 a, .w32 b, .w8 c, .w8 ttl, .w16 d, .b stay, .b more, .w16 off, .s m], .w64 now] (Ms most life (stO mb clk es gs)) (fun r M1 => r.wf 0 = true ∧ ∃ s', M1[1]? = some ⟨true, .res s'⟩ ∧ (s'.was = false ∧ s'.it = none) ∧ K1 r s') := by
  refine vf_ok etk_ok mixed (noL_ok _ _ _ _) (of_eq (v23 most life now mb clk es gs a b c ttl d stay more off m _) ?_)
  unfold TakeP at h
  cases h0 : (bif false then true else most == 0) <;> rw [h0] at h
  · cases h1 : (BitVec.ofInt 64 4611686018427387904).ule now <;> rw [h1] at h
    · obtain ⟨h2, h3⟩ := h
      refine ⟨h2, fun gs' hg => ?_⟩
      have h4 := h3 gs' hg
      cases hp : isPc more off <;> rw [hp] at h4
      · cases hl : Nat.ble m.length 4294967296 <;> rw [hl] at h4
        · exact h4.elim
        · rw [cond_false]
          refine bif_of rfl ?_
          exact ⟨rfl, _, rfl, ⟨rfl, rfl⟩, h4⟩
      · obtain ⟨h5, h6, h7⟩ := h4
        exact ⟨h5, fun s' z hz => ⟨rfl, s', rfl, ⟨hz.1.map, hz.1.it⟩, h6 s' z hz⟩, fun s' ps hz => ⟨rfl, s', rfl, ⟨hz.1.map, hz.1.it⟩, h7 s' ps hz⟩⟩
    · exact ⟨rfl, _, rfl, ⟨rfl, rfl⟩, h⟩
  · exact ⟨rfl, _, rfl, ⟨rfl, rfl⟩, h⟩
def cTk : List SV → Mm → (SV → Mm → Prop) → Prop
  | [.ptr j 0, .agg [.w32 a, .w32 b, .w8 c, .w8 ttl, .w16 d, .b stay, .b more, .w16 off, .s m], .w64 now], M, K => match (M[j]? : Option Ent) with
    | some ⟨_, .row [.i most, .w64 life, .mp k]⟩ => match (M[k]? : Option Ent) with
      | some ⟨true, .res ⟨mb, clk, es, false, none, gs⟩⟩ => TakeP most life now mb clk es gs a b c ttl d stay more off m fun r s' => setK M k ⟨true, .res ⟨s'.mb, s'.clk, s'.es, false, none, s'.gs⟩⟩ fun M2 => K r M2
      | _ => False
    | _ => False
  | _, _, _ => False
theorem take_ok : COk Try.prog G 6 cTk := by
  intro args M K h
  unfold cTk at h
  split at h
  · rename_i j a b c ttl d stay more off m now
    split at h
    · rename_i r0 most life k hj
      split at h
      · rename_i mb clk es gs hk
        refine spec_at hj hk (s23 most life now mb clk es gs a b c ttl d stay more off m _ h) rfl (fun r M1 hh => ?_)
        obtain ⟨h1, s', h2, ⟨h4, h5⟩, h3⟩ := hh
        rw [setK_eq] at h3
        have e : (⟨s'.mb, s'.clk, s'.es, false, none, s'.gs⟩ : St) = s' := by rw [← h4, ← h5]
        rw [e] at h3
        exact ⟨h1, s', h2, h3⟩
      · exact h.elim
    · exact h.elim
  · exact h.elim
def cWt : List SV → Mm → (SV → Mm → Prop) → Prop
  | [.ptr j 0], M, K => match (M[j]? : Option Ent) with
    | some ⟨_, .row [.i most, .w64 life, .mp k]⟩ => match (M[k]? : Option Ent) with
      | some ⟨true, .res ⟨mb, clk, es, false, none, gs⟩⟩ => setK M k ⟨true, .res ⟨mb, clk, es, false, none, gs⟩⟩ fun M2 => K (.i (bif most == 0 then 0 else ((es.length : Nat) : Int))) M2
      | _ => False
    | _ => False
  | _, _, _ => False
theorem waits_ok : COk Try.prog G 7 cWt := by
  intro args M K h
  unfold cWt at h
  split at h
  · rename_i j
    split at h
    · rename_i r0 most life k hj
      split at h
      · rename_i mb clk es gs hk
        rw [setK_eq] at h
        have hS : Spec Try.prog G 7 [.ptr 0 0] (Ms most life (stO mb clk es gs)) (fun r M1 => r = .i (bif most == 0 then 0 else ((es.length : Nat) : Int)) ∧ M1 = Ms most life (stO mb clk es gs)) := by
          refine vf_ok etk_ok mixed (noL_ok _ _ _ _) (of_eq (v25 most life mb clk es gs _) ?_)
          cases hm : (most == 0)
          · exact ⟨rfl, rfl⟩
          · exact ⟨rfl, rfl⟩
        refine spec_at hj hk hS rfl (fun r M1 hh => ?_)
        obtain ⟨rfl, rfl⟩ := hh
        exact ⟨rfl, _, rfl, h⟩
      · exact h.elim
    · exact h.elim
  · exact h.elim
def cNw (P : Program) : List SV → Mm → (SV → Mm → Prop) → Prop := fun args M K => vf P EH noL 5 args M K
theorem new_ok : COk Try.prog G 5 (cNw Try.prog) := fun args M K h => vf_ok eh_ok mixed (noL_ok _ _ _ _) h
end Go.Proofs.Ytggoncamiafclab
