/-
  flow: New at a place; what is read of a queue; the contracts of the program's queue. No statement is proved here.
-/
import Derived.Test.YtkjfecdpakhggaaFqF
namespace Go.Proofs.Ytkjfecdpakhggaa
open Go.RowKit
set_option linter.unusedVariables false
set_option linter.unusedSimpArgs false
set_option maxRecDepth 100000

theorem EnP.uniq {tl : Bool} {en a : BitVec 32} {e e' : Option Nat} (h : EnP tl en a e) (h' : EnP tl en a e') (hl : ∀ E, e = some E → E < 4294967296) (hl' : ∀ E, e' = some E → E < 4294967296) : e = e' := by
  cases e with
  | none =>
    cases e' with
    | none => rfl
    | some E' =>
      have h1 : tl = false := h
      have h2 : tl = true := h'.1
      rw [h1] at h2; cases h2
  | some E =>
    cases e' with
    | none =>
      have h1 : tl = false := h'
      have h2 : tl = true := h.1
      rw [h1] at h2; cases h2
    | some E' =>
      obtain ⟨-, h1⟩ := h
      obtain ⟨-, h2⟩ := h'
      have := (bv_iff a en E (hl E rfl)).1 h1
      have := (bv_iff a en E' (hl' E' rfl)).1 h2
      congr 1; omega
theorem PQa.uniq {p : QuP} {q q' : Qa} (h : PQa p q) (h' : PQa p q') : q = q' := by
  have ea : q.a = q'.a := h.a.symm.trans h'.a
  have ez : q.z = q'.z := by have := h.z.symm.trans h'.z; omega
  have eed : q.ed = q'.ed := h.ed.symm.trans h'.ed
  have erd : q.rd = q'.rd := by
    cases hn : p.nl
    · exact (h.rd.sl hn).eq.symm.trans (h'.rd.sl hn).eq
    · exact (h.rd.nl hn).1.trans (h'.rd.nl hn).1.symm
  have ef : q.f = q'.f := funext fun j => by
    rcases Nat.lt_or_ge j 4294967296 with g | g
    · rw [← h.map.get j g, ← h'.map.get j g]
    · have w := h.ok.win
      have w' := h'.ok.win
      rw [h.ok.fw j (by omega), h'.ok.fw j (by omega)]
  have ee : q.e = q'.e := by
    cases hd : q.ed
    · have hd' : q'.ed = false := eed.symm.trans hd
      have w := h.ok.win
      have w' := h'.ok.win
      exact (h.tl hd).uniq (h'.tl hd') (fun E hE => by have := (h.ok.en hd E hE).2.1; omega) (fun E hE => by have := (h'.ok.en hd' E hE).2.1; omega)
    · rw [h.ok.ne hd, h'.ok.ne (eed.symm.trans hd)]
  obtain ⟨a, z, rd, f, e, ed⟩ := q
  obtain ⟨a', z', rd', f', e', ed'⟩ := q'
  simp only at ea ez eed erd ef ee
  subst ea ez eed erd ef ee
  rfl
def QuP.sn (p : QuP) : Nat := bif p.nl then 0 else p.n
def QuP.sp (p : QuP) : Option Addr := bif p.nl then none else some ⟨p.bb, p.off, none⟩
def QuP.sc (p : QuP) : Nat := bif p.nl then 0 else p.cap
theorem sl_eq (p : QuP) : p.sl = .slice p.sp p.sn p.sc := by
  unfold QuP.sl QuP.sp QuP.sn QuP.sc
  cases p.nl <;> rfl
theorem PQa.sn {p : QuP} {q : Qa} (h : PQa p q) : p.sn = q.rd.length := by
  unfold QuP.sn
  cases hn : p.nl
  · exact h.rd.n
  · obtain ⟨h1, h2⟩ := h.rd.nl hn
    rw [h1]; rfl
theorem PQa.len {p : QuP} {q : Qa} (h : PQa p q) : p.es.length = q.held := h.map.len h.ok.win h.ok.fw
/-- What is read of a queue of the program. -/
def rdrP (r0 : SV) (g : QuP → Bool × SV) : List SV → List Cont → Option (Bool × SV)
  | [.v (.pointer none)], _ => some (true, r0)
  | [.ptr _ 0], [.res ⟨_, 0, [], true, none, .pr p⟩] => some (g p)
  | _, _ => none
def mVp (p : QuP) : Mm := mV p.z p.a p.en p.tl p.ed p.sp p.sn p.sc (.map (some p.mp))
def mVHp (p : QuP) : Mm := mVH p.z p.a p.en p.tl p.ed p.sp p.sn p.sc p.mp p.clk p.es
theorem rdrP_ok {f : Nat} {r0 : SV} {g : QuP → Bool × SV} (h0 : r0.wf 0 = true) (hn : Spec Try.prog G f [.v (.pointer none)] [] (fun r _ => r = r0)) (hg : ∀ p, (g p).2.wf 0 = true) (hS : ∀ p, (g p).1 = true → Spec Try.prog G f [.ptr 0 0] (mVp p) (fun r _ => r = (g p).2) ∨ Spec Try.prog G f [.ptr 0 0] (mVHp p) (fun r _ => r = (g p).2)) : POk Try.prog G f (rdrP r0 g) := by
  intro args acs r h β M w hR hwf hacs
  unfold rdrP at h
  split at h
  · cases h
    exact pure0 hn rfl h0 hR
  · rename_i k rb p
    have h1 : (g p).1 = true := by rw [Option.some.inj h]
    have h2 : r = (g p).2 := by rw [Option.some.inj h]
    subst h2
    have ht : tgt M (.ptr k 0) = .res (stP rb p) := (List.cons.inj hacs).1.symm
    obtain ⟨rw0, hM⟩ := tgt_ptr ht rfl
    obtain ⟨hb, hRi⟩ := hR.at_res hM
    have hb : β k = rb := hb
    have ha := hRi.all
    rw [objs_P] at ha
    have hrow : Holds w rb true [.int .i64 p.z, c32 p.a, p.sl, .map (some p.mp), c32 p.en, .bool p.tl, .bool p.ed] none := ha (rb, _) (List.mem_cons_self ..)
    rw [sl_eq] at hrow
    have hmap : w.heap[p.mp]? = some (.map (p.es.map EntE.entry).toArray p.clk) := ha (p.mp, .map (p.es.map EntE.entry).toArray p.clk) (List.mem_cons_of_mem _ (List.mem_cons_self ..))
    rcases hS p h1 with hS | hS
    · refine small_pure (b0 := fun _ => rb) (R := mVp p) (fun i e hi => ?_) (by show [Value.pointer (some ⟨β k, 0, none⟩)] = [Value.pointer (some ⟨rb, 0, none⟩)]; rw [hb]) rfl (hg p) hS
      match i, hi with
      | 0, hi =>
        cases hi
        refine ⟨rfl, rfl, ?_⟩
        exact At.weak (r := true) (c := .row [.i p.z, .w32 p.a, .v (.slice p.sp p.sn p.sc), .v (.map (some p.mp)), .w32 p.en, .b p.tl, .b p.ed]) hrow (fun q => by cases q)
    · refine small_pure (b0 := fun i => if i = 0 then rb else p.mp) (R := mVHp p) (fun i e hi => ?_) (by show [Value.pointer (some ⟨β k, 0, none⟩)] = [Value.pointer (some ⟨rb, 0, none⟩)]; rw [hb]) rfl (hg p) hS
      match i, hi with
      | 0, hi =>
        cases hi
        refine ⟨rfl, rfl, ?_⟩
        exact At.weak (r := true) (c := .row [.i p.z, .w32 p.a, .v (.slice p.sp p.sn p.sc), .mp 1, .w32 p.en, .b p.tl, .b p.ed]) hrow (fun q => by cases q)
      | 1, hi =>
        cases hi
        refine ⟨rfl, rfl, rfl, fun x hx => ?_, by rw [stM_objs]; simp⟩
        rw [stM_objs, List.mem_singleton] at hx
        subst hx; exact hmap
  · cases h
-- nil
theorem vNxZ (K : SV → Prop) : (vf Try.prog E1 noL 20 [.v (.pointer none)] [] (fun r _ => K r)) = (K (SV.w32 (BitVec.ofInt 32 0))) := by kernel_rfl
theorem vWdZ (K : SV → Prop) : (vf Try.prog E1 noL 21 [.v (.pointer none)] [] (fun r _ => K r)) = (K (SV.i 0)) := by kernel_rfl
theorem vRyZ (K : SV → Prop) : (vf Try.prog E1 noL 23 [.v (.pointer none)] [] (fun r _ => K r)) = (K (SV.i 0)) := by kernel_rfl
theorem vHeZ (K : SV → Prop) : (vf Try.prog E1 noL 24 [.v (.pointer none)] [] (fun r _ => K r)) = (K (SV.i 0)) := by kernel_rfl
theorem vEdZ (K : SV → Prop) : (vf Try.prog E1 noL 26 [.v (.pointer none)] [] (fun r _ => K r)) = (K (SV.b false)) := by kernel_rfl
theorem vPuZ (sq : BitVec 32) (d : List (BitVec 8)) (fin : Bool) (K : SV → Prop) : (vf Try.prog E5 noL 18 [.v (.pointer none), .w32 sq, .s d, .b fin] [] (fun r _ => K r)) = (K (SV.b false)) := by kernel_rfl
theorem vRdZ (m : Int) (K : SV → Prop) : (vf Try.prog E6 noL 16 [.v (.pointer none), .i m] [] (fun r _ => K r)) = (K (SV.s (bts { data := #[] }))) := by kernel_rfl
def gNx (p : QuP) : Bool × SV := (!(p.z == 0), .w32 p.a)
def gWd (p : QuP) : Bool × SV := (!(p.z == 0) && inI (p.z - (p.sn : Nat)), .i (winT p.z p.ed p.sn))
def gRy (p : QuP) : Bool × SV := (!(p.z == 0), .i ((p.sn : Nat) : Int))
def gHe (p : QuP) : Bool × SV := (!(p.z == 0), .i ((p.es.length : Nat) : Int))
def gEd (p : QuP) : Bool × SV := (!(p.z == 0), .b p.ed)
theorem nz {z : Int} (h : (!(z == 0)) = true) : (bif false then true else z == 0) = false := by simpa using h
theorem nx_pok : POk Try.prog G 20 (rdrP (.w32 0) gNx) := rdrP_ok rfl (vf_ok e1_ok mixed (noL_ok _ _ _ _) (of_eq (vNxZ _) rfl)) (fun _ => rfl) fun p hp => .inl (vf_ok e1_ok mixed (noL_ok _ _ _ _) (of_eq (vNxV p.z p.a p.en p.tl p.ed p.sp p.sn p.sc _ _) (bifF (nz hp) rfl)))
theorem wd_pok : POk Try.prog G 21 (rdrP (.i 0) gWd) := rdrP_ok rfl (vf_ok e1_ok mixed (noL_ok _ _ _ _) (of_eq (vWdZ _) rfl)) (fun _ => rfl) fun p hp => .inl (by
  simp only [gWd, Bool.and_eq_true] at hp
  exact wdV p.z p.a p.en p.tl p.ed p.sp p.sn p.sc _ hp.1 hp.2)
theorem ry_pok : POk Try.prog G 23 (rdrP (.i 0) gRy) := rdrP_ok rfl (vf_ok e1_ok mixed (noL_ok _ _ _ _) (of_eq (vRyZ _) rfl)) (fun _ => rfl) fun p hp => .inl (vf_ok e1_ok mixed (noL_ok _ _ _ _) (of_eq (vRyV p.z p.a p.en p.tl p.ed p.sp p.sn p.sc _ _) (bifF (nz hp) rfl)))
theorem he_pok : POk Try.prog G 24 (rdrP (.i 0) gHe) := rdrP_ok rfl (vf_ok e1_ok mixed (noL_ok _ _ _ _) (of_eq (vHeZ _) rfl)) (fun _ => rfl) fun p hp => .inr (vf_ok e1_ok mixed (noL_ok _ _ _ _) (of_eq (vHeV p.z p.a p.en p.tl p.ed p.sp p.sn p.sc p.mp p.clk p.es _) (bifF (nz hp) rfl)))
theorem ed_pok : POk Try.prog G 26 (rdrP (.b false) gEd) := rdrP_ok rfl (vf_ok e1_ok mixed (noL_ok _ _ _ _) (of_eq (vEdZ _) rfl)) (fun _ => rfl) fun p hp => .inl (vf_ok e1_ok mixed (noL_ok _ _ _ _) (of_eq (vEdV p.z p.a p.en p.tl p.ed p.sp p.sn p.sc _ _) (bifT (by have := nz hp; rw [this]; rfl) rfl)))
-- contracts
def cPu : List SV → Mm → (SV → Mm → Prop) → Prop
  | [.v (.pointer none), .w32 _, .s _, .b _], M, K => K (.b false) M
  | [.ptr k 0, .w32 sq, .s d, .b fin], M, K => match (M[k]? : Option Ent) with
    | some ⟨true, .res ⟨rb, 0, [], true, none, .pr p⟩⟩ => (∃ q, PQa p q) ∧ ∀ q p', PQa p q → PQa p' (q.put sq d fin) → setK M k ⟨true, .res (stP rb p')⟩ fun M2 => K (.b (q.moved sq d fin)) M2
    | _ => False
  | _, _, _ => False
def cRd : List SV → Mm → (SV → Mm → Prop) → Prop
  | [.v (.pointer none), .i _], M, K => K (.s []) M
  | [.ptr k 0, .i m], M, K => match (M[k]? : Option Ent) with
    | some ⟨true, .res ⟨rb, 0, [], true, none, .pr p⟩⟩ => (∃ q, PQa p q) ∧ ∀ q p', PQa p q → PQa p' (q.read m) → setK M k ⟨true, .res (stP rb p')⟩ fun M2 => K (.s (q.told m)) M2
    | _ => False
  | _, _, _ => False
def cNw : List SV → Mm → (SV → Mm → Prop) → Prop
  | [.w32 x, .i w], M, K => bif ilt w 1 || ilt 65536 w then K (.tup [.v (.pointer none), .i 2]) M else ∀ rb p, PQa p (newA x w.toNat) → snocK M ⟨true, .res (stP rb p)⟩ fun M2 => K (.tup [.ptr M.length 0, .i 0]) M2
  | _, _, _ => False
theorem pu_cok : COk Try.prog G 18 cPu := by
  intro args M K h
  unfold cPu at h
  split at h
  · rename_i sq d fin
    exact res_new (vf_ok e5_ok mixed (noL_ok _ _ _ _) (of_eq (vPuZ sq d fin (fun r => r = .b false)) rfl)) rfl fun r M1 hr => .inl (by rw [hr]; exact ⟨rfl, h⟩)
  · rename_i k sq d fin
    split at h
    · rename_i rb p hk
      obtain ⟨⟨q, hq⟩, hK⟩ := h
      exact put_at hk hq sq d fin fun p' hp' => (by
        have := hK q p' hq hp'
        rw [setK_eq] at this; exact this)
    · exact h.elim
  · exact h.elim
theorem rd_cok : COk Try.prog G 16 cRd := by
  intro args M K h
  unfold cRd at h
  split at h
  · rename_i m
    exact res_new (vf_ok e6_ok mixed (noL_ok _ _ _ _) (of_eq (vRdZ m (fun r => r = .s [])) rfl)) rfl fun r M1 hr => .inl (by rw [hr]; exact ⟨rfl, h⟩)
  · rename_i k m
    split at h
    · rename_i rb p hk
      obtain ⟨⟨q, hq⟩, hK⟩ := h
      exact read_at hk hq m fun p' hp' => (by
        have := hK q p' hq hp'
        rw [setK_eq] at this; exact this)
    · exact h.elim
  · exact h.elim
def newP0 (x : BitVec 32) (w : Int) (mp : Nat) : QuP := ⟨mp, 0, [], w, x, 0, false, false, true, 0, 0, 0, 0, []⟩
theorem newP0_ok (x : BitVec 32) (w : Int) (mp : Nat) (h1 : 1 ≤ w) (h2 : w ≤ 65536) : PQa (newP0 x w mp) (newA x w.toNat) :=
  ⟨newA_ok x w.toNat (by omega) (by omega), by show w = ((w.toNat : Nat) : Int); omega, rfl, rfl, ⟨fun _ => ⟨rfl, rfl⟩, fun h => (by cases h)⟩, ⟨⟨List.nodup_nil, fun e he => (by cases he), List.nodup_nil⟩, fun j _ => rfl⟩, fun _ => rfl⟩
theorem nw_cok : COk Try.prog G 13 cNw := by
  intro args M K h
  unfold cNw at h
  split at h
  · rename_i x w
    refine res_new (Q := fun r M1 => (r = .tup [.v (.pointer none), .i 2] ∧ (ilt w 1 || ilt 65536 w) = true) ∨ ((ilt w 1 || ilt 65536 w) = false ∧ r = .tup [.ptr 1 0, .i 0] ∧ ∃ mp, M1 = [⟨true, .res (stM mp 0 [])⟩, ⟨true, .row [.i w, .w32 x, .v (.slice none 0 0), .mp 0, .w32 0, .b false, .b false]⟩])) (vf_ok em_ok mixed (noL_ok _ _ _ _) (of_eq (vNw x w _) ?_)) rfl fun r M1 hr => ?_
    · rcases bTF (ilt w 1) with c | c
      · exact bifT c (.inl ⟨rfl, by rw [c]; rfl⟩)
      refine bifF c ?_
      rcases bTF (ilt 65536 w) with c2 | c2
      · exact bifT (c := bif false then true else ilt 65536 w) c2 (.inl ⟨rfl, by rw [c2]; simp⟩)
      · exact bifF (c := bif false then true else ilt 65536 w) c2 fun mp => .inr ⟨by rw [c, c2]; rfl, rfl, mp, rfl⟩
    · rcases hr with ⟨rfl, c⟩ | ⟨c, rfl, mp, rfl⟩
      · rw [c] at h
        exact .inl ⟨rfl, h⟩
      · rw [c] at h
        simp only [Bool.or_eq_false_iff] at c
        have hw1 := of_nilt c.1
        have hw2 := of_nilt c.2
        refine .inr ⟨1, [.i 0], .inl ⟨rfl, rfl⟩, fun β1 w' hR1 => ?_⟩
        have a0 : β1 0 = mp ∧ RIn (stM mp 0 []).objs w' := hR1.all 0 _ rfl rfl
        rw [stM_objs] at a0
        have am := a0.2.all (mp, .map (([] : List EntE).map EntE.entry).toArray 0) (List.mem_singleton.2 rfl)
        have a1 := hR1.all 1 _ rfl rfl
        have hne : β1 1 ≠ mp := fun e => hR1.dis 0 1 _ _ rfl rfl (by omega) rfl rfl rfl mp (by show mp ∈ (stM mp 0 []).objs.map (·.1); rw [stM_objs]; exact List.mem_singleton.2 rfl) e.symm
        have hv : Holds w' (β1 1) true [.int .i64 w, c32 x, .slice none 0 0, .map (some mp), c32 0, .bool false, .bool false] none := by
          rw [← a0.1]; exact a1
        refine ⟨stP (β1 1) (newP0 x w mp), rfl, ⟨fun y hy => ?_, ?_⟩, fun i hi => ?_, fun q => (by cases q), fun _ => (by
          have := h (β1 1) (newP0 x w mp) (newP0_ok x w mp (by omega) (by omega))
          rw [snocK_eq] at this; exact this)⟩
        · have hy : y = (β1 1, RO.cells [.int .i64 w, c32 x, .slice none 0 0, .map (some mp), c32 0, .bool false, .bool false] none) ∨ y = (mp, RO.map #[] 0) := by
            have := hy
            rw [objs_P] at this
            unfold QuP.objs at this
            simpa [newP0, QuP.sl] using this
          rcases hy with rfl | rfl
          · exact hv
          · exact am
        · rw [objs_P]
          unfold QuP.objs
          simp [newP0, hne]
        · rw [objs_mem] at hi
          rcases hi with e | e | ⟨e, -⟩
          · exact ⟨1, _, rfl, rfl, e⟩
          · exact ⟨0, _, rfl, rfl, by show i ∈ (stM mp 0 []).objs.map (·.1); rw [stM_objs]; exact List.mem_singleton.2 e⟩
          · cases e
  · exact h.elim
end Go.Proofs.Ytkjfecdpakhggaa
