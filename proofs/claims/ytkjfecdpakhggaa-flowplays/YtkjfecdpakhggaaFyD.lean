/-
  flow: the document's queue at one place: contracts, and what is read of it. No statement is proved here.
-/
import Derived.Test.YtkjfecdpakhggaaFyC
namespace Go.Proofs.Ytkjfecdpakhggaa
open Go.RowKit
set_option linter.unusedVariables false
set_option linter.unusedSimpArgs false
set_option maxRecDepth 100000

def b0d (rb : Nat) (d : QuD) : Nat → Nat := fun i => if i = 0 then rb else if i = 1 then d.ib else d.bb
theorem m0d_len (d : QuD) : 0 < (M0d d).length := Nat.zero_lt_succ _
theorem objs_D (rb : Nat) (d : QuD) : (stD rb d).objs = d.objs rb := rfl
theorem objs_memD {rb : Nat} {d : QuD} {i : Nat} : i ∈ (stD rb d).objs.map (·.1) ↔ i = rb ∨ i = d.ib ∨ i = d.bb := by
  rw [objs_D]
  unfold QuD.objs
  simp
theorem rw0d {rb : Nat} {d : QuD} {b : Nat} (h : rwset (b0d rb d) (M0d d) b) : b ∈ (stD rb d).objs.map (·.1) := by
  rw [objs_memD]
  obtain ⟨k, x, hx, -, ho⟩ := h
  match k, hx, ho with
  | 0, hx, ho => cases hx; exact .inl ho
  | 1, hx, ho => cases hx; exact .inr (.inl ho)
  | 2, hx, ho => cases hx; exact .inr (.inr ho)
  | k + 3, hx, ho => cases hx
theorem rel0d {w : World} {rb : Nat} {d : QuD} (h : RIn (stD rb d).objs w) : Rel G (b0d rb d) (M0d d) w := by
  obtain ⟨ha, hd⟩ := h
  rw [objs_D] at ha hd
  have h1 : Holds w rb true [c32 d.a, .int .i64 d.z, .string (txt d.rd), .slice (some ⟨d.ib, 0, none⟩) d.n d.n, .slice (some ⟨d.bb, 0, none⟩) d.n d.n, .bool d.he, .int .i64 d.e, .bool d.ed] none := ha (rb, _) (List.mem_cons_self ..)
  have h2 : Holds w d.ib true (rows [.b] d.l) none := ha (d.ib, .cells (rows [.b] d.l) none) (List.mem_cons_of_mem _ (List.mem_cons_self ..))
  have h3 : Holds w d.bb true (d.m.map c8) none := ha (d.bb, .cells (d.m.map c8) none) (List.mem_cons_of_mem _ (List.mem_cons_of_mem _ (List.mem_cons_self ..)))
  unfold QuD.objs at hd
  simp at hd
  obtain ⟨⟨d1, d2⟩, d3⟩ := hd
  refine rel_of (fun k x hx hc => ?_) (fun i j x y hx hy hij b hb hb' => ?_) (fun k x hx => ?_)
  · match k, hx with
    | 0, hx => cases hx; exact (At_of rfl).2 h1
    | 1, hx => cases hx; exact (At_of rfl).2 h2
    | 2, hx => cases hx; exact (At_of rfl).2 h3
  · match i, j, hx, hy with
    | 0, 1, hx, hy => cases hx; cases hy; exact d1 ((show b = rb from hb).symm.trans hb')
    | 0, 2, hx, hy => cases hx; cases hy; exact d2 ((show b = rb from hb).symm.trans hb')
    | 1, 2, hx, hy => cases hx; cases hy; exact d3 ((show b = d.ib from hb).symm.trans hb')
    | 0, 0, _, _ => omega
    | 1, 1, _, _ => omega
    | 2, 2, _, _ => omega
    | 1, 0, _, _ => omega
    | 2, 0, _, _ => omega
    | 2, 1, _, _ => omega
  · match k, hx with
    | 0, hx => cases hx; rfl
    | 1, hx => cases hx; rfl
    | 2, hx => cases hx; rfl
theorem desc_resD {β1 : Nat → Nat} {M1 : Mm} {w : World} (hR : Rel G β1 M1 w) {kr ki kb : Nat} (hri : kr ≠ ki) (hrb : kr ≠ kb) (hib : ki ≠ kb) {d : QuD} (h0 : M1[kr]? = some ⟨true, .row [.w32 d.a, .i d.z, .s d.rd, .rs ki 0 0 1 d.n d.n, .sl kb 0 d.n d.n, .b d.he, .i d.e, .b d.ed]⟩) (h1 : M1[ki]? = some ⟨true, .recs none fUb [] d.l⟩) (h2 : M1[kb]? = some ⟨true, .a8 d.m⟩) : RIn (stD (β1 kr) { d with ib := β1 ki, bb := β1 kb }).objs w ∧ ∀ i ∈ (stD (β1 kr) { d with ib := β1 ki, bb := β1 kb }).objs.map (·.1), rwset β1 M1 i := by
  have a0 := (At_of rfl).1 (hR.all kr _ h0 rfl)
  have a1 := (At_of rfl).1 (hR.all ki _ h1 rfl)
  have a2 := (At_of rfl).1 (hR.all kb _ h2 rfl)
  have d01 : β1 kr ≠ β1 ki := fun e => hR.dis kr ki _ _ h0 h1 hri rfl rfl rfl (β1 kr) rfl e
  have d02 : β1 kr ≠ β1 kb := fun e => hR.dis kr kb _ _ h0 h2 hrb rfl rfl rfl (β1 kr) rfl e
  have d12 : β1 ki ≠ β1 kb := fun e => hR.dis ki kb _ _ h1 h2 hib rfl rfl rfl (β1 ki) rfl e
  refine ⟨⟨fun x hx => ?_, ?_⟩, fun i hi => ?_⟩
  · rw [objs_D] at hx
    unfold QuD.objs at hx
    simp only [List.mem_cons, List.not_mem_nil, or_false] at hx
    rcases hx with rfl | rfl | rfl
    · exact a0
    · exact a1
    · exact a2
  · rw [objs_D]
    unfold QuD.objs
    simp [d01, d02, d12]
  · rw [objs_memD] at hi
    rcases hi with e | e | e
    · exact ⟨kr, _, h0, rfl, e⟩
    · exact ⟨ki, _, h1, rfl, e⟩
    · exact ⟨kb, _, h2, rfl, e⟩
theorem dq_b {d : QuD} {q : Qa} (h : DQ d q) (ib bb : Nat) : DQ { d with ib := ib, bb := bb } q := ⟨h.ok, h.a, h.z, h.ed, h.rd, h.n, h.lm, h.he, h.e⟩
theorem DQ.uniq {d : QuD} {q q' : Qa} (h : DQ d q) (h' : DQ d q') : q = q' := by
  have ea : q.a = q'.a := h.a.symm.trans h'.a
  have ez : q.z = q'.z := by have := h.z.symm.trans h'.z; omega
  have eed : q.ed = q'.ed := h.ed.symm.trans h'.ed
  have erd : q.rd = q'.rd := h.rd.symm.trans h'.rd
  have hn := h.n
  have hn' := h'.n
  have ef : q.f = q'.f := funext fun j => by
    rcases Nat.lt_or_ge j d.n with g | g
    · have i1 := h.lm.is j g
      have i2 := h'.lm.is j g
      have b1 := h.lm.by' j g
      have b2 := h'.lm.by' j g
      cases h1 : q.f j with
      | none =>
        rw [h1] at i1
        cases h2 : q'.f j with
        | none => rfl
        | some y => rw [h2] at i2; rw [i1] at i2; cases i2
      | some y =>
        rw [h1] at i1 b1
        cases h2 : q'.f j with
        | none => rw [h2] at i2; rw [i1] at i2; cases i2
        | some y' =>
          rw [h2] at b2
          have := (b1 rfl).symm.trans (b2 rfl)
          exact congrArg some this
    · have w1 : q.win = q.z - q.rd.length := rfl
      have w2 : q'.win = q'.z - q'.rd.length := rfl
      rw [h.ok.fw j (by omega), h'.ok.fw j (by omega)]
  have ee : q.e = q'.e := by
    cases hd : q.ed
    · have hd' : q'.ed = false := eed.symm.trans hd
      have i1 := h.he hd
      have i2 := h'.he hd'
      have b1 := h.e hd
      have b2 := h'.e hd'
      cases h1 : q.e with
      | none =>
        rw [h1] at i1
        cases h2 : q'.e with
        | none => rfl
        | some y => rw [h2] at i2; rw [i1] at i2; cases i2
      | some y =>
        rw [h1] at i1
        cases h2 : q'.e with
        | none => rw [h2] at i2; rw [i1] at i2; cases i2
        | some y' =>
          have := (b1 y h1).symm.trans (b2 y' h2)
          congr 1; omega
    · rw [h.ok.ne hd, h'.ok.ne (eed.symm.trans hd)]
  obtain ⟨a, z, rd, f, e, ed⟩ := q
  obtain ⟨a', z', rd', f', e', ed'⟩ := q'
  simp only at ea ez eed erd ef ee
  subst ea ez eed erd ef ee
  rfl
theorem putD_at {M : Mm} {k rb : Nat} {d : QuD} {q : Qa} {c : Nat} (hk : M[k]? = some ⟨true, .res (stD rb d)⟩) (h : DQ d q) (hb : EB d c) (hc : c ≤ 1000000) (sq : BitVec 32) (dd : Tx) (fin : Bool) (hl : dd.length ≤ 65536) {K : SV → Mm → Prop} (hK : ∀ d', DQ d' (q.put sq dd fin) → (∀ c, EB d c → EB d' (c + 1)) → K (.b (q.moved sq dd fin)) (M.set k ⟨true, .res (stD rb d')⟩)) : Spec Try.prog G 19 [.ptr k 0, .w32 sq, .s dd, .b fin] M K :=
  res_pack hk rfl (m0d_len d) (fun b hb => rw0d hb) (fun w hw => rel0d hw) (putD_sp h hb hc sq dd fin hl) rfl fun r M1 hQ => by
    obtain ⟨rfl, d', rfl, hp, he⟩ := hQ
    refine ⟨rfl, fun β1 w' hR1 hb => ?_⟩
    obtain ⟨g1, g2⟩ := desc_resD hR1 (kr := 0) (ki := 1) (kb := 2) (by omega) (by omega) (by omega) (d := d') rfl rfl rfl
    have hb : β1 0 = rb := hb
    rw [hb] at g1 g2
    exact ⟨stD rb { d' with ib := β1 1, bb := β1 2 }, rfl, g1, g2, hK _ (dq_b hp _ _) he⟩
theorem readD_at {M : Mm} {k rb : Nat} {d : QuD} {q : Qa} (hk : M[k]? = some ⟨true, .res (stD rb d)⟩) (h : DQ d q) (m : Int) {K : SV → Mm → Prop} (hK : ∀ d', DQ d' (q.read m) → d'.e = d.e → K (.s (q.told m)) (M.set k ⟨true, .res (stD rb d')⟩)) : Spec Try.prog G 17 [.ptr k 0, .i m] M K :=
  res_pack hk rfl (m0d_len d) (fun b hb => rw0d hb) (fun w hw => rel0d hw) (readD_sp h m) rfl fun r M1 hQ => by
    obtain ⟨rfl, d', rfl, hp, he⟩ := hQ
    refine ⟨rfl, fun β1 w' hR1 hb => ?_⟩
    obtain ⟨g1, g2⟩ := desc_resD hR1 (kr := 0) (ki := 1) (kb := 2) (by omega) (by omega) (by omega) (d := d') rfl rfl rfl
    have hb : β1 0 = rb := hb
    rw [hb] at g1 g2
    exact ⟨stD rb { d' with ib := β1 1, bb := β1 2 }, rfl, g1, g2, hK _ (dq_b hp _ _) he⟩
-- contracts
def cPuD : List SV → Mm → (SV → Mm → Prop) → Prop
  | [.ptr k 0, .w32 sq, .s dd, .b fin], M, K => match (M[k]? : Option Ent) with
    | some ⟨true, .res ⟨rb, 0, [], true, none, .dc d⟩⟩ => (∃ q c, DQ d q ∧ EB d c ∧ c ≤ 1000000 ∧ dd.length ≤ 65536) ∧ ∀ q d', DQ d q → DQ d' (q.put sq dd fin) → (∀ c, EB d c → EB d' (c + 1)) → setK M k ⟨true, .res (stD rb d')⟩ fun M2 => K (.b (q.moved sq dd fin)) M2
    | _ => False
  | _, _, _ => False
def cRdD : List SV → Mm → (SV → Mm → Prop) → Prop
  | [.ptr k 0, .i m], M, K => match (M[k]? : Option Ent) with
    | some ⟨true, .res ⟨rb, 0, [], true, none, .dc d⟩⟩ => (∃ q, DQ d q) ∧ ∀ q d', DQ d q → DQ d' (q.read m) → d'.e = d.e → setK M k ⟨true, .res (stD rb d')⟩ fun M2 => K (.s (q.told m)) M2
    | _ => False
  | _, _, _ => False
def cNwD : List SV → Mm → (SV → Mm → Prop) → Prop
  | [.w32 x, .i w], M, K => (1 ≤ w ∧ w ≤ 65536) ∧ ∀ rb d, DQ d (newA x w.toNat) → EB d 0 → snocK M ⟨true, .res (stD rb d)⟩ fun M2 => K (.ptr M.length 0) M2
  | _, _, _ => False
theorem puD_cok : COk Try.prog G 19 cPuD := by
  intro args M K h
  unfold cPuD at h
  split at h
  · rename_i k sq dd fin
    split at h
    · rename_i rb d hk
      obtain ⟨⟨q, c, hq, hb, hc, hl⟩, hK⟩ := h
      exact putD_at hk hq hb hc sq dd fin hl fun d' hd' he => (by
        have := hK q d' hq hd' he
        rw [setK_eq] at this; exact this)
    · exact h.elim
  · exact h.elim
theorem rdD_cok : COk Try.prog G 17 cRdD := by
  intro args M K h
  unfold cRdD at h
  split at h
  · rename_i k m
    split at h
    · rename_i rb d hk
      obtain ⟨⟨q, hq⟩, hK⟩ := h
      exact readD_at hk hq m fun d' hd' he => (by
        have := hK q d' hq hd' he
        rw [setK_eq] at this; exact this)
    · exact h.elim
  · exact h.elim
def newD0 (x : BitVec 32) (w : Int) (ib bb : Nat) : QuD := ⟨ib, bb, x, w, 0, false, false, [], (w + 1).toNat, List.replicate (w + 1).toNat (rz fUb), List.replicate (w + 1).toNat 0⟩
theorem newD0_ok (x : BitVec 32) (w : Int) (ib bb : Nat) (h1 : 1 ≤ w) (h2 : w ≤ 65536) : DQ (newD0 x w ib bb) (newA x w.toNat) := by
  refine ⟨newA_ok x w.toNat (by omega) (by omega), rfl, by show w = ((w.toNat : Nat) : Int); omega, rfl, rfl, by show (w + 1).toNat = w.toNat + 1; omega, ⟨by show (List.replicate _ _).length = _; simp [newD0], by show (List.replicate _ _).length = _; simp [newD0], fun j hj => ?_, fun j hj hs => (by cases hs)⟩, fun _ => rfl, fun _ E hE => (by cases hE)⟩
  show isB (List.replicate (w + 1).toNat (rz fUb)) j = false
  unfold isB
  rw [List.getD_eq_getElem?_getD, List.getElem?_replicate]
  split <;> rfl
theorem nwD_cok : COk Try.prog G 15 cNwD := by
  intro args M K h
  unfold cNwD at h
  split at h
  · rename_i x w
    obtain ⟨⟨h1, h2⟩, hK⟩ := h
    have hI : inI (w + 1) = true := inI_iff.2 (by omega)
    have hi : (ile 0 (w + 1) && ile (w + 1) (w + 1) && ile (w + 1) 140737488355328) = true := by
      rw [ile_eq, ile_eq, ile_eq, decide_eq_true (by omega), decide_eq_true (by omega), decide_eq_true (by omega)]; rfl
    refine res_new (Q := fun r M1 => r = .ptr 9 0 ∧ M1[9]? = some ⟨true, .row [.w32 x, .i w, .s [], .rs 4 0 0 1 (w + 1).toNat (w + 1).toNat, .sl 7 0 (w + 1).toNat (w + 1).toNat, .b false, .i 0, .b false]⟩ ∧ M1[4]? = some ⟨true, .recs none fUb [] (List.replicate (w + 1).toNat (rz fUb))⟩ ∧ M1[7]? = some ⟨true, .a8 (List.replicate (w + 1).toNat 0)⟩) (vf_ok e0_ok mixed (noL_ok _ _ _ _) (of_eq (vNwD x w _) (bif_of hI (bif_of hi (bif_of hI (bif_of hi ⟨rfl, rfl, rfl, rfl⟩)))))) rfl fun r M1 hr => ?_
    obtain ⟨rfl, m9, m4, m7⟩ := hr
    refine .inr ⟨9, [], .inr rfl, fun β1 w' hR1 => ?_⟩
    obtain ⟨g1, g2⟩ := desc_resD hR1 (kr := 9) (ki := 4) (kb := 7) (by omega) (by omega) (by omega) (d := newD0 x w 0 0) m9 m4 m7
    refine ⟨stD (β1 9) (newD0 x w (β1 4) (β1 7)), rfl, g1, g2, fun _ => ?_, fun q => (by cases q)⟩
    have := hK (β1 9) (newD0 x w (β1 4) (β1 7)) (newD0_ok x w _ _ h1 h2) ⟨by show -(65537 * ((0 : Nat) : Int)) ≤ 0; omega, by show (0 : Int) ≤ 65537; omega⟩
    rw [snocK_eq] at this
    exact this
  · exact h.elim
-- what is read
def rdrD (g : QuD → Bool × SV) : List SV → List Cont → Option (Bool × SV)
  | [.ptr _ 0], [.res ⟨_, 0, [], true, none, .dc d⟩] => some (g d)
  | _, _ => none
def gWdD (d : QuD) : Bool × SV := (inI (d.z - (d.rd.length : Nat)), .i (winT d.z d.ed d.rd.length))
def gHeD (d : QuD) : Bool × SV := (Nat.beq d.l.length d.n && Nat.ble d.n 4294967296, .i ((hdN d.l d.n : Nat) : Int))
theorem rdrD_in {g : QuD → Bool × SV} {args : List SV} {acs : List Cont} {r : SV} (h : rdrD g args acs = some (true, r)) : ∃ k rb d, args = [.ptr k 0] ∧ acs = [.res (stD rb d)] ∧ (g d).1 = true ∧ r = (g d).2 := by
  unfold rdrD at h
  split at h
  · rename_i k rb d
    exact ⟨k, rb, d, rfl, rfl, by rw [Option.some.inj h], by rw [Option.some.inj h]⟩
  · cases h
theorem row_D {β : Nat → Nat} {M : Mm} {w : World} (hR : Rel G β M w) {k rb : Nat} {d : QuD} (ht : tgt M (.ptr k 0) = .res (stD rb d)) : β k = rb ∧ Holds w rb true [c32 d.a, .int .i64 d.z, .string (txt d.rd), .slice (some ⟨d.ib, 0, none⟩) d.n d.n, .slice (some ⟨d.bb, 0, none⟩) d.n d.n, .bool d.he, .int .i64 d.e, .bool d.ed] none ∧ Holds w d.ib true (rows [.b] d.l) none := by
  obtain ⟨rw0, hM⟩ := tgt_ptr ht rfl
  obtain ⟨hb, hRi⟩ := hR.at_res hM
  have ha := hRi.all
  rw [objs_D] at ha
  exact ⟨hb, ha (rb, _) (List.mem_cons_self ..), ha (d.ib, .cells (rows [.b] d.l) none) (List.mem_cons_of_mem _ (List.mem_cons_self ..))⟩
theorem wdD_pok : POk Try.prog G 22 (rdrD gWdD) := by
  intro args acs r h β M w hR hwf hacs
  obtain ⟨k, rb, d, rfl, hac, h1, rfl⟩ := rdrD_in h
  obtain ⟨hb, hrow, -⟩ := row_D hR (by rw [hac] at hacs; exact (List.cons.inj hacs).1.symm)
  refine small_pure (b0 := fun _ => rb) (R := mDw d.a d.z d.e d.he d.ed d.rd (.slice (some ⟨d.ib, 0, none⟩) d.n d.n) (.slice (some ⟨d.bb, 0, none⟩) d.n d.n)) (fun i e hi => ?_) (by show [Value.pointer (some ⟨β k, 0, none⟩)] = [Value.pointer (some ⟨rb, 0, none⟩)]; rw [hb]) rfl rfl (vf_ok e0_ok mixed (noL_ok _ _ _ _) (of_eq (vWdD d.a d.z d.e d.he d.ed d.rd _ _ _) ?_))
  · match i, hi with
    | 0, hi =>
      cases hi
      refine ⟨rfl, rfl, ?_⟩
      exact At.weak (r := true) (c := .row [.w32 d.a, .i d.z, .s d.rd, .v (.slice (some ⟨d.ib, 0, none⟩) d.n d.n), .v (.slice (some ⟨d.bb, 0, none⟩) d.n d.n), .b d.he, .i d.e, .b d.ed]) hrow (fun q => by cases q)
  · rw [show inI (d.z - ((d.rd.length : Nat) : Int)) = true from h1]
    unfold gWdD winT
    cases d.ed <;> rfl
theorem loopHe (a : BitVec 32) (z e : Int) (he ed : Bool) (rd : List (BitVec 8)) (n : Nat) (s2 : Value) (l : List Ub) (hl : l.length = n) (hn : n ≤ 4294967296) : LOk Try.prog G (mDh a z e he ed rd n s2 l) 25 (LHe a z e he ed rd n s2 l (hdN l n)) := by
  refine LT.add_ok (noL_ok _ _ _ _) (loop_next e0_ok mixed (noL_ok _ _ _ _) (Nat.zero_le _) (by kernel_rfl) (fun i => iHd (hdN l i) i) (fun _ => mDh a z e he ed rd n s2 l) (fun i => i ≤ n) (fun i => n - i) (fun i => i + 1) 0 (Nat.zero_le _) (fun i hp => of_eq (rHe a z e he ed rd n s2 l (hdN l i) (hdN l (i + 1)) (hdN l n) i _) ?_))
  have hle := hdN_le l i
  rcases bTF (ilt (i : Int) (n : Int)) with hc | hc
  · have hi : i < n := by have := of_ilt hc; omega
    refine bifT hc (bif_of (inRn hi) (bif_of (rok1 (by omega)) ?_))
    rcases bTF (isB l i) with hb | hb
    · refine bifT hb (bif_of (inI_iff.2 (by omega)) (bif_of (inI_iff.2 (by omega)) ⟨⟨hi, by show n - (i + 1) < n - i; omega⟩, rfl, congrArg SV.i ?_, rfl, ⟨rfl, rfl⟩, ⟨rfl, rfl⟩, trivial⟩))
      conv => rhs; unfold hdN
      rw [hb]; rfl
    · refine bifF hb (bif_of (inI_iff.2 (by omega)) ⟨⟨hi, by show n - (i + 1) < n - i; omega⟩, rfl, congrArg SV.i ?_, rfl, ⟨rfl, rfl⟩, ⟨rfl, rfl⟩, trivial⟩)
      conv => rhs; unfold hdN
      rw [hb]; rfl
  · have hi : i = n := by
      have := of_nilt hc
      replace hp : i ≤ n := hp
      omega
    subst hi
    exact bifF hc ⟨rfl, rfl, ⟨rfl, rfl⟩, ⟨rfl, rfl⟩, trivial⟩
theorem heD_pok : POk Try.prog G 25 (rdrD gHeD) := by
  intro args acs r h β M w hR hwf hacs
  obtain ⟨k, rb, d, rfl, hac, h1, rfl⟩ := rdrD_in h
  obtain ⟨hb, hrow, hrec⟩ := row_D hR (by rw [hac] at hacs; exact (List.cons.inj hacs).1.symm)
  simp only [gHeD, Bool.and_eq_true, Nat.ble_eq] at h1
  obtain ⟨h1, h2⟩ := h1
  have h1 := Nat.eq_of_beq_eq_true h1
  refine small_pure (b0 := fun i => if i = 0 then rb else d.ib) (R := mDh d.a d.z d.e d.he d.ed d.rd d.n (.slice (some ⟨d.bb, 0, none⟩) d.n d.n) d.l) (fun i e hi => ?_) (by show [Value.pointer (some ⟨β k, 0, none⟩)] = [Value.pointer (some ⟨rb, 0, none⟩)]; rw [hb]) rfl rfl (vf_ok e0_ok mixed (loopHe d.a d.z d.e d.he d.ed d.rd d.n _ d.l h1 h2) (of_eq (vHe d.a d.z d.e d.he d.ed d.rd d.n _ d.l (hdN d.l d.n) _) ⟨rfl, rfl, rfl, rfl, ⟨rfl, rfl⟩, ⟨rfl, rfl⟩, rfl⟩))
  match i, hi with
  | 0, hi =>
    cases hi
    refine ⟨rfl, rfl, ?_⟩
    exact At.weak (r := true) (c := .row [.w32 d.a, .i d.z, .s d.rd, .rs 1 0 0 1 d.n d.n, .v (.slice (some ⟨d.bb, 0, none⟩) d.n d.n), .b d.he, .i d.e, .b d.ed]) ((At_of rfl).2 hrow) (fun q => by cases q)
  | 1, hi =>
    cases hi
    refine ⟨rfl, rfl, ?_⟩
    exact At.weak (r := true) (c := .recs none fUb [] d.l) ((At_of rfl).2 hrec) (fun q => by cases q)
theorem DQ.held {d : QuD} {q : Qa} (h : DQ d q) : hdN d.l d.n = q.held := by
  have hn := h.n
  have h1 : ∀ i, i ≤ d.n → hdN d.l i = heldA q.f i := fun i => by
    induction i with
    | zero => intro _; rfl
    | succ i ih =>
      intro hi
      unfold hdN heldA
      rw [ih (by omega), h.lm.is i (by omega)]
      cases (q.f i).isSome <;> rfl
  rw [h1 d.n (Nat.le_refl _)]
  have w1 : q.win = q.z - q.rd.length := rfl
  exact heldA_ge (by omega) h.ok.fw
end Go.Proofs.Ytkjfecdpakhggaa
