/-
  A reckoner of conditions: records, as the model runs what is made of them. No statement is proved here.
-/
import Derived.Test.YtkjfecdpakhggaaVcH
namespace Go.Proofs.Ytkjfecdpakhggaa
open Go.RowKit
set_option linter.unusedVariables false
set_option linter.unusedSimpArgs false

section
variable {P : Program} {w : World} (β : Nat → Nat)
theorem fkZ_ok {v : Value} {k : Fk} (h : fkZ v = some k) : v = k.v k.z := by
  have key : ∀ (b : Bool) (x y : Fk), (bif b then some x else none) = some y → b = true ∧ x = y := fun b x y h => by cases b <;> simp at h; exact ⟨rfl, h⟩
  unfold fkZ at h
  split at h
  all_goals first
    | (obtain ⟨h0, rfl⟩ := key _ _ _ h
       obtain rfl := eq_of_beq h0
       rfl)
    | skip
  · rename_i s
    obtain ⟨h0, rfl⟩ := key _ _ _ h
    have : s = ByteArray.empty := ByteArray.size_eq_zero_iff.1 (eq_of_beq h0)
    subst this
    rfl
  · rename_i t
    cases t
    · simp at h; subst h; rfl
    · cases h
  · cases h
theorem fksZ_ok : ∀ {l : List Value} {fs : List Fk}, fksZ l = some fs → l = rvs fs (rz fs)
  | [], fs, h => by cases h; rfl
  | v :: l, fs, h => by
    unfold fksZ at h
    split at h
    · rename_i k m hk hm
      obtain rfl := Option.some.inj h
      show v :: l = k.v k.z :: rvs m (rz m)
      rw [← fkZ_ok hk, ← fksZ_ok hm]
    · cases h
theorem fksOf_ok {t : Nat} {fs : List Fk} (h : fksOf P t = some fs) : ∃ i, P.info? t = some i ∧ i.zero = some (.agg (rvs fs (rz fs)).toArray) ∧ i.size = fs.length := by
  unfold fksOf at h
  split at h
  · rename_i i hi
    split at h
    · rename_i cs hz
      cases hb : Nat.beq i.size cs.size
      · rw [hb] at h; cases h
      · rw [hb] at h
        have e := fksZ_ok h
        have hl : cs.size = fs.length := by rw [← Array.length_toList, e, rvs_len]
        refine ⟨i, hi, ?_, (Nat.eq_of_beq_eq_true hb).trans hl⟩
        rw [hz, ← e]
    · cases h
  · cases h
theorem rok_iff {base idx sz m : Nat} {fs : List Fk} {pre : List Value} : rok base idx sz fs pre m = true ↔ sz = fs.length ∧ 0 < sz ∧ pre.length ≤ base ∧ (base - pre.length) % sz = 0 ∧ idx + (base - pre.length) / sz < m := by
  unfold rok
  simp only [Bool.and_eq_true, Nat.blt_eq, Nat.beq_eq, Nat.ble_eq]
theorem rix_eq {base idx sz n : Nat} (h0 : n ≤ base) (h1 : (base - n) % sz = 0) : base + idx * sz = n + (idx + (base - n) / sz) * sz := by
  have := Nat.div_add_mod (base - n) sz
  rw [h1, Nat.add_zero, Nat.mul_comm] at this
  rw [Nat.add_mul, this]; omega
/-- Where a record stands, its cells stand. -/
theorem rec_cells {w : World} {b base idx sz : Nat} {rw : Bool} {fs : List Fk} {pre : List Value} {l : List (Rc fs)} {sh : Option (Nat × Nat)} (h : Holds w b rw (pre ++ rows fs l) sh) (hr : rok base idx sz fs pre l.length = true) : w.rangeAt b (base + idx * sz) (rvs fs (l.getD (idx + (base - pre.length) / sz) (rz fs))) := by
  obtain ⟨h1, h2, h3, h4, h5⟩ := rok_iff.1 hr
  rw [rix_eq (idx := idx) h3 h4]
  subst h1
  have := sub_range (off := pre.length + (idx + (base - pre.length) / fs.length) * fs.length) (n := fs.length) h
  rw [List.drop_append, List.drop_eq_nil_of_le (by omega), List.nil_append, Nat.add_sub_cancel_left, rows_get fs l _ h5] at this
  exact this
theorem range_sub {w : World} {b o n j : Nat} {cs : List Value} (h : w.rangeAt b o cs) : w.rangeAt b (o + j) ((cs.drop j).take n) := fun i v hv => by
  have hi : i < n := by
    rcases Nat.lt_or_ge i n with q | q
    · exact q
    · rw [List.getElem?_eq_none (by simp; omega)] at hv; cases hv
  rw [List.getElem?_take_of_lt hi, List.getElem?_drop] at hv
  rw [Nat.add_assoc]
  exact h (j + i) v hv
theorem qloadR_ok {t k base idx sz j : Nat} {ty : Option Nat} {fs : List Fk} {pre : List Value} {l : List (Rc fs)} {r : SV} (hc : AtC β w (.pe k base idx sz j) (.recs ty fs pre l)) (hq : qloadR P t base idx sz j fs pre l = .ok true r) : (Instr.loadAt t (val β (.pe k base idx sz j))).run P w = .ok (val β r) w := by
  obtain ⟨rw, hh⟩ := hc rfl
  unfold qloadR at hq
  generalize hkp : (known P t && Nat.blt 0 (sizeT P t)) = kp at hq
  cases kp
  · cases hq
  · simp only [Bool.and_eq_true] at hkp
    obtain ⟨hk, hp⟩ := hkp
    simp only [cond_true] at hq
    cases hr : isRowT P t <;> rw [hr] at hq
    · simp only [cond_false] at hq
      split at hq
      · rename_i x hx
        simp only [QR.ok.injEq] at hq
        obtain ⟨hb, rfl⟩ := hq
        have hcell := rec_cells hh hb
        refine load_cell hr hk ?_
        refine hcell j _ ?_
        rw [← rcs_val β, vals_map, List.getElem?_map, hx]; rfl
      · cases hq
    · simp only [cond_true, QR.ok.injEq, Bool.and_eq_true] at hq
      obtain ⟨⟨hb, hj⟩, rfl⟩ := hq
      obtain ⟨d, hd, hd2⟩ := isRow_of hr
      have hj := Nat.le_of_ble_eq_true hj
      have h1 := (rok_iff.1 hb).1
      have hcell := range_sub (j := j) (n := sizeT P t) (rec_cells hh hb)
      rw [rowSV_val]
      have e : vals β (((rcs fs (l.getD (idx + (base - pre.length) / sz) (rz fs))).drop j).take (sizeT P t)) = ((rvs fs (l.getD (idx + (base - pre.length) / sz) (rz fs))).drop j).take (sizeT P t) := by
        rw [← rcs_val β]; simp [vals_map]
      rw [e]
      exact run_loadAt_mid (P := P) w (β k) (base + idx * sz + j) t _ d hcell hd hd2 (by rw [List.length_take, List.length_drop, rvs_len, ← h1, Nat.min_eq_left (by omega)]; exact size_of (by simp) (blt_lt hp))
theorem also_ok {b : Bool} {q : QR} {r : SV} (h : also b q = .ok true r) : b = true ∧ q = .ok true r := by
  unfold also at h
  split at h
  · simp only [QR.ok.injEq, Bool.and_eq_true] at h
    obtain ⟨⟨h1, h2⟩, rfl⟩ := h
    exact ⟨h1, by rw [h2]⟩
  · cases h
theorem also_new {b t : Bool} {q : QR} {r : SV} {x : Cont} (h : also b q = .new t r x) : False := by
  unfold also at h
  split at h <;> cases h
theorem qloadN_ok {t k base idx sz j : Nat} {b : Bool} {ty : Nat} {fs : List Fk} {l : List (Rc fs)} {r : SV} (hc : AtC β w (.pe k base idx sz j) (.nrec b ty fs l)) (hq : also (!b) (qloadR P t base idx sz j fs [] l) = .ok true r) : (Instr.loadAt t (val β (.pe k base idx sz j))).run P w = .ok (val β r) w := by
  obtain ⟨hb, hq⟩ := also_ok hq
  refine qloadR_ok β (ty := some ty) (fun _ => ?_) hq
  obtain ⟨rw, hh⟩ := hc hb
  refine ⟨rw, ?_⟩
  show Holds w (β k) rw _ (Cont.recs (some ty) fs [] l).shp
  have e : (Cont.recs (some ty) fs [] l).shp = (Cont.nrec b ty fs l).shp := by simp [Cont.shp]
  rw [e]
  exact hh
theorem qfieldR_ok {t f k base idx sz j : Nat} {r : SV} (hq : qfieldR P t f k base idx sz j = .ok true r) : (Instr.fieldAt t (val β (.pe k base idx sz j)) f).run P w = .ok (val β r) w := by
  unfold qfieldR at hq
  split at hq
  · rename_i fs hu
    split at hq
    · rename_i d hd
      simp only [QR.ok.injEq] at hq
      obtain ⟨hb, rfl⟩ := hq
      have hb := blt_lt hb
      unfold sizeT at hb
      cases hi : P.info? d.type with
      | none => rw [hi] at hb; simp at hb
      | some i =>
        rw [hi] at hb
        have hne : ¬ i.size = 0 := by simp at hb; omega
        show (Instr.fieldAt t (.pointer (some ⟨β k, base + idx * sz + j, none⟩)) f).run P w = _
        simp [Instr.fieldAt, run_underlying hu, hd, Instr.sureAddr, fieldPlace, sizeOf, typeInfo, hi, hne, Addr.add_mid, val, Nat.add_assoc]
    · cases hq
  · cases hq
theorem size_is {t n : Nat} (h : Nat.beq (sizeT P t) n = true) (h0 : Nat.blt 0 n = true) : ∃ i, P.info? t = some i ∧ i.size = n := by
  have h := Nat.eq_of_beq_eq_true h
  have h0 := blt_lt h0
  unfold sizeT at h
  cases hi : P.info? t with
  | none => rw [hi] at h; simp at h; omega
  | some i => rw [hi] at h; exact ⟨i, rfl, by simpa using h⟩
theorem qixR_ok {t k base eo sz len cap : Nat} {y r : SV} (hq : qixR P t k base eo sz len y = .ok true r) : (Instr.indexAt t (val β (.rs k base eo sz len cap)) (val β y)).run P w = .ok (val β r) w := by
  unfold qixR at hq
  split at hq
  · rename_i z e hz hu
    obtain ⟨kk, hv⟩ := iof_ok β hz
    simp only [QR.ok.injEq, Bool.and_eq_true] at hq
    obtain ⟨⟨hs, h0', hb⟩, rfl⟩ := hq
    obtain ⟨h0, h1⟩ := inR_iff.1 hb
    obtain ⟨i, hi, hi1⟩ := size_is hs h0'
    rw [hv]
    show (Instr.indexAt t (.slice (some ⟨β k, base + eo * sz, none⟩) len cap) (.int kk z)).run P w = _
    have e : base + eo * sz + z.toNat * sz = base + (z.toNat + eo) * sz := by rw [Nat.add_mul]; omega
    simp [Instr.indexAt, asIntOf, run_underlying hu, h0, h1, sizeOf, typeInfo, hi, hi1, Addr.add_mid, val, e]
  · cases hq
theorem qixN_ok {t k sz len cap : Nat} {b : Bool} {y r : SV} (hq : also (!b) (qixR P t k 0 0 sz len y) = .ok true r) : (Instr.indexAt t (val β (.ns b k sz len cap)) (val β y)).run P w = .ok (val β r) w := by
  obtain ⟨hb, hq⟩ := also_ok hq
  have := qixR_ok (P := P) (w := w) β (cap := cap) hq
  have e : val β (.ns b k sz len cap) = val β (.rs k 0 0 sz len cap) := by
    cases b
    · simp [val]
    · cases hb
  rw [e]
  exact this
theorem qsliceR_ok {t k base eo sz len cap : Nat} {lo hi : Option SV} {r : SV} (hq : qsliceR P t k base eo sz len cap lo hi = .ok true r) : (Instr.sliceAt t (val β (.rs k base eo sz len cap)) (lo.map (val β)) (hi.map (val β)) none).run P w = .ok (val β r) w := by
  unfold qsliceR at hq
  split at hq
  · rename_i e a b hu ha hb
    split at hq
    · simp only [QR.ok.injEq, Bool.and_eq_true, ile_eq, decide_eq_true_eq] at hq
      obtain ⟨⟨hs, hz, ⟨h0, h1⟩, h2⟩, rfl⟩ := hq
      obtain ⟨i, hi, hi1⟩ := size_is hs hz
      have := bounds_ok (P := P) (w := w) β (isS := true) ha hb h0 h1 h2
      simp only [Option.map_some, Option.map_none] at this
      show (Instr.sliceAt t (.slice (some ⟨β k, base + eo * sz, none⟩) len cap) _ _ _).run P w = _
      cases hc : ilt a (cap : Int)
      · have hne : cap = a.toNat := by rw [ilt_eq] at hc; have := of_decide_eq_false hc; omega
        have hb' : b.toNat - a.toNat = 0 := by omega
        simp [Instr.sliceAt, run_underlying hu, Instr.slice, this, sizeOf, typeInfo, hi, hi1, ← hne, val]
      · have hne : ¬ cap = a.toNat := by rw [ilt_eq] at hc; have := of_decide_eq_true hc; omega
        have e : base + eo * sz + a.toNat * sz = base + (a.toNat + eo) * sz := by rw [Nat.add_mul]; omega
        simp [Instr.sliceAt, run_underlying hu, Instr.slice, this, sizeOf, typeInfo, hi, hi1, hne, Addr.add_mid, val, e]
    · simp only [QR.ok.injEq, Bool.and_eq_true, ile_eq, decide_eq_true_eq] at hq
      obtain ⟨⟨hs, hz, h1, h2⟩, rfl⟩ := hq
      obtain ⟨i, hi, hi1⟩ := size_is hs hz
      have ha' : a = 0 := (Option.some.inj ha).symm
      subst ha'
      have := bounds_ok (P := P) (w := w) β (isS := true) ha hb (by omega) h1 h2
      simp only [Option.map_none] at this
      show (Instr.sliceAt t (.slice (some ⟨β k, base + eo * sz, none⟩) len cap) _ _ _).run P w = _
      have h00 : (0 : Int).toNat = 0 := rfl
      rw [h00] at this
      by_cases hcap : cap = 0
      · subst hcap
        simp [Instr.sliceAt, run_underlying hu, Instr.slice, this, sizeOf, typeInfo, hi, hi1, val]
      · simp [Instr.sliceAt, run_underlying hu, Instr.slice, this, sizeOf, typeInfo, hi, hi1, hcap, Addr.add_mid, val]
    · simp only [QR.ok.injEq, Bool.and_eq_true, ile_eq, ilt_eq, decide_eq_true_eq] at hq
      obtain ⟨⟨hs, hz, ⟨⟨h0, h1⟩, h2⟩, h3⟩, rfl⟩ := hq
      obtain ⟨i, hi, hi1⟩ := size_is hs hz
      have := bounds_ok (P := P) (w := w) β (isS := true) ha hb h0 h1 h2
      have hne : ¬ cap = a.toNat := by omega
      have e : base + eo * sz + a.toNat * sz = base + (a.toNat + eo) * sz := by rw [Nat.add_mul]; omega
      show (Instr.sliceAt t (.slice (some ⟨β k, base + eo * sz, none⟩) len cap) _ _ _).run P w = _
      simp [Instr.sliceAt, run_underlying hu, Instr.slice, this, sizeOf, typeInfo, hi, hi1, hne, Addr.add_mid, val, e]
  · cases hq
theorem qsliceN_ok {t : Nat} {lo hi : Option SV} {r : SV} (hq : qsliceN P t lo hi = .ok true r) : (Instr.sliceAt t (val β (.v (.slice none 0 0))) (lo.map (val β)) (hi.map (val β)) none).run P w = .ok (val β r) w := by
  unfold qsliceN at hq
  split at hq
  · rename_i e a b hu ha hb
    simp only [QR.ok.injEq, Bool.and_eq_true, ile_eq, ilt_eq, decide_eq_true_eq] at hq
    obtain ⟨⟨hs, ⟨⟨h0, h1⟩, h2⟩⟩, rfl⟩ := hq
    obtain ⟨i, hi, hi1⟩ := info_of hs
    have := bounds_ok (P := P) (w := w) β (isS := true) (cap := 0) ha hb h0 h1 h2
    have ha0 : a.toNat = 0 := by omega
    have hb0 : b.toNat = 0 := by omega
    rw [ha0, hb0] at this
    show (Instr.sliceAt t (.slice none 0 0) _ _ _).run P w = _
    simp [Instr.sliceAt, run_underlying hu, Instr.slice, this, sizeOf, typeInfo, hi, val]
  · cases hq
theorem qslR_ok {t : Nat} {x r : SV} {lo hi : Option SV} (hq : qslR P t x lo hi = .ok true r) : (Instr.sliceAt t (val β x) (lo.map (val β)) (hi.map (val β)) none).run P w = .ok (val β r) w := by
  unfold qslR at hq
  split at hq
  · exact qsliceR_ok β hq
  · cases hb : recT P t <;> rw [hb] at hq
    · cases hq
    · exact qsliceN_ok β hq
  · cases hq
theorem slT_ok {t : Nat} (h : slT P t = true) : ∃ e, P.underlying t = some (.slice e) := by
  unfold slT at h
  split at h
  · exact ⟨_, ‹_›⟩
  · cases h
theorem recT_ok {t : Nat} (h : recT P t = true) : ∃ e, P.underlying t = some (.slice e) := by
  unfold recT at h
  split at h
  · exact ⟨_, ‹_›⟩
  · cases h
-- what is compared
theorem eqint {n : Nat} (a b : BitVec n) : (((a.toNat : Nat) : Int) == ((b.toNat : Nat) : Int)) = (a == b) := by
  rw [Bool.eq_iff_iff]; simp only [beq_iff_eq, Int.ofNat_inj, BitVec.toNat_inj]
theorem eq1_ok {t d : Nat} {x y : SV} {q : Bool} (hk : kindIs P t x = true) (hq : eq1 x y = some q) : (Op.equalIn (d + 1) t (val β x) (val β y)).run P w = .ok q w := by
  unfold kindIs at hk
  split at hk <;> try (cases hk; done)
  all_goals (rename_i hu; cases y <;> simp only [eq1, reduceCtorEq, Option.some.injEq] at hq <;> subst hq)
  · exact (run_equalIn_int w d t .u64 _ _ _ hu).trans (by rw [eqint])
  · exact (run_equalIn_int w d t .u32 _ _ _ hu).trans (by rw [eqint])
  · exact (run_equalIn_int w d t .u16 _ _ _ hu).trans (by rw [eqint])
  · exact (run_equalIn_int w d t .u8 _ _ _ hu).trans (by rw [eqint])
  · exact run_equalIn_int w d t .i64 _ _ _ hu
  · rename_i a b
    refine (run_equalIn_string w d t _ _ hu).trans ?_
    have e : ((txt a).toList == (txt b).toList) = (a == b) := by
      rw [toList_txt, toList_txt, Bool.eq_iff_iff]
      simp only [beq_iff_eq]
      exact ⟨ofBitVec_inj, fun h => by rw [h]⟩
    rw [e]
  · exact run_equalIn_bool' w d t _ _ hu
theorem kind_row {t : Nat} {x : SV} (hk : kindIs P t x = true) : isRowT P t = false ∧ known P t = true := by
  unfold kindIs at hk
  split at hk <;> try (cases hk; done)
  all_goals (rename_i hu; unfold isRowT known; rw [hu]; exact ⟨rfl, rfl⟩)
theorem eqF_ok (d : Nat) (X Y : List SV) : ∀ (fs : List Field) (n : Nat) (a b : List SV) (q : Bool), X.drop n = a → Y.drop n = b → eqF P n fs a b = some q → (Op.eqFields (d + 1) (vals β X).toArray (vals β Y).toArray fs).run P w = .ok q w
  | [], n, [], [], q, _, _, h => by
    simp only [eqF, Option.some.injEq] at h; subst h; rfl
  | [], n, [], _ :: _, q, _, _, h => by simp [eqF] at h
  | [], n, _ :: _, _, q, _, _, h => by simp [eqF] at h
  | f :: fs, n, [], _, q, _, _, h => by simp [eqF] at h
  | f :: fs, n, _ :: _, [], q, _, _, h => by simp [eqF] at h
  | f :: fs, n, x :: a, y :: b, q, ha, hb, h => by
    unfold eqF at h
    generalize hc : (Nat.beq f.offset n && (!(f.name == "_") && kindIs P f.type x)) = c at h
    cases c
    · cases h
    · simp only [Bool.and_eq_true, Bool.not_eq_true', beq_eq_false_iff_ne, ne_eq] at hc
      obtain ⟨ho, hn, hk⟩ := hc
      have ho := Nat.eq_of_beq_eq_true ho
      simp only [cond_true] at h
      split at h
      · rename_i p r h1 h2
        obtain rfl := Option.some.inj h
        obtain ⟨hr, hkn⟩ := kind_row hk
        have gx : X[n]? = some x := by rw [← List.head?_drop, ha]; rfl
        have gy : Y[n]? = some y := by rw [← List.head?_drop, hb]; rfl
        have px : (part f.type (vals β X).toArray f.offset).run P w = .ok (val β x) w := part_one hr hkn (by rw [ho, vals_map, List.getElem?_map, gx]; rfl)
        have py : (part f.type (vals β Y).toArray f.offset).run P w = .ok (val β y) w := part_one hr hkn (by rw [ho, vals_map, List.getElem?_map, gy]; rfl)
        have ih := eqF_ok d X Y fs (n + 1) a b r (by rw [← List.drop_drop, ha]; rfl) (by rw [← List.drop_drop, hb]; rfl) h2
        have pe := eq1_ok (P := P) (w := w) β (d := d) hk h1
        unfold Op.eqFields
        rw [if_pos hn]
        simp only [Sem.run_bind, px, py, pe, Result.andThen_ok]
        cases p
        · simp
        · simp [ih]
      · cases h
theorem bin_eq {op : BinOp} {t : Nat} (xs ys : Array Value) {q : Bool} (h : (Op.equal t (.agg xs) (.agg ys)).run P w = .ok q w) : (binOp .eql t (.agg xs) (.agg ys)).run P w = .ok (.bool q) w ∧ (binOp .neq t (.agg xs) (.agg ys)).run P w = .ok (.bool (!q)) w := by
  constructor
  · show ((do let r ← Op.equal t (.agg xs) (.agg ys); pure (Value.bool r)) : Sem Value).run P w = _
    rw [Sem.run_bind, h]; rfl
  · show ((do let r ← Op.equal t (.agg xs) (.agg ys); pure (Value.bool (!r))) : Sem Value).run P w = _
    rw [Sem.run_bind, h]; rfl
theorem guard_agg (op : BinOp) (t : Nat) (xo yo : Operand) (xs ys : Array Value) (hg : P.eqGuardType P.depth t = false) : (eqGuard op t xo yo (.agg xs) (.agg ys)).run P w = .ok () w := run_eqGuard_agg w op t xo yo xs ys hg
theorem all_range8 : ∀ (xs ys : List (BitVec 8)), xs.length = ys.length → ((List.range xs.length).all fun i => xs.getD i 0 == ys.getD i 0) = (xs == ys)
  | [], [], _ => rfl
  | x :: xs, y :: ys, h => by
    have ih := all_range8 xs ys (by simpa using h)
    rw [List.length_cons, List.range_succ_eq_map, List.all_cons, List.all_map]
    simp only [List.getD_cons_zero, Function.comp_def, List.getD_cons_succ, ih]
    simp [List.cons_beq_cons]
  | [], _ :: _, h => by simp at h
  | _ :: _, [], h => by simp at h
theorem eq_a8 {t e n : Nat} (hu : P.underlying t = some (.array n e)) (he : P.underlying e = some (.int .u8)) {j : TypeInfo} (hj : P.info? e = some j) (hs : j.size = 1) (xs ys : List (BitVec 8)) (hx : xs.length = n) (hy : ys.length = n) : (Op.equal t (.agg (xs.map c8).toArray) (.agg (ys.map c8).toArray)).run P w = .ok (xs == ys) w := by
  have key : ∀ d, (Op.equalIn (d + 2) t (.agg (xs.map c8).toArray) (.agg (ys.map c8).toArray)).run P w = .ok (xs == ys) w := fun d => by
    have hsz : ∀ w, (sizeOf e).run P w = .ok 1 w := fun w => by simp [sizeOf, typeInfo, hj, hs]
    rw [← all_range8 xs ys (hx.trans hy.symm), hx, List.range_eq_range', Op.equalIn]
    simp only [Sem.run_bind, run_underlying hu, Result.andThen_ok, hsz, Std.Legacy.Range.forIn_eq_forIn_range', Std.Legacy.Range.size, Nat.sub_zero, Nat.add_sub_cancel, Nat.div_one]
    have hl : ∀ i ∈ List.range' 0 n 1, i < n := fun i hi => by simpa using (List.mem_range'_1.1 hi).2
    generalize List.range' 0 n 1 = l at hl ⊢
    induction l with
    | nil => simp
    | cons i l ih =>
      have hi : i < n := hl i (by simp)
      have px : (part e (xs.map c8).toArray (i * 1)).run P w = .ok (c8 (xs.getD i 0)) w := by
        simp [part, isAgg, run_underlying he, List.getD, List.getElem?_eq_getElem (show i < xs.length by omega)]
      have py : (part e (ys.map c8).toArray (i * 1)).run P w = .ok (c8 (ys.getD i 0)) w := by
        simp [part, isAgg, run_underlying he, List.getD, List.getElem?_eq_getElem (show i < ys.length by omega)]
      have pe : (Op.equalIn (d + 1) e (c8 (xs.getD i 0)) (c8 (ys.getD i 0))).run P w = .ok (xs.getD i 0 == ys.getD i 0) w := by
        rw [c8, c8, run_equalIn_int w d e .u8 .u8 _ _ he, eqint]
      simp only [List.forIn_cons, Sem.run_bind, px, py, pe, Result.andThen_ok, List.all_cons]
      cases hb : (xs.getD i 0 == ys.getD i 0)
      · simp
      · simp only [Bool.not_true, Bool.false_eq_true, if_false, Sem.run_pure, Result.andThen_ok, Bool.true_and]
        exact ih fun j hj => hl j (by simp [hj])
  exact key 9998
theorem isInt_ok {k : IntKind} {t : Nat} (h : isInt P k t = true) : P.underlying t = some (.int k) := by
  unfold isInt at h
  split at h
  · rename_i k' hu; rw [hu, eq_of_beq h]
  · cases h
theorem qcmpR_ok {t : Nat} {neg : Bool} {xo yo : Operand} {x y r : SV} (hq : qcmpR P t neg [x, y] = .ok true r) : (do eqGuard (bif neg then .neq else .eql) t xo yo (val β x) (val β y); binOp (bif neg then .neq else .eql) t (val β x) (val β y) : Sem Value).run P w = .ok (val β r) w := by
  have key : ∀ (xs ys : Array Value) (q : Bool), val β x = .agg xs → val β y = .agg ys → P.eqGuardType P.depth t = false → (Op.equal t (.agg xs) (.agg ys)).run P w = .ok q w → r = .b (bif neg then !q else q) → (do eqGuard (bif neg then .neq else .eql) t xo yo (val β x) (val β y); binOp (bif neg then .neq else .eql) t (val β x) (val β y) : Sem Value).run P w = .ok (val β r) w := by
    intro xs ys q h1 h2 hg he hr
    rw [h1, h2, Sem.run_bind, guard_agg _ t xo yo xs ys hg, Result.andThen_ok, hr]
    obtain ⟨b1, b2⟩ := bin_eq (op := .eql) xs ys he
    cases neg
    · exact b1
    · exact b2
  unfold qcmpR at hq
  split at hq
  · rename_i a b he
    simp only [List.cons.injEq, and_true] at he
    obtain ⟨rfl, rfl⟩ := he
    unfold qeqR at hq
    split at hq
    · rename_i fs hu
      split at hq
      · rename_i q hf
        simp only [QR.ok.injEq, Bool.and_eq_true, Bool.not_eq_true'] at hq
        obtain ⟨⟨hp, hg⟩, rfl⟩ := hq
        refine key _ _ q rfl rfl hg ?_ rfl
        have hfs : P.fieldsOf t = fs := by unfold Program.fieldsOf; rw [hu]
        have := run_equalIn_struct w 9999 t (vals β a).toArray (vals β b).toArray (by rw [hfs]; exact hu) hp
        rw [hfs] at this
        show (Op.equalIn 10000 t _ _).run P w = _
        exact this.trans (eqF_ok β 9998 a b fs.toList 0 a b q rfl rfl hf)
      · cases hq
    · cases hq
  · rename_i a b he
    simp only [List.cons.injEq, and_true] at he
    obtain ⟨rfl, rfl⟩ := he
    unfold qeq8 at hq
    split at hq
    · rename_i n e hu
      simp only [QR.ok.injEq, Bool.and_eq_true, Bool.not_eq_true'] at hq
      obtain ⟨⟨h1, h2, h3, h4, hg⟩, rfl⟩ := hq
      obtain ⟨i, hi, hi1⟩ := size_one h4
      exact key _ _ (a == b) rfl rfl hg (eq_a8 hu (isInt_ok h3) hi hi1 a b (Nat.eq_of_beq_eq_true h1) (Nat.eq_of_beq_eq_true h2)) rfl
    · cases hq
  · cases hq
-- what is built
theorem unrcs_ok (fs : List Fk) : ∀ {xs : List SV} {l : List (Rc fs)}, unrcs fs xs = some l → l.length = xs.length ∧ (xs.map fun x => (val β x).cells.toList) = l.map (rvs fs)
  | [], l, h => by obtain rfl := Option.some.inj h; exact ⟨rfl, rfl⟩
  | x :: xs, l, h => by
    unfold unrcs at h
    split at h
    · rename_i m hm
      split at h
      · rename_i r rs h1 h2
        obtain rfl := Option.some.inj h
        obtain ⟨h3, h4⟩ := unrcs_ok fs h2
        refine ⟨by simp [h3], ?_⟩
        rw [List.map_cons, List.map_cons, h4, part_ok β hm, unrc_ok h1, rcs_val]
      · cases h
    · cases h
theorem fillR_ok (sz : Nat) : ∀ (vs : List Value) (n : Nat) (cs : Array Value), (∀ v ∈ vs, v.cells.size = sz) → (n + vs.length) * sz ≤ cs.size →
    Instr.fill (fun i => some (i * sz, sz)) cs ((List.range' n vs.length).zip vs) = some (cs.toList.take (n * sz) ++ (vs.map (·.cells.toList)).flatten ++ cs.toList.drop ((n + vs.length) * sz)).toArray
  | [], n, cs, _, _ => by simp [Instr.fill]
  | v :: vs, n, cs, h1, hl => by
    simp only [List.length_cons] at hl
    have hv := h1 v (by simp)
    have e1 : (n + (vs.length + 1)) * sz = (n + 1 + vs.length) * sz := by congr 1; omega
    have e2 : (n + 1) * sz = n * sz + sz := Nat.succ_mul _ _
    have hle : (n + 1) * sz ≤ (n + 1 + vs.length) * sz := Nat.mul_le_mul_right _ (by omega)
    have hput := put_cells (n * sz) v.cells.toList 0 cs (by rw [Nat.add_zero, Array.length_toList, hv]; omega)
    rw [Nat.add_zero, Array.length_toList, hv] at hput
    have hput' : (v.cells.zipIdx.foldl (fun cs (x : Value × Nat) => cs.setIfInBounds (n * sz + x.2) x.1) cs).toList = cs.toList.take (n * sz) ++ v.cells.toList ++ cs.toList.drop (n * sz + sz) := by
      rw [← Array.foldl_toList, Array.toList_zipIdx, hput]
    have hsz : (v.cells.zipIdx.foldl (fun cs (x : Value × Nat) => cs.setIfInBounds (n * sz + x.2) x.1) cs).size = cs.size := by
      rw [← Array.length_toList, hput', List.length_append, List.length_append, List.length_take, List.length_drop, Array.length_toList, Array.length_toList, hv]
      omega
    have ih := fillR_ok sz vs (n + 1) (v.cells.zipIdx.foldl (fun cs (x : Value × Nat) => cs.setIfInBounds (n * sz + x.2) x.1) cs) (fun u hu => h1 u (by simp [hu])) (by rw [hsz]; omega)
    rw [hput'] at ih
    simp only [List.length_cons, List.range'_succ, List.zip_cons_cons, Instr.fill]
    have h2 : ¬ (n * sz + v.cells.size > cs.size) := by rw [hv]; omega
    have h3 : ¬ (v.cells.size ≠ sz) := by rw [hv]; simp
    have h4 : (decide (v.cells.size ≠ sz) || decide (n * sz + v.cells.size > cs.size)) = false := by simp [h2, h3]
    rw [if_neg (by rw [h4]; simp)]
    refine ih.trans ?_
    congr 2
    have t1 : (cs.toList.take (n * sz) ++ v.cells.toList ++ cs.toList.drop (n * sz + sz)).take ((n + 1) * sz) = cs.toList.take (n * sz) ++ v.cells.toList := by
      rw [List.take_append_of_le_length (by simp; omega), List.take_of_length_le (by simp; omega)]
    have t2 : (cs.toList.take (n * sz) ++ v.cells.toList ++ cs.toList.drop (n * sz + sz)).drop ((n + 1 + vs.length) * sz) = cs.toList.drop ((n + (vs.length + 1)) * sz) := by
      rw [List.drop_append, List.drop_eq_nil_of_le (by simp; omega), List.nil_append, List.drop_drop, e1]
      congr 1
      simp
      omega
    rw [t1, t2]
    simp [e1]
theorem qbuildR_ok {t len n : Nat} {xs : List SV} {r : SV} {c : Cont} (ρ : Operand → Value) (parts : Array (Nat × Operand)) (hp : parts.toList.map (fun x => ρ x.2) = vals β xs) (hq : qbuildR P t len n parts.toList xs = .new true r c) :
    ∃ (cs : Array Value) (e sz : Nat), (Instr.buildSlice t len (parts.map fun x => (x.1, ρ x.2))).run P w = .ok (.slice (some ⟨w.heap.size, 0, none⟩) len len) (w.alloc (.cells cs e)) ∧ cs.toList = c.cells β ∧ r = .rs n 0 0 sz len len ∧ c.shp = some (e, (c.cells β).length) := by
  unfold qbuildR at hq
  split at hq
  · rename_i e hu
    cases hst : isStructT P e <;> rw [hst] at hq
    · cases hq
    · simp only [cond_true] at hq
      split at hq
      · rename_i fs hfs
        split at hq
        · rename_i l hl
          simp only [QR.new.injEq, Bool.and_eq_true] at hq
          obtain ⟨⟨h1, h2, h3, h4, h5⟩, rfl, rfl⟩ := hq
          obtain ⟨i, hi, hz, hsz⟩ := fksOf_ok hfs
          obtain ⟨hll, hcl⟩ := unrcs_ok β fs hl
          have h4 := Nat.eq_of_beq_eq_true h4
          have h5 := Nat.le_of_ble_eq_true h5
          have h2 := blt_lt h2
          have hlen : (vals β xs).length = len := by rw [vals_map, List.length_map]; exact h4
          have hpl : parts.toList.length = len := by rw [← hlen, ← hp, List.length_map]
          refine ⟨(rows fs l).toArray, e, fs.length, ?_, by simp [Cont.cells], rfl, by simp [Cont.shp, Cont.cells, rows_len]⟩
          have hfl : ((vals β xs).map (·.cells.toList)).flatten = rows fs l := by
            unfold rows
            rw [← hcl, vals_map, List.map_map]; rfl
          have hone : ∀ v ∈ vals β xs, v.cells.size = fs.length := fun v hv => by
            rw [vals_map] at hv
            obtain ⟨x, hx, rfl⟩ := List.mem_map.1 hv
            have : (val β x).cells.toList ∈ l.map (rvs fs) := by rw [← hcl]; exact List.mem_map.2 ⟨x, hx, rfl⟩
            obtain ⟨r, -, hr⟩ := List.mem_map.1 this
            rw [← Array.length_toList, ← hr, rvs_len]
          have hz2 := inOrder_zip ρ parts.toList 0 h3
          have e1 : (List.map (fun x => (x.fst, ρ x.snd)) parts.toList) = (List.range' 0 (vals β xs).length).zip (vals β xs) := by rw [hz2, hp, hpl, hlen]
          by_cases h0 : len = 0
          · subst h0
            have hv0 : vals β xs = [] := List.length_eq_zero_iff.1 hlen
            have hl0 : l = [] := List.length_eq_zero_iff.1 (by rw [hll]; exact h4)
            subst hl0
            have hpl0 : parts = #[] := Array.toList_eq_nil_iff.1 (List.length_eq_zero_iff.1 hpl)
            subst hpl0
            simp [Instr.buildSlice, run_underlying hu, sizeOf, typeInfo, hi, hsz, newRow, Instr.fill, rows]
            have e0 : (Array.map (fun x => (default : Value)) (Array.range 0)) = #[] := by apply Array.eq_empty_of_size_eq_zero; simp
            rw [e0]
          · have hn0 : ¬ (len * fs.length = 0) := by
              intro h
              rcases Nat.mul_eq_zero.1 h with h | h <;> omega
            have hf := fillR_ok fs.length (vals β xs) 0 ((Array.range (len * fs.length)).map ((rvs fs (rz fs)).toArray[· % (rvs fs (rz fs)).toArray.size]!)) hone (by rw [hlen]; simp)
            have hd : ((Array.range (len * fs.length)).map ((rvs fs (rz fs)).toArray[· % (rvs fs (rz fs)).toArray.size]!)).toList.drop ((0 + (vals β xs).length) * fs.length) = [] := List.drop_eq_nil_of_le (by rw [hlen]; simp)
            rw [hd, Nat.zero_mul, List.take_zero, List.nil_append, List.append_nil, hfl] at hf
            have hn : ¬ (len * fs.length > 2 ^ 24) := by omega
            unfold Instr.buildSlice
            rw [Sem.run_bind, run_underlying hu, Result.andThen_ok]
            have hso : (sizeOf e).run P w = .ok fs.length w := by simp [sizeOf, typeInfo, hi, hsz]
            have hzv : (zeroValue e).run P w = .ok (.agg (rvs fs (rz fs)).toArray) w := by simp [zeroValue, typeInfo, hi, hz]
            have e2 : (parts.map fun x => (x.1, ρ x.2)).toList = (List.range' 0 (vals β xs).length).zip (vals β xs) := by rw [Array.toList_map, e1]
            simp only [Sem.run_bind, hso, Result.andThen_ok, if_neg hn, if_neg hn0, hzv, Value.cells, e2, hf, Sem.run_pure]
            simp [newRow, hso]
        · cases hq
      · cases hq
  · cases hq
theorem qmakeT_ok {t n : Nat} {x y r : SV} {c : Cont} (hq : qmakeT P t n x y = .new true r c) : ∃ (cs : Array Value) (e : Nat) (l m : Nat), (Instr.makeSlice t (val β x) (val β y)).run P w = .ok (.slice (some ⟨w.heap.size, 0, none⟩) l m) (w.alloc (.cells cs e)) ∧ cs.toList = c.cells β ∧ r = .sl n 0 l m ∧ c.shp = some (e, (c.cells β).length) := by
  unfold qmakeT at hq
  split at hq
  · rename_i e a b hu ha hb
    obtain ⟨ka, hva⟩ := iof_ok β ha
    obtain ⟨kb, hvb⟩ := iof_ok β hb
    rw [hva, hvb]
    generalize h8 : (isInt P .u8 e && Nat.beq (sizeT P e) 1 && zIs P .u8 e 1) = b8 at hq
    cases b8
    · cases hq
    · simp only [Bool.and_eq_true] at h8
      simp only [cond_true, QR.new.injEq, Bool.and_eq_true, ile_eq, ilt_eq, decide_eq_true_eq] at hq
      obtain ⟨⟨⟨h0, h1⟩, h2⟩, rfl, rfl⟩ := hq
      obtain ⟨i, hi, hz, hby⟩ := zIs_ok h8.2
      obtain ⟨i', hi', hi1⟩ := size_one h8.1.2
      obtain rfl : i = i' := Option.some.inj (hi.symm.trans hi')
      have := run_make (P := P) w t e i _ hu hi hz ka kb a b h0 h1 (by rw [hby]; omega) (by omega)
      exact ⟨_, _, _, _, this, by rw [hi1, Nat.mul_one]; simp [Value.cells, toList_madeCells_one, Cont.cells, c8], rfl, by simp [Cont.shp, Cont.cells]⟩
  · cases hq
theorem qmax_ok {ts : Array TypeId} {ty : TypeId} {xs : List SV} {r : SV} (hq : qmax xs = .ok true r) : (Builtin.max_ ts ty (vals β xs).toArray).run P w = .ok (val β r) w := by
  unfold qmax at hq
  split at hq
  · rename_i a b
    simp only [QR.ok.injEq, true_and] at hq
    subst hq
    cases hc : ilt a b
    · have : ¬ a < b := by rw [ilt_eq] at hc; exact of_decide_eq_false hc
      simp [Builtin.max_, Builtin.max2, vals, val, this]
    · have : a < b := by rw [ilt_eq] at hc; exact of_decide_eq_true hc
      simp [Builtin.max_, Builtin.max2, vals, val, this]
  · cases hq
end
end Go.Proofs.Ytkjfecdpakhggaa
