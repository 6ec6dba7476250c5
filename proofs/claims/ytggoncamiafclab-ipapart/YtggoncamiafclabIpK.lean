/-
  ip: the map of sets, as the model runs it. No statement is proved here.
-/
import Derived.Test.YtggoncamiafclabIpJ
import Derived.DeepKeys3
import Derived.WideKeyRuns
import Derived.MapKept
namespace Go.Proofs.Ytggoncamiafclab
open Go.RowKit Go.MapKept
set_option linter.unusedVariables false
set_option linter.unusedSimpArgs false
set_option maxRecDepth 100000

deriving instance DecidableEq for Nm
def nmSv (n : Nm) : SV := .agg [.w32 n.src, .w32 n.dst, .w8 n.proto, .w16 n.id]
theorem check_nm (n : Nm) (e : Bool) (w : World) : (Instr.checkKey e 10000 48 n.v).run Try.prog w = .ok () w := by kernel_rfl
theorem nm_eqb (n m : Nm) : (n.src == m.src && (n.dst == m.dst && (n.proto == m.proto && (n.id == m.id && true)))) = decide (n = m) := by
  rw [Bool.eq_iff_iff]
  simp only [Bool.and_eq_true, beq_iff_eq, and_true, decide_eq_true_eq]
  constructor
  · rintro ⟨h1, h2, h3, h4⟩
    obtain ⟨a, b, c, d⟩ := n; obtain ⟨a', b', c', d'⟩ := m
    simp only at h1 h2 h3 h4
    subst h1 h2 h3 h4; rfl
  · rintro rfl; exact ⟨rfl, rfl, rfl, rfl⟩
theorem eq_nm (n m : Nm) (w : World) : (Op.equal 48 n.v m.v).run Try.prog w = .ok (decide (n = m)) w := by
  have hfs : Try.prog.underlying 48 = some (.struct (Try.prog.fieldsOf 48)) := by kernel_rfl
  have he : eqF Try.prog 0 (Try.prog.fieldsOf 48).toList [.w32 n.src, .w32 n.dst, .w8 n.proto, .w16 n.id] [.w32 m.src, .w32 m.dst, .w8 m.proto, .w16 m.id] = some (n.src == m.src && (n.dst == m.dst && (n.proto == m.proto && (n.id == m.id && true)))) := by kernel_rfl
  rw [nm_eqb] at he
  have hp : Try.prog.stoodInHeld 48 = false := by kernel_rfl
  have h1 := run_equalIn_struct w 9999 48 (vals (fun _ => 0) [.w32 n.src, .w32 n.dst, .w8 n.proto, .w16 n.id]).toArray (vals (fun _ => 0) [.w32 m.src, .w32 m.dst, .w8 m.proto, .w16 m.id]).toArray hfs hp
  exact h1.trans (eqF_ok (fun _ => 0) 9998 _ _ (Try.prog.fieldsOf 48).toList 0 _ _ _ rfl rfl he)
def isNm (n : Nm) (e : SetE) : Bool := decide (n = e.nm)
/-- The set of that name. -/
def St.get (s : St) (n : Nm) : Option SetE := s.es.find? (isNm n)
def ptrE (e : SetE) : Value := .pointer (some ⟨e.sb, 0, none⟩)
theorem find_es (n : Nm) (w : World) : ∀ (es : List SetE) (i : Nat), (Instr.findAsking 48 n.v (es.map SetE.entry) i).run Try.prog w = .ok ((es.findIdx? (isNm n)).bind fun j => es[j]?.map fun e => (i + j, ptrE e)) w
  | [], i => by simp [Instr.findAsking]
  | e :: es, i => by
    rw [List.map_cons, Instr.findAsking]
    simp only [Sem.run_bind]
    have h1 : (Op.equal 48 n.v e.entry.key).run Try.prog w = .ok (decide (n = e.nm)) w := eq_nm n e.nm w
    rw [h1, Result.andThen_ok]
    rw [List.findIdx?_cons]
    cases hd : isNm n e
    · have hd' : decide (n = e.nm) = false := hd
      rw [hd']
      simp only [Bool.false_eq_true, if_false]
      rw [find_es n w es (i + 1)]
      congr 1
      cases es.findIdx? (isNm n) with
      | none => rfl
      | some j => simp [Nat.add_assoc, Nat.add_comm 1 j]
    · have hd' : decide (n = e.nm) = true := hd
      rw [hd']
      simp [ptrE, SetE.entry]
theorem key_es (n : Nm) (w : World) (es : List SetE) : (Instr.findKey 48 n.v (es.map SetE.entry)).run Try.prog w = .ok ((es.findIdx? (isNm n)).bind fun j => es[j]?.map fun e => (j, ptrE e)) w := by
  rw [run_findKey_eq w (by kernel_rfl)]
  have h := find_es n w es 0
  simp only [Nat.zero_add] at h
  exact h
theorem get_idx (s : St) (n : Nm) : ((s.es.findIdx? (isNm n)).bind fun j => s.es[j]?.map fun e => (j, ptrE e)).map (·.2) = (s.get n).map ptrE := by
  unfold St.get
  induction s.es with
  | nil => rfl
  | cons e es ih =>
    rw [List.findIdx?_cons, List.find?_cons]
    cases isNm n e
    · simp only [Bool.false_eq_true, if_false]
      rw [← ih]
      cases es.findIdx? (isNm n) with
      | none => rfl
      | some j => simp [Option.map_map, Function.comp_def]
    · rfl
def ptrO (o : Option SetE) : Value := match o with
  | some e => ptrE e
  | none => .pointer none
theorem run_look (s : St) (n : Nm) {b : Nat} {w : World} (h : w.heap[b]? = some (.map (s.es.map SetE.entry).toArray s.clk)) : (Instr.lookup 43 (.map (some b)) n.v false).run Try.prog w = .ok (ptrO (s.get n)) w := by
  have hm : Try.prog.underlying 43 = some (.map 48 49) := by kernel_rfl
  have hz : (zeroValue 49).run Try.prog w = .ok (.pointer none) w := by kernel_rfl
  have hi := get_idx s n
  unfold Instr.lookup
  simp only [Sem.run_bind, run_underlying hm, Result.andThen_ok, MapKept.run_getObj_map h, Sem.run_pure, check_nm, key_es]
  cases hg : ((s.es.findIdx? (isNm n)).bind fun j => s.es[j]?.map fun e => (j, ptrE e)) with
  | none =>
    rw [hg] at hi
    cases hq : s.get n with
    | some e => rw [hq] at hi; cases hi
    | none => simp [hz, ptrO]
  | some p =>
    rw [hg] at hi
    cases hq : s.get n with
    | none => rw [hq] at hi; cases hi
    | some e =>
      rw [hq] at hi
      simp only [Option.map_some, Option.some.injEq] at hi
      simp [ptrO, hi]
theorem map_erase {α β : Type} (f : α → β) : ∀ (l : List α) (i : Nat), (l.map f).eraseIdx i = (l.eraseIdx i).map f
  | [], i => by simp
  | x :: l, 0 => rfl
  | x :: l, i + 1 => by simp [map_erase f l i]
def St.del (s : St) (n : Nm) : St := { s with es := s.es.eraseP (isNm n), gs := s.gs ++ (s.get n).toList }
theorem run_del (s : St) (n : Nm) {b : Nat} {w : World} (h : w.heap[b]? = some (.map (s.es.map SetE.entry).toArray s.clk)) (ty : Nat) : (Builtin.delete_ #[43, 48] ty #[.map (some b), n.v]).run Try.prog w = .ok (.tuple #[]) { w with heap := w.heap.setIfInBounds b (.map ((s.del n).es.map SetE.entry).toArray s.clk) } := by
  have hm : Try.prog.underlying 43 = some (.map 48 49) := by kernel_rfl
  unfold Builtin.delete_
  simp only [List.getElem?_toArray, List.getElem?_cons_zero, List.getElem?_cons_succ, Sem.run_bind, run_underlying hm, Result.andThen_ok, MapKept.run_getObj_map h, Sem.run_pure, check_nm, key_es]
  have he : (s.del n).es = match s.es.findIdx? (isNm n) with
    | none => s.es
    | some i => s.es.eraseIdx i := by
    show s.es.eraseP _ = _
    rw [List.eraseP_eq_eraseIdx]
    cases s.es.findIdx? (isNm n) <;> rfl
  cases hf : s.es.findIdx? (isNm n) with
  | none =>
    rw [hf] at he
    simp only [Option.bind_none, Sem.run_bind, MapKept.run_setObj_map _ h, Result.andThen_ok, Sem.run_pure]
    rw [he]
  | some i =>
    rw [hf] at he
    obtain ⟨h1, -⟩ := List.findIdx?_eq_some_iff_getElem.1 hf
    have e1 : ((s.es.map SetE.entry).toArray.eraseIdxIfInBounds i) = ((s.del n).es.map SetE.entry).toArray := by
      rw [he]
      simp [map_erase]
    simp only [Option.bind_some, List.getElem?_eq_getElem h1, Option.map_some, Sem.run_bind, MapKept.run_setObj_map _ h, Result.andThen_ok, Sem.run_pure]
    rw [e1]
def St.put (s : St) (e : SetE) : St := { s with es := s.es ++ [e], clk := s.clk + 1 }
theorem run_put (s : St) (n : Nm) (a : Addr) {b : Nat} {w : World} (h : w.heap[b]? = some (.map (s.es.map SetE.entry).toArray s.clk)) (hn : s.get n = none) : (Instr.mapUpdate 43 (.map (some b)) n.v (.pointer (some a))).run Try.prog w = .ok () { w with heap := w.heap.setIfInBounds b (.map ((s.es.map SetE.entry).toArray.push { key := n.v, val := .pointer (some a), born := s.clk }) (s.clk + 1)) } := by
  have hm : Try.prog.underlying 43 = some (.map 48 49) := by kernel_rfl
  have hi := get_idx s n
  rw [hn] at hi
  unfold Instr.mapUpdate
  simp only [Sem.run_bind, run_underlying hm, Result.andThen_ok, MapKept.run_getObj_map h, Sem.run_pure, check_nm, key_es]
  cases hg : ((s.es.findIdx? (isNm n)).bind fun j => s.es[j]?.map fun e => (j, ptrE e)) with
  | none => simp only [MapKept.run_setObj_map _ h]
  | some p => rw [hg] at hi; cases hi
end Go.Proofs.Ytggoncamiafclab
namespace Go.Proofs.Ytggoncamiafclab
open Go.RowKit
set_option linter.unusedVariables false
set_option linter.unusedSimpArgs false
set_option maxRecDepth 100000

theorem res_objs {s : St} (h : s.was = false) : s.objs = (s.mb, .map (s.es.map SetE.entry).toArray s.clk) :: (s.gs ++ s.es).flatMap SetE.objs := by unfold St.objs; rw [h]; rfl
theorem res_map {s : St} {w : World} (h : RIn s.objs w) (hw : s.was = false) : w.heap[s.mb]? = some (.map (s.es.map SetE.entry).toArray s.clk) := by
  rw [res_objs hw] at h
  exact h.all _ (List.mem_cons_self ..)
theorem flat_perm {α γ : Type} (f : α → List γ) {a b : List α} (h : a.Perm b) : (a.flatMap f).Perm (b.flatMap f) := by
  induction h with
  | nil => exact List.Perm.refl _
  | cons x h ih => rw [List.flatMap_cons, List.flatMap_cons]; exact ih.append_left _
  | swap x y l => simp only [List.flatMap_cons, ← List.append_assoc]; exact (List.perm_append_comm).append_right _
  | trans h1 h2 i1 i2 => exact i1.trans i2
theorem fp_block (w : World) (b : Nat) (o : Obj) : Fp (fun i => i = b) w { w with heap := w.heap.setIfInBounds b o } := ⟨rfl, rfl, rfl, by simp, fun k hk hne => by
  show (w.heap.setIfInBounds b o)[k]? = _
  rw [Array.getElem?_setIfInBounds_ne (Ne.symm hne)]⟩
section
variable {nG : Mm} {β : Nat → Nat} {M : Mm} {w : World}
theorem Rel.at_res (h : Rel nG β M w) {k : Nat} {r : Bool} {s : St} (hk : M[k]? = some ⟨r, .res s⟩) : β k = s.mb ∧ RIn s.objs w := h.all k _ hk rfl
theorem Rel.turn (h : Rel nG β M w) {k : Nat} {s s' : St} (hk : M[k]? = some ⟨true, .res s⟩) (hw : s.was = false) (hw' : s'.was = false) (hmb : s'.mb = s.mb) (hsub : (s'.gs ++ s'.es).Perm (s.gs ++ s.es)) :
    Rel nG β (M.set k ⟨true, .res s'⟩) { w with heap := w.heap.setIfInBounds s.mb (.map (s'.es.map SetE.entry).toArray s'.clk) } ∧ Ext β M w β (M.set k ⟨true, .res s'⟩) { w with heap := w.heap.setIfInBounds s.mb (.map (s'.es.map SetE.entry).toArray s'.clk) } := by
  obtain ⟨hb, hR⟩ := h.at_res hk
  have hmap := res_map hR hw
  have hlt : s.mb < w.heap.size := by
    rcases Nat.lt_or_ge s.mb w.heap.size with q | q
    · exact q
    · rw [Array.getElem?_eq_none q] at hmap; cases hmap
  have hdis := hR.dis
  rw [res_objs hw] at hdis
  have hs2 : (s'.objs.map (·.1)).Perm (s.objs.map (·.1)) := by
    rw [res_objs hw, res_objs hw', List.map_cons, List.map_cons, hmb]
    exact ((flat_perm SetE.objs hsub).map _).cons _
  have hF := fp_block w s.mb (.map (s'.es.map SetE.entry).toArray s'.clk)
  refine h.setR (c' := .res s') hk rfl (hF.mono fun i _ hi => ?_) rfl (fun i hi => .inl (hs2.mem_iff.1 hi)) (fun _ => ?_)
  · show i ∈ s.objs.map (·.1)
    rw [res_objs hw, hi]; exact List.mem_cons_self ..
  · refine ⟨hb.trans hmb.symm, fun p hp => ?_, hs2.nodup_iff.2 hR.dis⟩
    rw [res_objs hw'] at hp
    rcases List.mem_cons.1 hp with rfl | hp
    · show (w.heap.setIfInBounds s.mb _)[s'.mb]? = _
      rw [hmb, Array.getElem?_setIfInBounds_self_of_lt hlt]
    · have hp' := (flat_perm SetE.objs hsub).mem_iff.1 hp
      have h1 := hR.all p (by rw [res_objs hw]; exact List.mem_cons_of_mem _ hp')
      refine RO.same h1 (hF.block _ (RO.lt h1) fun e => ?_) hF.size
      rw [List.map_cons, List.nodup_cons] at hdis
      exact hdis.1 (List.mem_map.2 ⟨p, hp', e⟩)
/-- A block that was told of elsewhere. -/
def wasAt (x : Nat) : St := ⟨x, 0, [], true, none, []⟩
def newE (n : Nm) (born x : Nat) (u : BitVec 64) : SetE := ⟨n, born, x, u, true, 0, 0, 0, []⟩
theorem Rel.take (h : Rel nG β M w) {k j : Nat} {s : St} {n : Nm} {u : BitVec 64} (hk : M[k]? = some ⟨true, .res s⟩) (hw : s.was = false) (hj : M[j]? = some ⟨true, .row [.w64 u, .v (.slice none 0 0)]⟩) :
    Rel nG β ((M.set j ⟨true, .res (wasAt (β j))⟩).set k ⟨true, .res (s.put (newE n s.clk (β j) u))⟩) { w with heap := w.heap.setIfInBounds s.mb (.map ((s.put (newE n s.clk (β j) u)).es.map SetE.entry).toArray (s.clk + 1)) } ∧
    Ext β M w β ((M.set j ⟨true, .res (wasAt (β j))⟩).set k ⟨true, .res (s.put (newE n s.clk (β j) u))⟩) { w with heap := w.heap.setIfInBounds s.mb (.map ((s.put (newE n s.clk (β j) u)).es.map SetE.entry).toArray (s.clk + 1)) } := by
  obtain ⟨hb, hR⟩ := h.at_res hk
  have hmap := res_map hR hw
  have hlt : s.mb < w.heap.size := by
    rcases Nat.lt_or_ge s.mb w.heap.size with q | q
    · exact q
    · rw [Array.getElem?_eq_none q] at hmap; cases hmap
  have hne : k ≠ j := fun e => by subst e; rw [hk] at hj; cases hj
  have hlk := lt_of_get hk
  have hlj := lt_of_get hj
  have hrow : Holds w (β j) true [c64 u, .slice none 0 0] none := h.all j _ hj rfl
  have hF := fp_block w s.mb (.map ((s.put (newE n s.clk (β j) u)).es.map SetE.entry).toArray (s.clk + 1))
  generalize hs' : s.put (newE n s.clk (β j) u) = s' at hF ⊢
  have hw' : s'.was = false := by subst hs'; exact hw
  have hmb : s'.mb = s.mb := by subst hs'; rfl
  have hes : s'.es = s.es ++ [newE n s.clk (β j) u] := by subst hs'; rfl
  have hclk : s'.clk = s.clk + 1 := by subst hs'; rfl
  have hgs : s'.gs = s.gs := by subst hs'; rfl
  have hobjs : s'.objs.map (·.1) = s.objs.map (·.1) ++ [β j] := by
    rw [res_objs hw, res_objs hw', hes, hmb, hgs]
    simp [newE, SetE.objs]
  have hown : ∀ i, own (β k) (.res s') i → own (β k) (.res s) i ∨ i = β j := fun i hi => by
    have hi : i ∈ s'.objs.map (·.1) := hi
    rw [hobjs] at hi
    rcases List.mem_append.1 hi with q | q
    · exact .inl q
    · exact .inr (List.mem_singleton.1 q)
  have hkj : ∀ b, own (β k) (.res s) b → b ≠ β j := fun b hb e => h.dis k j _ _ hk hj hne rfl rfl rfl b hb e
  have get : ∀ (i : Nat) (e : Ent), ((M.set j ⟨true, .res (wasAt (β j))⟩).set k ⟨true, .res s'⟩)[i]? = some e → (i ≠ k ∧ i ≠ j ∧ M[i]? = some e) ∨ (i = k ∧ e = ⟨true, .res s'⟩) ∨ (i = j ∧ e = ⟨true, .res (wasAt (β j))⟩) := fun i e he => by
    by_cases q : k = i
    · subst q
      rw [List.getElem?_set_self (by simpa using hlk)] at he
      exact .inr (.inl ⟨rfl, (Option.some.inj he).symm⟩)
    · rw [List.getElem?_set_ne q] at he
      by_cases q2 : j = i
      · subst q2
        rw [List.getElem?_set_self hlj] at he
        exact .inr (.inr ⟨rfl, (Option.some.inj he).symm⟩)
      · rw [List.getElem?_set_ne q2] at he
        exact .inl ⟨Ne.symm q, Ne.symm q2, he⟩
  have hmbk : own (β k) (.res s) s.mb := by show s.mb ∈ s.objs.map (·.1); rw [res_objs hw]; exact List.mem_cons_self ..
  refine ⟨⟨fun i e he hc => ?_, fun i i2 p q hp hq hij hr hpc hqc => ?_, h.glob, by simpa using h.gl, fun i hi => ?_, h.ro, fun i e he => ?_⟩, ⟨fun _ _ => rfl, by simp, fun b hb => ?_, hF.mono fun i _ hi => ?_, fun i e he => ?_, fun i e hi he => absurd (lt_of_get he) (by simp; omega)⟩⟩
  · rcases get i e he with ⟨q1, q2, hM⟩ | ⟨rfl, rfl⟩ | ⟨rfl, rfl⟩
    · have h1 := h.all i e hM hc
      exact h1.same (fun b hb' => hF.block _ (h1.lt hb') fun e1 => h.dis k i _ _ hk hM (Ne.symm q1) rfl rfl hc b (by rw [e1]; exact hmbk) hb') hF.size
    · refine ⟨hb.trans hmb.symm, fun p hp => ?_, ?_⟩
      · rw [res_objs hw'] at hp
        rcases List.mem_cons.1 hp with rfl | hp
        · show (w.heap.setIfInBounds s.mb _)[s'.mb]? = _
          rw [hmb, Array.getElem?_setIfInBounds_self_of_lt hlt, hclk]
        · rw [hes, hgs, ← List.append_assoc, List.flatMap_append] at hp
          rcases List.mem_append.1 hp with hp | hp
          · have h1 := hR.all p (by rw [res_objs hw]; exact List.mem_cons_of_mem _ hp)
            refine RO.same h1 (hF.block _ (RO.lt h1) fun e => ?_) hF.size
            have hdis := hR.dis
            rw [res_objs hw, List.map_cons, List.nodup_cons] at hdis
            exact hdis.1 (List.mem_map.2 ⟨p, hp, e⟩)
          · have : p = (β j, .cells [c64 u, .slice none 0 0] none) := by simpa [newE, SetE.objs, SetE.sl] using hp
            subst this
            exact Holds.same hrow (hF.block _ hrow.lt fun e => hkj _ hmbk e.symm) hF.size
      · rw [hobjs, List.nodup_append]
        refine ⟨hR.dis, by simp, fun a ha b hb' => ?_⟩
        obtain rfl := List.mem_singleton.1 hb'
        exact hkj a ha
    · exact ⟨rfl, ⟨(fun p hp => (List.not_mem_nil hp).elim), List.nodup_nil⟩⟩
  · intro b hbp hbq
    rcases get i p hp with ⟨a1, a2, hi⟩ | ⟨rfl, rfl⟩ | ⟨rfl, rfl⟩
    · rcases get i2 q hq with ⟨b1, b2, hi2⟩ | ⟨rfl, rfl⟩ | ⟨rfl, rfl⟩
      · exact h.dis i i2 p q hi hi2 hij hr hpc hqc b hbp hbq
      · rcases hown b hbq with g | g
        · exact h.dis i i2 p _ hi hk hij hr hpc rfl b hbp g
        · exact h.dis i j p _ hi hj a2 hr hpc rfl b hbp g
      · cases hbq
    · rcases get i2 q hq with ⟨b1, b2, hi2⟩ | ⟨rfl, rfl⟩ | ⟨rfl, rfl⟩
      · rcases hown b hbp with g | g
        · exact h.dis i i2 _ q hk hi2 hij rfl rfl hqc b g hbq
        · exact h.dis j i2 _ q hj hi2 (Ne.symm b2) rfl rfl hqc b g hbq
      · exact hij rfl
      · cases hbq
    · cases hbp
  · have hge : ∀ q, q < nG.length → ∀ c, M[q]? ≠ some ⟨true, c⟩ := fun q hq c hM => by
      have h2 := h.pre q hq
      rw [hM] at h2
      have := (h.ro q _ h2.symm).1
      cases this
    rw [List.getElem?_set_ne (fun e => hge i hi _ (e ▸ hk)), List.getElem?_set_ne (fun e => hge i hi _ (e ▸ hj))]
    exact h.pre i hi
  · rcases get i e he with ⟨q1, q2, hM⟩ | ⟨rfl, rfl⟩ | ⟨rfl, rfl⟩
    · simpa using h.wf i e hM
    · rfl
    · rfl
  · obtain ⟨i, e, he, hr, hb'⟩ := hb
    rcases get i e he with ⟨q1, q2, hM⟩ | ⟨rfl, rfl⟩ | ⟨rfl, rfl⟩
    · exact .inl ⟨i, e, hM, hr, hb'⟩
    · rcases hown b hb' with g | g
      · exact .inl ⟨i, _, hk, rfl, g⟩
      · exact .inl ⟨j, _, hj, rfl, g⟩
    · cases hb'
  · exact ⟨k, _, hk, rfl, by rw [hi]; exact hmbk⟩
  · by_cases q : k = i
    · subst q
      rw [hk] at he
      obtain rfl := Option.some.inj he
      exact ⟨_, List.getElem?_set_self (by simpa using hlk), fun h => nomatch h⟩
    · rw [List.getElem?_set_ne q]
      by_cases q2 : j = i
      · subst q2
        rw [hj] at he
        obtain rfl := Option.some.inj he
        exact ⟨_, List.getElem?_set_self hlj, fun h => nomatch h⟩
      · exact ⟨e.c, by rw [List.getElem?_set_ne q2]; exact he, fun _ => rfl⟩
end
end Go.Proofs.Ytggoncamiafclab
