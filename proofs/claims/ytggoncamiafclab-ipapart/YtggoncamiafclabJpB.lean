/-
  ip: works answers true. No statement is proved here.
-/
import Derived.Test.YtggoncamiafclabJpA
namespace Go.Proofs.Ytggoncamiafclab
open Go.RowKit
set_option linter.unusedVariables false
set_option linter.unusedSimpArgs false
set_option maxRecDepth 100000

theorem st_eta {s : St} (h : OkS s) : stO s.mb s.clk s.es s.gs = s := by
  obtain ⟨mb, clk, es, was, it, gs⟩ := s
  obtain rfl : was = false := h.map
  obtain rfl : it = none := h.it
  rfl
theorem fil_w {y : SetE} (h : y.u = BitVec.ofInt 64 1 + BitVec.ofInt 64 10) : [y].filter (fun e => !e.u.ule (BitVec.ofInt 64 2)) = [y] := by
  have h1 : (!y.u.ule (BitVec.ofInt 64 2)) = true := by rw [h]; rfl
  rw [List.filter_cons, h1]; rfl
theorem bif_t {c : Bool} {p q : Prop} (h : c = true) (hp : p) : bif c then p else q := by rw [h]; exact hp
def c9 : List SV → List Cont → Option (Bool × SV)
  | [], _ => some (true, .b true)
  | _, _ => none
theorem w9 : vf Try.prog EX noL 4 [] G (fun r' _ => r' = .b true) := of_eq (v9 _) fun x => ⟨ok_empty x 0, fun gs1 hg1 => ⟨⟨hg1, by decide, fun e he => (by cases he)⟩, fun s' z hE => by
    obtain ⟨rfl, y, h1, h2, h3, h4, h5⟩ := first_err rfl hE
    have hf : s'.es.filter (fun e => !e.u.ule (BitVec.ofInt 64 2)) = [y] := by rw [h1]; exact fil_w h3
    have hy : okE y := h5.ok y (by rw [h1]; exact List.mem_cons_self ..)
    have hl : y.len = 1 := by rw [← ps_len hy, h4]; rfl
    refine ⟨by rw [st_eta h5]; exact h5, fun gs2 hg2 => ⟨⟨hg2, by decide, fun e he => ?_⟩, fun s2 z2 hE2 => (second_err (y := y) hf h2 h4 hE2).elim, fun s2 ps hM2 => ?_⟩⟩
    · rw [hf] at he
      obtain rfl := List.mem_singleton.1 he
      omega
    · obtain ⟨rfl, he⟩ := second_made (y := y) hf h2 h4 hM2
      refine bif_t (show (bif true then (0 : Int) == 0 else false) = true from rfl) (bif_t (show (bif true then datW [c2W, c1W] 2 == bts { data := #[97, 98, 99, 100, 101, 102, 103, 104, 105, 106] } else false) = true from dat_w) (bif_t (show (bif true then (bif (2 : Int) == 0 then (0 : Int) else ((s2.es.length : Nat) : Int)) == 0 else false) = true by rw [he]; rfl) (congrArg SV.b sum_w))), fun s' ps hM => (first_made rfl hM).elim⟩⟩
theorem works_ok : POk Try.prog G 4 c9 := by
  intro args acs r hh β M w hR hw ha
  unfold c9 at hh
  split at hh
  · simp only [Option.some.injEq, Prod.mk.injEq, true_and] at hh
    subst hh
    exact pokE (E := EX) rfl ex_ok (noL_ok _ _ _ _) rfl w9 rfl rfl hR
  · cases hh
end Go.Proofs.Ytggoncamiafclab
namespace Go.Proofs.Ytggoncamiafclab
open Go.RowKit
set_option linter.unusedVariables false
set_option linter.unusedSimpArgs false
set_option maxRecDepth 100000

/-- The pieces of the set of a name. -/
def vw (es : List SetE) (n : Nm) : Option (List Pc) := (es.find? (isNm n)).map SetE.ps
theorem vw_other {pre post : List SetE} {e : SetE} {n : Nm} (h : n ≠ e.nm) : vw (pre ++ e :: post) n = vw (pre ++ post) n := by
  have : isNm n e = false := decide_eq_false h
  unfold vw
  rw [List.find?_append, List.find?_append, List.find?_cons, this]
theorem vw_here {pre post : List SetE} {e : SetE} (h : ((pre ++ e :: post).map (·.nm)).Nodup) : vw (pre ++ e :: post) e.nm = some e.ps ∧ vw (pre ++ post) e.nm = none := by
  refine ⟨?_, ?_⟩
  · unfold vw; rw [(erase_split e.nm e rfl post pre h).2]; rfl
  · have h1 : (pre ++ post).find? (isNm e.nm) = none := List.find?_eq_none.2 fun y hy q => by
      have q : e.nm = y.nm := of_decide_eq_true q
      rw [List.map_append, List.map_cons, List.nodup_append, List.nodup_cons] at h
      obtain ⟨-, ⟨n2, -⟩, n3⟩ := h
      rcases List.mem_append.1 hy with hy | hy
      · exact n3 y.nm (List.mem_map.2 ⟨y, hy, rfl⟩) e.nm (List.mem_cons_self ..) q.symm
      · exact n2 (List.mem_map.2 ⟨y, hy, q.symm⟩)
    unfold vw; rw [h1]; rfl
theorem vw_none {es : List SetE} {n : Nm} (h : vw es n = none) : ∀ y ∈ es, y.nm ≠ n := fun y hy q => by
  unfold vw at h
  exact List.find?_eq_none.1 (Option.map_eq_none_iff.1 h) y hy (decide_eq_true q.symm)
theorem vw_none_of {es : List SetE} {n : Nm} (h : ∀ y ∈ es, y.nm ≠ n) : vw es n = none := by
  unfold vw
  rw [List.find?_eq_none.2 fun y hy q => h y hy (of_decide_eq_true q).symm]; rfl
theorem vw_of {es : List SetE} (hn : (es.map (·.nm)).Nodup) {y : SetE} (hy : y ∈ es) : vw es y.nm = some y.ps := by
  obtain ⟨pre, post, rfl⟩ := List.append_of_mem hy
  exact (vw_here hn).1
theorem vw_mem {es : List SetE} {n : Nm} {ps : List Pc} (h : vw es n = some ps) : ∃ y ∈ es, y.nm = n ∧ y.ps = ps := by
  unfold vw at h
  obtain ⟨y, h1, h2⟩ := Option.map_eq_some_iff.1 h
  exact ⟨y, List.mem_of_find?_eq_some h1, (of_decide_eq_true (List.find?_some h1 : isNm n y = true)).symm, h2⟩
theorem get_vw {s : St} {n : Nm} (h : s.get n = none) : vw s.es n = none := vw_none_of (get_no h)
abbrev U1 : BitVec 64 := BitVec.ofInt 64 1
abbrev U1000 : BitVec 64 := BitVec.ofInt 64 1000
/-- Sets, all of one life, in order, none of more pieces than came. -/
structure Lv (i : Nat) (s : St) : Prop where
  ok : OkS s
  row : ∀ e ∈ s.es, e.u = U1 + U1000 ∧ e.len ≤ i ∧ upP e.ps ∧ Fits e.ps
theorem Lv.mono {i j : Nat} {s s' : St} (h : Lv i s) (hij : i ≤ j) (hs : s'.es.Sublist s.es) (hk : OkS s') : Lv j s' :=
  ⟨hk, fun e he => by obtain ⟨h1, h2, h3⟩ := h.row e (hs.subset he); exact ⟨h1, by omega, h3⟩⟩
theorem Lv.fil {i : Nat} {s : St} (h : Lv i s) : (s.es.filter fun e => !e.u.ule (BitVec.ofInt 64 1)) = s.es :=
  List.filter_eq_self.2 fun e he => by rw [(h.row e he).1]; decide
theorem lv_start {i : Nat} {n : Nm} {s s0 : St} {pre post : List SetE} {e : SetE} (h : Start 32 U1000 U1 n s s0) (hL : Lv i s) (hk : OkS s0) (hs : s0.es = pre ++ e :: post) (he : e.nm = n) :
    Lv i s0 ∧ s0.es.length ≤ s.es.length + 1 ∧ (∀ k, k ≠ n → vw (pre ++ post) k = vw s.es k) ∧ vw (pre ++ post) n = none ∧ e.ps = (vw s.es n).getD [] ∧ (vw s.es n = none → ¬ (32 : Int) ≤ (s.len : Nat)) := by
  have hn := hk.nms
  rw [hs] at hn
  obtain ⟨h1, h2⟩ := vw_here hn
  rw [he] at h1 h2
  have h3 : ∀ k, k ≠ n → vw (pre ++ post) k = vw s0.es k := fun k hk => by rw [hs, vw_other (by rw [he]; exact hk)]
  rcases h with rfl | ⟨g1, g2, x, rfl⟩
  · refine ⟨hL, Nat.le_succ _, h3, h2, ?_, fun q => ?_⟩
    · rw [hs, h1]; rfl
    · rw [hs, h1] at q; cases q
  · have hes : (s.put (newE n s.clk x (U1 + U1000))).es = s.es ++ newE n s.clk x (U1 + U1000) :: [] := rfl
    have hn2 := hk.nms
    rw [hes] at hn2
    have h4 := (vw_here hn2).1
    have h5 : vw (s.put (newE n s.clk x (U1 + U1000))).es n = some [] := h4
    rw [hs, h1] at h5
    have h6 : vw s.es n = none := get_vw g1
    refine ⟨⟨hk, fun y hy => ?_⟩, ?_, fun k hk => ?_, h2, ?_, fun _ => g2⟩
    · rw [hes] at hy
      rcases List.mem_append.1 hy with hy | hy
      · exact hL.row y hy
      · obtain rfl := List.mem_singleton.1 hy
        exact ⟨rfl, Nat.zero_le _, List.Pairwise.nil, fits1 _ (Nat.zero_le _)⟩
    · rw [hes, List.length_append]; exact Nat.le_refl _
    · rw [h3 k hk, hes, vw_other (e := newE n s.clk x (U1 + U1000)) hk, List.append_nil]
    · rw [h6]; exact Option.some.inj h5
theorem addP_good {ps ps' : List Pc} {a : Int} {m : Tx} {b : Bool} {t : BitVec 8} (h : AddP ps a m b t ps' 0) (h1 : upP ps) (h2 : Fits ps) : upP ps' ∧ Fits ps' ∧ ps'.length ≤ ps.length + 1 := by
  rcases h with ⟨-, rfl, -⟩ | ⟨-, hp, hu, hf⟩
  · exact ⟨h1, h2, Nat.le_succ _⟩
  · have := hp.length_eq
    rw [List.length_append] at this
    have e : [(a, m, b, t, ())].length = 1 := rfl
    refine ⟨hu, ?_, by omega⟩
    rcases hf with ⟨hf, -⟩ | ⟨-, hf⟩
    · exact hf
    · cases hf
/-- What a piece makes of the pieces of its name, and which error it is. -/
def OutE (v : Option (List Pc)) (full : Prop) (a : Int) (m : Tx) (more : Bool) (ttl : BitVec 8) (v' : Option (List Pc)) (z : Int) : Prop :=
  (wrE a m more ≠ 0 ∧ z = wrE a m more ∧ v' = none) ∨ (wrE a m more = 0 ∧ v = none ∧ full ∧ z = 6 ∧ v' = none) ∨
    (wrE a m more = 0 ∧ (v = none → ¬ full) ∧ ∃ ps, AddP (v.getD []) a m more ttl ps z ∧ ((z ≠ 0 ∧ v' = none) ∨ (z = 0 ∧ wholeP ps ps.length = false ∧ v' = some ps)))
def OutM (v : Option (List Pc)) (full : Prop) (a : Int) (m : Tx) (more : Bool) (ttl : BitVec 8) (v' : Option (List Pc)) (ps : List Pc) : Prop :=
  wrE a m more = 0 ∧ (v = none → ¬ full) ∧ AddP (v.getD []) a m more ttl ps 0 ∧ wholeP ps ps.length = true ∧ v' = none
def Full (s : St) : Prop := (32 : Int) ≤ (s.len : Nat)
theorem vw_del {s : St} (hk : OkS s) (n : Nm) : (∀ k, k ≠ n → vw (s.del n).es k = vw s.es k) ∧ vw (s.del n).es n = none := by
  cases hg : vw s.es n with
  | none =>
    have h1 : (s.del n).es = s.es := List.eraseP_of_forall_not fun y hy q => vw_none hg y hy (of_decide_eq_true q).symm
    rw [h1]
    exact ⟨fun _ _ => rfl, hg⟩
  | some ps =>
    obtain ⟨y, hy, hn, -⟩ := vw_mem hg
    obtain ⟨pre, post, hs⟩ := List.append_of_mem hy
    have h1 : (s.del n).es = pre ++ post := by rw [del_split hs hn hk.nms]
    have h2 := hk.nms
    rw [hs] at h2
    rw [h1, hs]
    refine ⟨fun k hk => (vw_other (by rw [hn]; exact hk)).symm, ?_⟩
    rw [← hn]; exact (vw_here h2).2
theorem view_err {i : Nat} {n : Nm} {a : Int} {m : Tx} {more : Bool} {ttl : BitVec 8} {s s' : St} {z : Int} (h : GErr 32 U1000 U1 n a m more ttl s s' z) (hL : Lv i s) :
    Lv (i + 1) s' ∧ s'.es.length ≤ s.es.length + 1 ∧ (∀ k, k ≠ n → vw s'.es k = vw s.es k) ∧ OutE (vw s.es n) (Full s) a m more ttl (vw s'.es n) z := by
  obtain ⟨hk, h | h | h⟩ := h
  · obtain ⟨h1, rfl, h2⟩ := h
    obtain ⟨g1, g2⟩ := vw_del hL.ok n
    have := (sub_del (s := s) n).length_le
    exact ⟨hL.mono (Nat.le_succ _) (sub_del n) hk, by omega, g1, .inl ⟨h1, h2, g2⟩⟩
  · obtain ⟨h1, h2, h3, rfl, h4⟩ := h
    exact ⟨hL.mono (Nat.le_succ _) (List.Sublist.refl _) hk, Nat.le_succ _, fun _ _ => rfl, .inr (.inl ⟨h1, get_vw h2, h3, h4, get_vw h2⟩)⟩
  · obtain ⟨h1, s0, pre, e, post, x, ps, hst, hk0, hs, hn, hu, hc⟩ := h
    obtain ⟨g1, g2, g3, g4, g5, g6⟩ := lv_start hst hL hk0 hs hn
    have gl : (pre ++ post).length ≤ s.es.length := by
      rw [hs] at g2
      simp only [List.length_append, List.length_cons] at g2 ⊢
      omega
    rcases hc with ⟨hA, hz, rfl⟩ | ⟨hA, hW, rfl, rfl⟩
    · refine ⟨⟨hk, fun y hy => ?_⟩, Nat.le_trans gl (Nat.le_succ _), g3, .inr (.inr ⟨h1, g6, ps, by rw [← g5]; exact hA, .inl ⟨hz, g4⟩⟩)⟩
      obtain ⟨k1, k2, k3⟩ := g1.row y (by rw [hs]; exact (List.Sublist.append_left (List.sublist_cons_self ..) _).subset hy)
      exact ⟨k1, by omega, k3⟩
    · have hes : (s0.withE (pre ++ x :: post)).es = pre ++ x :: post := rfl
      have hk2 := hk.nms
      rw [hes] at hk2
      obtain ⟨e1, e2, e3, e4⟩ := g1.row e (by rw [hs]; exact List.mem_append_right _ (List.mem_cons_self ..))
      obtain ⟨a1, a2, a3⟩ := addP_good hA e3 e4
      refine ⟨⟨hk, fun y hy => ?_⟩, ?_, fun k hkn => ?_, .inr (.inr ⟨h1, g6, ps, by rw [← g5]; exact hA, .inr ⟨rfl, hW, ?_⟩⟩)⟩
      · rw [hes] at hy
        rcases List.mem_append.1 hy with q | q
        · obtain ⟨k1, k2, k3⟩ := g1.row y (by rw [hs]; exact List.mem_append_left _ q)
          exact ⟨k1, by omega, k3⟩
        · rcases List.mem_cons.1 q with rfl | q
          · have l1 := ps_len hu.ok
            rw [hu.ps] at l1
            have l2 := ps_len (hk0.ok e (by rw [hs]; exact List.mem_append_right _ (List.mem_cons_self ..)))
            refine ⟨hu.u.trans e1, by omega, ?_, ?_⟩
            · rw [hu.ps]; exact a1
            · rw [hu.ps]; exact a2
          · obtain ⟨k1, k2, k3⟩ := g1.row y (by rw [hs]; exact List.mem_append_right _ (List.mem_cons_of_mem _ q))
            exact ⟨k1, by omega, k3⟩
      · rw [hes]
        simp only [List.length_append, List.length_cons] at gl ⊢
        omega
      · rw [hes, vw_other (by rw [hu.nm, hn]; exact hkn)]
        exact g3 k hkn
      · rw [hes]
        have := (vw_here hk2).1
        rw [hu.nm, hn, hu.ps] at this
        exact this
theorem view_made {i : Nat} {n : Nm} {a : Int} {m : Tx} {more : Bool} {ttl : BitVec 8} {s s' : St} {ps : List Pc} (h : GMade 32 U1000 U1 n a m more ttl s s' ps) (hL : Lv i s) :
    Lv (i + 1) s' ∧ s'.es.length ≤ s.es.length + 1 ∧ (∀ k, k ≠ n → vw s'.es k = vw s.es k) ∧ OutM (vw s.es n) (Full s) a m more ttl (vw s'.es n) ps := by
  obtain ⟨hk, h1, s0, pre, e, post, x, hst, hk0, hs, hn, hu, hA, hW, rfl⟩ := h
  obtain ⟨g1, g2, g3, g4, g5, g6⟩ := lv_start hst hL hk0 hs hn
  have gl : (pre ++ post).length ≤ s.es.length := by
    rw [hs] at g2
    simp only [List.length_append, List.length_cons] at g2 ⊢
    omega
  refine ⟨⟨hk, fun y hy => ?_⟩, Nat.le_trans gl (Nat.le_succ _), g3, h1, g6, by rw [← g5]; exact hA, hW, g4⟩
  obtain ⟨k1, k2, k3⟩ := g1.row y (by rw [hs]; exact (List.Sublist.append_left (List.sublist_cons_self ..) _).subset hy)
  exact ⟨k1, by omega, k3⟩
end Go.Proofs.Ytggoncamiafclab
