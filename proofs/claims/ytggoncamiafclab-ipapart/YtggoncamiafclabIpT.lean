/-
  ip: a piece that is gathered: what becomes of the sets. No statement is proved here.
-/
import Derived.Test.YtggoncamiafclabIpS
namespace Go.Proofs.Ytggoncamiafclab
open Go.RowKit
set_option linter.unusedVariables false
set_option linter.unusedSimpArgs false
set_option maxRecDepth 100000

theorem uniq_split {α β : Type} (f : α → β) {e e' : α} {post post' : List α} : ∀ (pre pre' : List α), pre ++ e :: post = pre' ++ e' :: post' → ((pre ++ e :: post).map f).Nodup → f e = f e' → pre = pre' ∧ e = e' ∧ post = post'
  | [], [], h, _, _ => by
    obtain ⟨h1, h2⟩ := List.cons.inj h
    exact ⟨rfl, h1, h2⟩
  | [], y :: pre', h, hn, hf => by
    obtain ⟨rfl, h2⟩ := List.cons.inj h
    rw [List.nil_append, List.map_cons, List.nodup_cons] at hn
    exact absurd (List.mem_map.2 ⟨e', by rw [h2]; simp, hf.symm⟩) hn.1
  | x :: pre, [], h, hn, hf => by
    obtain ⟨rfl, h2⟩ := List.cons.inj h
    rw [List.cons_append, List.map_cons, List.nodup_cons] at hn
    exact absurd (List.mem_map.2 ⟨e, by simp, hf⟩) hn.1
  | x :: pre, y :: pre', h, hn, hf => by
    obtain ⟨rfl, h2⟩ := List.cons.inj h
    rw [List.cons_append, List.map_cons, List.nodup_cons] at hn
    obtain ⟨h3, h4, h5⟩ := uniq_split f pre pre' h2 hn.2 hf
    exact ⟨by rw [h3], h4, h5⟩
/-- Sets as they can be. -/
structure OkS (s : St) : Prop where
  map : s.was = false
  it : s.it = none
  ok : ∀ e ∈ s.es, okE e
  nms : (s.es.map (·.nm)).Nodup
  sbs : ((s.gs ++ s.es).map (·.sb)).Nodup
  bns : (s.es.map (·.born)).Nodup
  lt : ∀ e ∈ s.es, e.born < s.clk
theorem OkS.sbE {s : St} (h : OkS s) : (s.es.map (·.sb)).Nodup := by
  have := h.sbs
  rw [List.map_append, List.nodup_append] at this
  exact this.2.1
theorem erase_split (n : Nm) (x : SetE) (hx : x.nm = n) (post : List SetE) : ∀ pre : List SetE, ((pre ++ x :: post).map (·.nm)).Nodup → (pre ++ x :: post).eraseP (isNm n) = pre ++ post ∧ (pre ++ x :: post).find? (isNm n) = some x
  | [], _ => by
    have : isNm n x = true := decide_eq_true hx.symm
    rw [List.nil_append, List.eraseP_cons, List.find?_cons, this]
    exact ⟨rfl, rfl⟩
  | y :: pre, h => by
    rw [List.cons_append, List.map_cons, List.nodup_cons] at h
    have hy : isNm n y = false := decide_eq_false fun q => h.1 (List.mem_map.2 ⟨x, by simp, hx.trans q⟩)
    obtain ⟨h1, h2⟩ := erase_split n x hx post pre h.2
    rw [List.cons_append, List.eraseP_cons, List.find?_cons, hy]
    exact ⟨congrArg (y :: ·) h1, h2⟩
theorem del_split {s : St} {n : Nm} {x : SetE} {pre post : List SetE} (hs : s.es = pre ++ x :: post) (hx : x.nm = n) (hn : (s.es.map (·.nm)).Nodup) : s.del n = { s with es := pre ++ post, gs := s.gs ++ [x] } := by
  rw [hs] at hn
  obtain ⟨h1, h2⟩ := erase_split n x hx post pre hn
  unfold St.del St.get
  rw [hs, h1, h2]
  rfl
theorem OkS.turn {s : St} (h : OkS s) {pre post : List SetE} {e x : SetE} {ps : List Pc} (hs : s.es = pre ++ e :: post) (hu : Upd e x ps) : OkS (s.withE (pre ++ x :: post)) := by
  have m : ∀ {β : Type} (f : SetE → β), f x = f e → (pre ++ x :: post).map f = s.es.map f := fun f hf => by
    rw [hs, List.map_append, List.map_append, List.map_cons, List.map_cons, hf]
  refine ⟨h.map, h.it, fun y hy => ?_, ?_, ?_, ?_, fun y hy => ?_⟩
  · rcases List.mem_append.1 hy with q | q
    · exact h.ok y (by rw [hs]; exact List.mem_append_left _ q)
    · rcases List.mem_cons.1 q with rfl | q
      · exact hu.ok
      · exact h.ok y (by rw [hs]; exact List.mem_append_right _ (List.mem_cons_of_mem _ q))
  · show ((pre ++ x :: post).map (·.nm)).Nodup
    rw [m _ hu.nm]; exact h.nms
  · show ((s.gs ++ (pre ++ x :: post)).map (·.sb)).Nodup
    rw [List.map_append, m _ hu.sb, ← List.map_append]; exact h.sbs
  · show ((pre ++ x :: post).map (·.born)).Nodup
    rw [m _ hu.born]; exact h.bns
  · show y.born < s.clk
    rcases List.mem_append.1 hy with q | q
    · exact h.lt y (by rw [hs]; exact List.mem_append_left _ q)
    · rcases List.mem_cons.1 q with rfl | q
      · rw [hu.born]; exact h.lt e (by rw [hs]; exact List.mem_append_right _ (List.mem_cons_self ..))
      · exact h.lt y (by rw [hs]; exact List.mem_append_right _ (List.mem_cons_of_mem _ q))
theorem sub_del {s : St} (n : Nm) : (s.del n).es.Sublist s.es := List.eraseP_sublist ..
theorem OkS.del {s : St} (h : OkS s) (n : Nm) : OkS (s.del n) :=
  ⟨h.map, h.it, fun y hy => h.ok y ((sub_del n).subset hy), ((sub_del n).map _).nodup h.nms, ((del_perm s n).map _).nodup_iff.2 h.sbs, ((sub_del n).map _).nodup h.bns, fun y hy => h.lt y ((sub_del n).subset hy)⟩
theorem get_no {s : St} {n : Nm} (h : s.get n = none) : ∀ e ∈ s.es, e.nm ≠ n := fun e he q => by
  have := List.find?_eq_none.1 h e he
  exact this (decide_eq_true q.symm)
theorem OkS.put {s : St} (h : OkS s) {n : Nm} {x : Nat} {u : BitVec 64} (hg : s.get n = none) (hx : ∀ e ∈ s.gs ++ s.es, e.sb ≠ x) : OkS (s.put (newE n s.clk x u)) := by
  refine ⟨h.map, h.it, fun y hy => ?_, ?_, ?_, ?_, fun y hy => ?_⟩
  · rcases List.mem_append.1 hy with q | q
    · exact h.ok y q
    · obtain rfl := List.mem_singleton.1 q
      exact ⟨fun _ => rfl, fun q => (by cases q), fun z hz => (by cases hz), by show 0 ≤ 33554431; decide⟩
  · show ((s.es ++ [newE n s.clk x u]).map (·.nm)).Nodup
    rw [List.map_append, List.nodup_append]
    refine ⟨h.nms, by simp, fun a ha b hb q => ?_⟩
    obtain ⟨y, hy, rfl⟩ := List.mem_map.1 ha
    obtain rfl := List.mem_singleton.1 hb
    exact get_no hg y hy q
  · show ((s.gs ++ (s.es ++ [newE n s.clk x u])).map (·.sb)).Nodup
    rw [← List.append_assoc, List.map_append, List.nodup_append]
    refine ⟨h.sbs, by simp, fun a ha b hb q => ?_⟩
    obtain ⟨y, hy, rfl⟩ := List.mem_map.1 ha
    obtain rfl := List.mem_singleton.1 hb
    exact hx y hy q
  · show ((s.es ++ [newE n s.clk x u]).map (·.born)).Nodup
    rw [List.map_append, List.nodup_append]
    refine ⟨h.bns, by simp, fun a ha b hb q => ?_⟩
    obtain ⟨y, hy, rfl⟩ := List.mem_map.1 ha
    obtain rfl := List.mem_singleton.1 hb
    have h1 := h.lt y hy
    have h2 : y.born = s.clk := q
    omega
  · show y.born < s.clk + 1
    rcases List.mem_append.1 hy with q | q
    · have := h.lt y q; omega
    · obtain rfl := List.mem_singleton.1 q
      exact Nat.lt_succ_self _
abbrev zPk : SV := .agg [.w32 0, .w32 0, .w8 0, .w8 0, .w16 0, .b false, .b false, .w16 0, .s []]
abbrev errT (z : Int) : SV := .tup [zPk, .b false, .i z]
abbrev madeT (n : Nm) (ps : List Pc) : SV := .tup [.agg [.w32 n.src, .w32 n.dst, .w8 n.proto, .w8 (pAt ps 0).2.2.2.1, .w16 n.id, .b false, .b false, .w16 0, .s (datW ps ps.length)], .b true, .i 0]
def TailP (s0 : St) (bb : Nat) (n : Nm) (at' : Int) (m : Tx) (more : Bool) (ttl : BitVec 8) (K1 : SV → St → Prop) : Prop :=
  (∃ pre e_1 post, s0.es = pre ++ e_1 :: post ∧ e_1.sb = bb ∧ okE e_1 ∧ e_1.len + 1 ≤ 33554431 ∧ okq at' m) ∧ ∀ (pre : List SetE) (e_1 : SetE) (post : List SetE) (x : SetE) (ps : List Pc) (z : Int), s0.es = pre ++ e_1 :: post → e_1.sb = bb → okE e_1 → Upd e_1 x ps → x.nb = false → AddP e_1.ps at' m more ttl ps z → bif z != 0 then K1 (errT z) ((s0.withE (pre ++ x :: post)).del n) else (∃ pre_1 e_2 post_1, (s0.withE (pre ++ x :: post)).es = pre_1 ++ e_2 :: post_1 ∧ e_2.sb = bb ∧ okE e_2 ∧ e_2.nb = false) ∧ ∀ (pre_1 : List SetE) (e_2 : SetE) (post_1 : List SetE) (x_1 : SetE), (s0.withE (pre ++ x :: post)).es = pre_1 ++ e_2 :: post_1 → e_2.sb = bb → okE e_2 → Upd e_2 x_1 e_2.ps → x_1.nb = false → bif !wholeP e_2.ps e_2.len then K1 (errT 0) ((s0.withE (pre ++ x :: post)).withE (pre_1 ++ x_1 :: post_1)) else (∃ pre_2 e_3 post_2, (((s0.withE (pre ++ x :: post)).withE (pre_1 ++ x_1 :: post_1)).del n).gs = pre_2 ++ e_3 :: post_2 ∧ e_3.sb = bb ∧ okE e_3 ∧ e_3.nb = false ∧ 0 < e_3.len) ∧ ∀ (pre_2 : List SetE) (e_3 : SetE) (post_2 : List SetE) (x_2 : SetE), (((s0.withE (pre ++ x :: post)).withE (pre_1 ++ x_1 :: post_1)).del n).gs = pre_2 ++ e_3 :: post_2 → e_3.sb = bb → okE e_3 → Upd e_3 x_2 e_3.ps → x_2.nb = false → K1 (.tup [.agg [.w32 n.src, .w32 n.dst, .w8 n.proto, .w8 (pAt e_3.ps 0).2.2.2.1, .w16 n.id, .b false, .b false, .w16 0, .s (datW e_3.ps e_3.len)], .b true, .i 0]) ((((s0.withE (pre ++ x :: post)).withE (pre_1 ++ x_1 :: post_1)).del n).withG (pre_2 ++ x_2 :: post_2))
theorem Upd.trans {e x y : SetE} {ps ps' : List Pc} (h : Upd e x ps) (k : Upd x y ps') : Upd e y ps' := ⟨k.nm.trans h.nm, k.born.trans h.born, k.sb.trans h.sb, k.u.trans h.u, k.ok, k.ps⟩
theorem tail_ok {s0 : St} (h : OkS s0) {pre post : List SetE} {e : SetE} {n : Nm} {at' : Int} {m : Tx} {more : Bool} {ttl : BitVec 8} {K1 : SV → St → Prop} (hs : s0.es = pre ++ e :: post) (hnm : e.nm = n) (hlen : e.len + 1 ≤ 33554431) (hq : okq at' m)
    (hErr : ∀ x ps z, Upd e x ps → AddP e.ps at' m more ttl ps z → z ≠ 0 → OkS { s0 with es := pre ++ post, gs := s0.gs ++ [x] } → K1 (errT z) { s0 with es := pre ++ post, gs := s0.gs ++ [x] })
    (hPart : ∀ x ps, Upd e x ps → AddP e.ps at' m more ttl ps 0 → wholeP ps ps.length = false → OkS (s0.withE (pre ++ x :: post)) → K1 (errT 0) (s0.withE (pre ++ x :: post)))
    (hMade : ∀ x ps, Upd e x ps → AddP e.ps at' m more ttl ps 0 → wholeP ps ps.length = true → OkS { s0 with es := pre ++ post, gs := s0.gs ++ [x] } → K1 (madeT n ps) { s0 with es := pre ++ post, gs := s0.gs ++ [x] }) : TailP s0 e.sb n at' m more ttl K1 := by
  have heo : okE e := h.ok e (by rw [hs]; exact List.mem_append_right _ (List.mem_cons_self ..))
  refine ⟨⟨pre, e, post, hs, rfl, heo, hlen, hq⟩, fun pre1 e1 post1 x ps z hs1 hb1 _ hu hnb hA => ?_⟩
  obtain ⟨rfl, rfl, rfl⟩ := uniq_split (·.sb) pre1 pre (hs1.symm.trans hs) (by rw [← hs1]; exact h.sbE) hb1
  have h1 := h.turn hs hu
  have dsp : ∀ y : SetE, y.nm = n → OkS (s0.withE (pre1 ++ y :: post1)) → (s0.withE (pre1 ++ y :: post1)).del n = { s0 with es := pre1 ++ post1, gs := s0.gs ++ [y] } := fun y hy hk => del_split rfl hy hk.nms
  cases hz : (z != 0)
  · obtain rfl : z = 0 := by simpa using hz
    refine ⟨⟨pre1, x, post1, rfl, hu.sb, hu.ok, hnb⟩, fun pre2 e2 post2 x1 hs2 hb2 ho2 hu1 hnb1 => ?_⟩
    obtain ⟨rfl, rfl, rfl⟩ := uniq_split (·.sb) pre2 pre1 (hs2.symm.trans rfl) (by rw [← hs2]; exact h1.sbE) (hb2.trans hu.sb.symm)
    have hw : wholeP e2.ps e2.len = wholeP ps ps.length := by rw [← ps_len ho2, hu.ps]
    rw [hw]
    have hu2 : Upd e1 x1 ps := by have := hu.trans hu1; rw [hu.ps] at this; exact this
    have h2 : OkS (s0.withE (pre2 ++ x1 :: post2)) := h.turn hs hu2
    cases hW : wholeP ps ps.length
    · exact hPart x1 ps hu2 hA hW h2
    · have hd := dsp x1 (hu2.nm.trans hnm) h2
      have hd' : (((s0.withE (pre2 ++ e2 :: post2)).withE (pre2 ++ x1 :: post2)).del n) = { s0 with es := pre2 ++ post2, gs := s0.gs ++ [x1] } := hd
      rw [hd']
      have hpos : 0 < x1.len := by
        have h9 : ps.length = x1.len := by rw [← hu2.ps, ps_len hu2.ok]
        rcases Nat.eq_zero_or_pos x1.len with q | q
        · rw [h9, q] at hW; cases hW
        · exact q
      have h3 : OkS { s0 with es := pre2 ++ post2, gs := s0.gs ++ [x1] } := by rw [← hd]; exact h2.del n
      refine ⟨⟨s0.gs, x1, [], rfl, hu2.sb, hu2.ok, hnb1, hpos⟩, fun pre3 e3 post3 x2 hs3 hb3 ho3 hu3 hnb3 => ?_⟩
      have hgd : ((s0.gs ++ [x1]).map (·.sb)).Nodup := by
        have := h3.sbs
        rw [List.map_append, List.nodup_append] at this
        exact this.1
      obtain ⟨rfl, rfl, rfl⟩ := uniq_split (·.sb) pre3 s0.gs (hs3.symm.trans rfl) (by rw [← hs3]; exact hgd) (hb3.trans hu2.sb.symm)
      have hu4 : Upd e1 x2 ps := by have := hu2.trans hu3; rw [hu2.ps] at this; exact this
      have h4 : OkS { s0 with es := pre2 ++ post2, gs := s0.gs ++ [x2] } := by rw [← dsp x2 (hu4.nm.trans hnm) (h.turn hs hu4)]; exact (h.turn hs hu4).del n
      have := hMade x2 ps hu4 hA hW h4
      rw [← ps_len ho3, hu2.ps]
      exact this
  · have hd := dsp x (hu.nm.trans hnm) h1
    have := hErr x ps z hu hA (by simpa using hz) (by rw [← hd]; exact h1.del n)
    rw [← hd] at this
    exact this
end Go.Proofs.Ytggoncamiafclab
