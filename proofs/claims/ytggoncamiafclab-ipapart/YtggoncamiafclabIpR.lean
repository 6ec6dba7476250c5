/-
  ip: what is done to one set of the resource: a piece added; whether it is whole; what it makes. No statement is proved here.
-/
import Derived.Test.YtggoncamiafclabIpQ
namespace Go.Proofs.Ytggoncamiafclab
open Go.RowKit
set_option linter.unusedVariables false
set_option linter.unusedSimpArgs false
set_option maxRecDepth 100000

def St.withE (s : St) (es : List SetE) : St := { s with es := es }
def St.withG (s : St) (gs : List SetE) : St := { s with gs := gs }
theorem res_callN {f : Nat} {xs : List SV} {M N : Mm} {k : Nat} {s : St} {pre post : List SetE} {e : SetE} {Q K : SV → Mm → Prop}
    (hk : M[k]? = some ⟨true, .res s⟩) (hw : s.was = false) (hs : s.es = pre ++ e :: post) (hN : M0 e = N)
    (hS : Spec Try.prog G f (.ptr 0 0 :: xs) N Q) (hx : SV.wf.wfs 0 xs = true)
    (hQ : ∀ r M1, Q r M1 → r.wf 0 = true ∧ ∃ x : SetE, x.nm = e.nm ∧ x.born = e.born ∧ x.sb = e.sb ∧ Desc M1 x ∧ ∀ rb, K r (M.set k ⟨true, .res (s.withE (pre ++ { x with rb := rb } :: post))⟩)) :
    Spec Try.prog G f (.v (.pointer (some ⟨e.sb, 0, none⟩)) :: xs) M K :=
  res_call (pre := s.gs ++ pre) (post := post) hk hw (by rw [hs, List.append_assoc]) (fun x => s.withE (pre ++ x :: post)) (fun x h1 h2 h3 => ⟨⟨hw, rfl, rfl⟩, by show s.gs ++ (pre ++ x :: post) = _; rw [List.append_assoc], by
    show (pre ++ x :: post).map SetE.entry = _
    rw [hs, List.map_append, List.map_append, List.map_cons, List.map_cons]
    congr 2
    unfold SetE.entry
    rw [h1, h2, h3]⟩) (by rw [hN]; exact hS) hx hQ
theorem res_callG {f : Nat} {xs : List SV} {M N : Mm} {k : Nat} {s : St} {pre post : List SetE} {e : SetE} {Q K : SV → Mm → Prop}
    (hk : M[k]? = some ⟨true, .res s⟩) (hw : s.was = false) (hs : s.gs = pre ++ e :: post) (hN : M0 e = N)
    (hS : Spec Try.prog G f (.ptr 0 0 :: xs) N Q) (hx : SV.wf.wfs 0 xs = true)
    (hQ : ∀ r M1, Q r M1 → r.wf 0 = true ∧ ∃ x : SetE, x.nm = e.nm ∧ x.born = e.born ∧ x.sb = e.sb ∧ Desc M1 x ∧ ∀ rb, K r (M.set k ⟨true, .res (s.withG (pre ++ { x with rb := rb } :: post))⟩)) :
    Spec Try.prog G f (.v (.pointer (some ⟨e.sb, 0, none⟩)) :: xs) M K :=
  res_call (pre := pre) (post := post ++ s.es) hk hw (by rw [hs, List.append_assoc]; rfl) (fun x => s.withG (pre ++ x :: post)) (fun x h1 h2 h3 => ⟨⟨hw, rfl, rfl⟩, by show (pre ++ x :: post) ++ s.es = _; rw [List.append_assoc]; rfl, rfl⟩) (by rw [hN]; exact hS) hx hQ
/-- The pieces of a set. -/
def SetE.ps (e : SetE) : List Pc := e.l.take e.len
/-- A set as it can be. -/
structure okE (e : SetE) : Prop where
  nil : e.nb = true → e.len = 0
  row : e.nb = false → e.len ≤ e.cap ∧ e.l.length = e.cap
  ok : okR e.ps
  few : e.len ≤ 33554431
/-- The same set, its pieces turned. -/
structure Upd (e x : SetE) (ps : List Pc) : Prop where
  nm : x.nm = e.nm
  born : x.born = e.born
  sb : x.sb = e.sb
  u : x.u = e.u
  ok : okE x
  ps : x.ps = ps
/-- What `add` makes of pieces, and answers. -/
def AddP (ps : List Pc) (a : Int) (m : Tx) (b : Bool) (t : BitVec 8) (ps' : List Pc) (z : Int) : Prop :=
  (ps.any (pcq a m b) = true ∧ ps' = ps ∧ z = 0) ∨ (ps.any (pcq a m b) = false ∧ ps'.Perm (ps ++ [(a, m, b, t, ())]) ∧ upP ps' ∧ ((Fits ps' ∧ z = 0) ∨ (¬ Fits ps' ∧ z = 181)))
theorem ps_len {e : SetE} (h : okE e) : e.ps.length = e.len := by
  unfold SetE.ps
  rw [List.length_take]
  cases hn : e.nb
  · have := h.row hn; omega
  · have := h.nil hn; omega
def resAt (M : Mm) (K : St → Prop) : Prop := match (M[1]? : Option Ent) with
  | some ⟨true, .res s⟩ => vsome (!s.was) (K s)
  | _ => False
theorem resAt_ok {M : Mm} {K : St → Prop} (h : resAt M K) : ∃ s, M[1]? = some ⟨true, .res s⟩ ∧ s.was = false ∧ K s := by
  unfold resAt at h
  split at h
  · rename_i s hs
    obtain ⟨h1, h2⟩ := vsome_iff.1 h
    exact ⟨s, hs, by simpa using h1, h2⟩
  · exact h.elim
def cAdd : List SV → Mm → (SV → Mm → Prop) → Prop
  | [.v (.pointer (some ⟨b, 0, none⟩)), .agg [.i a, .s m, .b bb, .w8 t]], M, K => resAt M fun s => (∃ pre e post, s.es = pre ++ e :: post ∧ e.sb = b ∧ okE e ∧ e.len + 1 ≤ 33554431 ∧ okq a m) ∧ ∀ pre e post x ps z, s.es = pre ++ e :: post → e.sb = b → okE e → Upd e x ps → x.nb = false → AddP e.ps a m bb t ps z → setK M 1 ⟨true, .res (s.withE (pre ++ x :: post))⟩ fun M2 => K (.i z) M2
  | _, _, _ => False
theorem add_ok : COk Try.prog G 21 cAdd := by
  intro args M K h
  unfold cAdd at h
  split at h
  · rename_i b a m bb t
    obtain ⟨s, hk, hw, ⟨pre, e, post, hs, rfl, he, hlen, hq⟩, hK⟩ := resAt_ok h
    replace hK := fun x ps z => hK pre e post x ps z hs rfl he
    have fin : ∀ (x : SetE) (ps : List Pc) (z : Int), (∀ rb, Upd e { x with rb := rb } ps) → x.nb = false → AddP e.ps a m bb t ps z → ∀ rb, K (.i z) (M.set 1 ⟨true, .res (s.withE (pre ++ { x with rb := rb } :: post))⟩) := fun x ps z h1 h3 h2 rb => by
      have := hK { x with rb := rb } ps z (h1 rb) h3 h2
      rwa [setK_eq] at this
    cases hn : e.nb
    · -- a row is there
      obtain ⟨hl, hc⟩ := he.row hn
      have hS := s51 e.u e.l e.len e.cap a m bb t hl hc (by omega) he.ok hq
      have hm : M0 e = Mr e.u e.l e.len e.cap := by unfold M0; rw [hn]; rfl
      refine res_callN hk hw hs hm hS rfl (fun r M1 hr => ?_)
      rcases hr with ⟨h1, rfl, rfl⟩ | ⟨h1, n, cap', L, hL, ⟨rfl, h3, h4, h5⟩, hE, rfl⟩
      · refine ⟨rfl, e, rfl, rfl, rfl, ⟨.rs 1 0 0 4 e.len e.cap, rfl, .inr ⟨hn, 1, by decide, rfl, rfl⟩⟩, fin e e.ps 0 (fun rb => ⟨rfl, rfl, rfl, rfl, ⟨he.nil, he.row, he.ok, he.few⟩, rfl⟩) hn (.inl ⟨h1, rfl, rfl⟩)⟩
      · have hok : okR (L.take (e.len + 1)) := okR_perm h4 (fun x hx => (List.mem_append.1 hx).elim (he.ok x) (fun q => by obtain rfl := List.mem_singleton.1 q; exact hq))
        have hx : ∀ z, ((Fits (L.take (e.len + 1)) ∧ z = 0) ∨ (¬ Fits (L.take (e.len + 1)) ∧ z = 181)) → ∀ rb, K (.i z) (M.set 1 ⟨true, .res (s.withE (pre ++ { ({ e with len := e.len + 1, cap := cap', l := L } : SetE) with rb := rb } :: post))⟩) := fun z hz => fin { e with len := e.len + 1, cap := cap', l := L } (L.take (e.len + 1)) z (fun rb => ⟨rfl, rfl, rfl, rfl, ⟨fun q => (by rw [show e.nb = true from q] at hn; cases hn), fun _ => ⟨by rw [← hL]; exact h3, hL⟩, hok, hlen⟩, rfl⟩) hn (.inr ⟨h1, h4, h5, hz⟩)
        have hD : Desc (MR e.u (e.len + 1) cap' a m bb t L) { e with len := e.len + 1, cap := cap', l := L } := ⟨.rs 4 0 0 4 (e.len + 1) cap', rfl, .inr ⟨hn, 4, by decide, rfl, rfl⟩⟩
        rcases hE with ⟨h6, rfl⟩ | ⟨h6, rfl⟩
        · exact ⟨rfl, { e with len := e.len + 1, cap := cap', l := L }, rfl, rfl, rfl, hD, hx 0 (.inl ⟨h6, rfl⟩)⟩
        · exact ⟨rfl, { e with len := e.len + 1, cap := cap', l := L }, rfl, rfl, rfl, hD, hx 181 (.inr ⟨h6, rfl⟩)⟩
    · have hm : M0 e = Mz e.u := by unfold M0; rw [hn]; rfl
      have hl0 := he.nil hn
      have hp : e.ps = [] := by unfold SetE.ps; rw [hl0]; rfl
      refine res_callN hk hw hs hm (s51z e.u a m bb t hq) rfl (fun r M1 hr => ?_)
      obtain ⟨rfl, cap', L, hL, ⟨-, h3, h4, h5⟩, rfl⟩ := hr
      have h4' : (L.take 1).Perm [(a, m, bb, t, ())] := h4
      have hok : okR (L.take 1) := okR_perm h4' (fun x hx => by obtain rfl := List.mem_singleton.1 hx; exact hq)
      refine ⟨rfl, { e with nb := false, len := 1, cap := cap', l := L }, rfl, rfl, rfl, ⟨.rs 3 0 0 4 1 cap', rfl, .inr ⟨rfl, 3, by decide, rfl, rfl⟩⟩, fin _ (L.take 1) 0 (fun rb => ⟨rfl, rfl, rfl, rfl, ⟨fun q => (by cases q), fun _ => ⟨by show 1 ≤ cap'; rw [← hL]; exact h3, hL⟩, hok, by show 1 ≤ 33554431; decide⟩, rfl⟩) rfl (.inr ⟨by rw [hp]; rfl, by rw [hp]; exact h4', h5, .inl ⟨fits1 _ (by rw [List.length_take]; omega), rfl⟩⟩)⟩
  · exact h.elim
-- whether it is whole; what it makes
theorem goodW_take (l : List Pc) (len : Nat) : ∀ k, k ≤ len → goodW (l.take len) k = goodW l k ∧ (∀ j, j ≤ k → endW (l.take len) j = endW l j ∧ moreW (l.take len) j = moreW l j)
  | 0, _ => ⟨rfl, fun j hj => by obtain rfl : j = 0 := by omega
                                 exact ⟨rfl, rfl⟩⟩
  | k + 1, h => by
    obtain ⟨h1, h2⟩ := goodW_take l len k (by omega)
    have hp : pAt (l.take len) k = pAt l k := getD_take _ _ _ _ (by omega)
    refine ⟨?_, fun j hj => ?_⟩
    · show (goodW (l.take len) k && _) = (goodW l k && _)
      rw [h1, (h2 k (Nat.le_refl _)).1, hp]
    · rcases Nat.lt_or_eq_of_le hj with q | rfl
      · exact h2 j (by omega)
      · exact ⟨congrArg endP hp, congrArg (fun c : Pc => c.2.2.1) hp⟩
theorem wholeP_take (l : List Pc) (len : Nat) : wholeP (l.take len) len = wholeP l len := by
  obtain ⟨h1, h2⟩ := goodW_take l len len (Nat.le_refl _)
  unfold wholeP
  rw [h1, (h2 len (Nat.le_refl _)).2]
theorem datW_take (l : List Pc) (len : Nat) : ∀ k, k ≤ len → datW (l.take len) k = datW l k
  | 0, _ => rfl
  | k + 1, h => by
    show datW (l.take len) k ++ _ = datW l k ++ _
    rw [datW_take l len k (by omega), show pAt (l.take len) k = pAt l k from getD_take _ _ _ _ (by omega)]
def cWh : List SV → Mm → (SV → Mm → Prop) → Prop
  | [.v (.pointer (some ⟨b, 0, none⟩))], M, K => resAt M fun s => (∃ pre e post, s.es = pre ++ e :: post ∧ e.sb = b ∧ okE e ∧ e.nb = false) ∧ ∀ pre e post x, s.es = pre ++ e :: post → e.sb = b → okE e → Upd e x e.ps → x.nb = false → setK M 1 ⟨true, .res (s.withE (pre ++ x :: post))⟩ fun M2 => K (.b (wholeP e.ps e.len)) M2
  | _, _, _ => False
theorem whole_ok : COk Try.prog G 22 cWh := by
  intro args M K h
  unfold cWh at h
  split at h
  · rename_i b
    obtain ⟨s, hk, hw, ⟨pre, e, post, hs, rfl, he, hn⟩, hK⟩ := resAt_ok h
    replace hK := fun x => hK pre e post x hs rfl he
    obtain ⟨hl, hc⟩ := he.row hn
    have hm : M0 e = Mr e.u e.l e.len e.cap := by unfold M0; rw [hn]; rfl
    have hf := he.few
    refine res_callN hk hw hs hm (s52 e.u e.l e.len e.cap (by omega) (by omega) he.ok) rfl (fun r M1 hr => ?_)
    obtain ⟨rfl, rfl⟩ := hr
    refine ⟨rfl, e, rfl, rfl, rfl, ⟨.rs 1 0 0 4 e.len e.cap, rfl, .inr ⟨hn, 1, by decide, rfl, rfl⟩⟩, fun rb => ?_⟩
    have := hK { e with rb := rb } ⟨rfl, rfl, rfl, rfl, ⟨he.nil, he.row, he.ok, he.few⟩, rfl⟩ hn
    rw [setK_eq] at this
    rw [show wholeP e.ps e.len = wholeP e.l e.len from wholeP_take _ _] at this
    exact this
  · exact h.elim
def cPk : List SV → Mm → (SV → Mm → Prop) → Prop
  | [.v (.pointer (some ⟨b, 0, none⟩)), .agg [.w32 n1, .w32 n2, .w8 n3, .w16 n4]], M, K => resAt M fun s => (∃ pre e post, s.gs = pre ++ e :: post ∧ e.sb = b ∧ okE e ∧ e.nb = false ∧ 0 < e.len) ∧ ∀ pre e post x, s.gs = pre ++ e :: post → e.sb = b → okE e → Upd e x e.ps → x.nb = false → setK M 1 ⟨true, .res (s.withG (pre ++ x :: post))⟩ fun M2 => K (.agg [.w32 n1, .w32 n2, .w8 n3, .w8 (pAt e.ps 0).2.2.2.1, .w16 n4, .b false, .b false, .w16 0, .s (datW e.ps e.len)]) M2
  | _, _, _ => False
theorem packet_ok : COk Try.prog G 23 cPk := by
  intro args M K h
  unfold cPk at h
  split at h
  · rename_i b n1 n2 n3 n4
    obtain ⟨s, hk, hw, ⟨pre, e, post, hs, rfl, he, hn, h0⟩, hK⟩ := resAt_ok h
    replace hK := fun x => hK pre e post x hs rfl he
    obtain ⟨hl, hc⟩ := he.row hn
    have hm : M0 e = Mr e.u e.l e.len e.cap := by unfold M0; rw [hn]; rfl
    have hf := he.few
    refine res_callG hk hw hs hm (s53 e.u e.l e.len e.cap n1 n2 n3 n4 (by omega) h0 (by omega) he.ok) rfl (fun r M1 hr => ?_)
    obtain ⟨rfl, h1, h2⟩ := hr
    refine ⟨rfl, e, rfl, rfl, rfl, ⟨.rs 1 0 0 4 e.len e.cap, h1, .inr ⟨hn, 1, by decide, rfl, h2⟩⟩, fun rb => ?_⟩
    have := hK { e with rb := rb } ⟨rfl, rfl, rfl, rfl, ⟨he.nil, he.row, he.ok, he.few⟩, rfl⟩ hn
    rw [setK_eq] at this
    rw [show datW e.ps e.len = datW e.l e.len from datW_take _ _ _ (Nat.le_refl _), show pAt e.ps 0 = pAt e.l 0 from getD_take _ _ _ _ h0] at this
    exact this
  · exact h.elim
end Go.Proofs.Ytggoncamiafclab
