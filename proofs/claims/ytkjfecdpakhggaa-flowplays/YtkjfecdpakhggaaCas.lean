/-
  flow: arguments that are slices of records; scripts. No statement is proved here.
-/
import Derived.Test.YtkjfecdpakhggaaFqH
import Derived.Deep.Slices
import Derived.SliceStrings
import Derived.Test.YtkjfecdpakhggaaFqG
namespace Go.Proofs.Ytkjfecdpakhggaa
open Go.RowKit Go.ChangeShapes Go.WideShapes Go.Deep
set_option linter.unusedVariables false
set_option linter.unusedSimpArgs false
set_option maxRecDepth 100000

theorem bts_len (s : ByteArray) : (bts s).length = s.size := by simp [bts]
theorem c8_of {n : Int} (h : (Lit.int .u8 n).wf = true) : c8 (BitVec.ofInt 8 n) = .int .u8 n := by unfold c8; rw [u8_of h]
theorem c16_of {n : Int} (h : (Lit.int .u16 n).wf = true) : c16 (BitVec.ofInt 16 n) = .int .u16 n := by unfold c16; rw [u16_of h]
theorem c32_of {n : Int} (h : (Lit.int .u32 n).wf = true) : c32 (BitVec.ofInt 32 n) = .int .u32 n := by unfold c32; rw [u32_of h]
theorem c64_of {n : Int} (h : (Lit.int .u64 n).wf = true) : c64 (BitVec.ofInt 64 n) = .int .u64 n := by unfold c64; rw [u64_of h]
section
variable {H : Type} {enc : TypeId × Value → H} {w : World} {base : Nat} {sp : Nat → Bool} {held : Bool}
theorem weights_all {P : Program} {e : TypeId} {n : Nat} : ∀ {l : List (DataW H)} {x : DataW H}, x ∈ l → n ∈ x.weights P e → n ∈ DataW.weightsAll P e l
  | y :: l, x, hx, hn => by
    rw [DataW.weightsAll]
    rcases List.mem_cons.1 hx with rfl | hx
    · exact List.mem_append_left _ hn
    · exact List.mem_append_right _ (weights_all hx hn)
end
theorem rows_cell (fs : List Fk) (hp : 0 < fs.length) (l : List (Rc fs)) {j : Nat} {v : Value} (h : (rows fs l)[j]? = some v) : j / fs.length < l.length ∧ (rvs fs (l.getD (j / fs.length) (rz fs)))[j % fs.length]? = some v := by
  have h1 : j < l.length * fs.length := by
    rw [← rows_len]
    rcases Nat.lt_or_ge j (rows fs l).length with q | q
    · exact q
    · rw [List.getElem?_eq_none q] at h; cases h
  have h2 : j / fs.length < l.length := (Nat.div_lt_iff_lt_mul hp).2 h1
  refine ⟨h2, ?_⟩
  rw [← rows_get fs l _ h2, List.getElem?_take_of_lt (Nat.mod_lt _ hp), List.getElem?_drop]
  rw [show j / fs.length * fs.length + j % fs.length = j by rw [Nat.mul_comm]; exact Nat.div_add_mod j fs.length]
  exact h
/-- An argument that is a slice: nothing is in it, or rows of what its elements are. -/
theorem open_rows {H : Type} {enc : TypeId × Value → H} {W : World} {fs : List Fk} (hp : 0 < fs.length) {sl el : TypeId} (hu : Try.prog.underlying sl = some (.slice el)) (hc : Try.prog.cellsOf el = fs.length) (hb1 : 0 < Try.prog.bytesOf el) (fw : Rc fs → List Nat)
    (hopen : ∀ (fuel : Nat) (cs : List Value) (y : DataW H × List MemPlace), DataW.trod enc Try.prog W 0 (fun _ => true) true fuel el cs = some y → ∃ r : Rc fs, cs = rvs fs r ∧ ∀ n ∈ fw r, n ∈ y.1.weights Try.prog el)
    {v : Value} {d : DataW H} {ps : List MemPlace} (hv : ∃ a len cap, v = .slice a len cap) (h : DataW.Trod enc Try.prog W 0 (fun _ => true) true sl v d ps) (hz : ∀ n ∈ d.weights Try.prog sl, n ≤ 140737488355328) :
    (∃ a c, v = .slice a 0 c) ∨ ∃ (b len : Nat) (pre : List Value) (l : List (Rc fs)), v = .slice (some ⟨b, pre.length, none⟩) len l.length ∧ 0 < len ∧ len ≤ l.length ∧ l.length ≤ 140737488355328 ∧ Holds W b false (pre ++ rows fs l) ∧ ∀ r ∈ l, ∀ n ∈ fw r, n ≤ 140737488355328 := by
  obtain ⟨a1, len0, cap0, rfl⟩ := hv
  obtain ⟨fuel, hf⟩ := h
  rcases open_slice hu hf with ⟨hcs, _⟩ | ⟨a, len, cap, m, n, D, Pl, hcs, _, hl, hm, hmm, hxd, hx⟩
  · simp [Value.cells] at hcs
    obtain ⟨rfl, rfl, rfl⟩ := hcs
    exact .inl ⟨_, _, rfl⟩
  · simp [Value.cells] at hcs
    obtain ⟨rfl, rfl, rfl⟩ := hcs
    rw [if_pos rfl] at hmm
    subst hmm
    rcases Nat.eq_zero_or_pos len0 with h0 | h0
    · subst h0
      exact .inl ⟨_, _, rfl⟩
    · rw [hc] at hx
      haveI : Inhabited (Rc fs) := ⟨rz fs⟩
      obtain ⟨rf, hrf⟩ := choose_lt (n := m) (α := Rc fs) (p := fun i r => W.cells? 0 (a.add (i * fs.length)) fs.length = some (rvs fs r) ∧ ∀ n ∈ fw r, n ∈ (D i).weights Try.prog el) (fun i hi => by
        obtain ⟨cs', h1, h2⟩ := hx i hi
        obtain ⟨r, rfl, h3⟩ := hopen _ _ _ h2
        exact ⟨r, h1, h3⟩)
      have cell0 : ∀ i, i < m → ∀ t, t < fs.length → W.cell? ((a.add (i * fs.length)).add t) = (rvs fs (rf i))[t]? := fun i hi t ht => (World.cells?_some (hrf i hi).1).2.2 t ht
      obtain ⟨b, o, spot⟩ := a
      obtain ⟨v0, hv0⟩ : ∃ v0, (rvs fs (rf 0))[0]? = some v0 := ⟨_, List.getElem?_eq_getElem (by rw [rvs_len]; exact hp)⟩
      have hspot : spot = none := by
        have := cell0 0 (by omega) 0 hp
        rw [hv0] at this
        have h1 := World.cell?_spot this
        unfold Addr.add at h1
        cases spot with
        | none => rfl
        | some s => simp at h1
      subst hspot
      have cell : ∀ i, i < m → ∀ t, t < fs.length → W.cell? ⟨b, o + (i * fs.length + t), none⟩ = (rvs fs (rf i))[t]? := fun i hi t ht => by
        have := cell0 i hi t ht
        rw [Go.WideShapes.add_plain, Go.WideShapes.add_plain, Nat.add_assoc] at this
        exact this
      have hv00 : W.cell? ⟨b, o + (0 * fs.length + 0), none⟩ = some v0 := (cell 0 (by omega) 0 hp).trans hv0
      obtain ⟨cs, t, fr, hb⟩ : ∃ cs t fr, W.heap[b]? = some (.cells cs t fr) := by
        have := hv00
        unfold World.cell? at this
        split at this
        · rename_i cs t fr e; exact ⟨cs, t, fr, e⟩
        · cases this
      have at' : ∀ j, W.cell? ⟨b, j, none⟩ = cs[j]? := fun j => by simp [World.cell?, hb]
      have hsz : o < cs.size := by
        have := hv00
        rw [at'] at this
        have h1 := (Array.getElem?_eq_some_iff.1 this).1
        omega
      have hpl : (cs.toList.take o).length = o := by rw [List.length_take, Array.length_toList]; omega
      let l : List (Rc fs) := (List.range m).map rf
      have ll : l.length = m := by simp [l]
      have lg : ∀ i, i < m → l.getD i (rz fs) = rf i := fun i hi => by
        rw [List.getD_eq_getElem?_getD, List.getElem?_map, List.getElem?_range hi]; rfl
      have hh : Holds W b false (cs.toList.take o ++ rows fs l) := by
        refine ⟨?_, fun j v hv => ?_, (fun h => nomatch h), (fun s h => nomatch h), (fun h => nomatch h), (fun h => nomatch h)⟩
        · rcases Nat.lt_or_ge b W.heap.size with q | q
          · exact q
          · rw [Array.getElem?_eq_none q] at hb; cases hb
        · rcases Nat.lt_or_ge j o with q | q
          · rw [List.getElem?_append_left (by omega), List.getElem?_take_of_lt q, Array.getElem?_toList] at hv
            rw [at']; exact hv
          · rw [List.getElem?_append_right (by omega), hpl] at hv
            obtain ⟨h1, h2⟩ := rows_cell fs hp l hv
            rw [ll] at h1
            rw [lg _ h1] at h2
            have := cell _ h1 ((j - o) % fs.length) (Nat.mod_lt _ hp)
            have e : (j - o) / fs.length * fs.length + (j - o) % fs.length = j - o := by rw [Nat.mul_comm]; exact Nat.div_add_mod _ _
            rw [e, show o + (j - o) = j by omega, h2] at this
            exact this
      obtain rfl : d = _ := congrArg Prod.fst hxd
      have hw : DataW.weights Try.prog sl (DataW.slice ((List.range len0).map D) ((List.range (m - len0)).map fun j => D (len0 + j))) = (((List.range len0).map D).length + ((List.range (m - len0)).map fun j => D (len0 + j)).length) * Try.prog.bytesOf el :: (DataW.weightsAll Try.prog el ((List.range len0).map D) ++ DataW.weightsAll Try.prog el ((List.range (m - len0)).map fun j => D (len0 + j))) := by
        simp only [DataW.weights, hu]
      have hlen : m ≤ 140737488355328 := by
        have q := hz _ (by rw [hw]; exact List.mem_cons_self)
        rw [List.length_map, List.length_map, List.length_range, List.length_range, show len0 + (m - len0) = m by omega] at q
        exact Nat.le_trans (Nat.le_mul_of_pos_right _ hb1) q
      refine .inr ⟨b, len0, cs.toList.take o, l, ?_, h0, by omega, by omega, hh, fun r hr x hx' => ?_⟩
      · rw [hpl, ll]
      · obtain ⟨i, hi, rfl⟩ := List.mem_map.1 hr
        rw [List.mem_range] at hi
        refine hz x ?_
        rw [hw]
        refine List.mem_cons_of_mem _ ?_
        rcases Nat.lt_or_ge i len0 with q | q
        · exact List.mem_append_left _ (weights_all (List.mem_map.2 ⟨i, List.mem_range.2 q, rfl⟩) ((hrf i hi).2 x hx'))
        · exact List.mem_append_right _ (weights_all (x := D i) (List.mem_map.2 ⟨i - len0, List.mem_range.2 (by omega), by rw [show len0 + (i - len0) = i by omega]⟩) ((hrf i hi).2 x hx'))
theorem cells3 : Try.prog.cellsOf 3 = 1 := by kernel_rfl
theorem cells4 : Try.prog.cellsOf 4 = 1 := by kernel_rfl
theorem cells9 : Try.prog.cellsOf 9 = 1 := by kernel_rfl
theorem cells22 : Try.prog.cellsOf 22 = 1 := by kernel_rfl
theorem cells36 : Try.prog.cellsOf 36 = 5 := by kernel_rfl
theorem bytes36 : 0 < Try.prog.bytesOf 36 := of_decide_eq_true (by kernel_rfl)
theorem open_step {H : Type} {enc : TypeId × Value → H} {W : World} (fuel : Nat) (cs : List Value) (y : DataW H × List MemPlace) (hf : DataW.trod enc Try.prog W 0 (fun _ => true) true fuel 36 cs = some y) : ∃ r : Sr, cs = rvs SF r ∧ ∀ n ∈ [r.2.1.length], n ∈ y.1.weights Try.prog 36 := by
  obtain ⟨xs, k, rfl, hx, hlen, hxl, hfl⟩ := DataW.trod_struct Try.underlying36 hf
  rw [cells36] at hlen
  match xs, hxl, cs, hlen with
  | [y0, y1, y2, y3, y4], _, [v0, v1, v2, v3, v4], _ =>
    have f0 := hfl 0 _ rfl
    have f1 := hfl 1 _ rfl
    have f2 := hfl 2 _ rfl
    have f3 := hfl 3 _ rfl
    have f4 := hfl 4 _ rfl
    simp [cells3, cells4, cells9, cells22] at f0 f1 f2 f3 f4
    obtain ⟨n0, e0, x0, w0⟩ := DataW.trod_int Try.underlying22 f0
    obtain ⟨n1, e1, x1, w1⟩ := DataW.trod_string Try.underlying9 f1
    obtain ⟨n2, e2, x2⟩ := DataW.trod_bool Try.underlying4 f2
    obtain ⟨n3, e3, x3⟩ := DataW.trod_bool Try.underlying4 f3
    obtain ⟨n4, e4, x4, w4⟩ := DataW.trod_int Try.underlying3 f4
    simp only [List.cons.injEq, and_true] at e0 e1 e2 e3 e4
    subst e0; subst e1; subst e2; subst e3; subst e4
    subst x0; subst x1; subst x2; subst x3; subst x4
    subst hx
    refine ⟨(BitVec.ofInt 32 n0, bts n1, n2, n3, n4, ()), ?_, fun n hn => ?_⟩
    · simp only [rvs, Fk.v, txt_bts, c32_of w0]
    · obtain rfl := List.mem_singleton.1 hn
      simp only [bts_len]
      simp [DataW.weights, DataW.weightsEach, Try.underlying36]
def scrB (b : Nat) : Nat → Nat := fun i => if i = 0 then b else i
theorem rel_scr {W : World} {pre : List Value} {l : List Sr} {b : Nat} (hh : Holds W b false (pre ++ rows SF l)) : Rel G (scrB b) (mH pre l) W := by
  refine ⟨fun k e he hc => ?_, fun i j x y hx hy hij hr => ?_, fun g hg => absurd hg (Nat.not_lt_zero g), Nat.zero_le _, fun k hk => absurd hk (Nat.not_lt_zero k), fun k e he => (by cases he), fun k e he => ?_⟩
  · match k, he with
    | 0, he => cases he; exact (At_of rfl).2 hh
    | k + 1, he => cases he
  · match i, hx with
    | 0, hx => cases hx; cases hr
    | k + 1, hx => cases hx
  · match k, he with
    | 0, he => cases he; rfl
    | k + 1, he => cases he
theorem scr_ro (pre : List Value) (l : List Sr) : ∀ (k : Nat) (e : Ent), (mH pre l)[k]? = some e → e.rw = false := fun k e he => by
  match k, he with
  | 0, he => cases he; rfl
  | k + 1, he => cases he
end Go.Proofs.Ytkjfecdpakhggaa
namespace Go.Proofs.Ytkjfecdpakhggaa
open Go.RowKit
set_option linter.unusedVariables false
set_option linter.unusedSimpArgs false
set_option maxRecDepth 100000

theorem heldA_all {f : Nat → Option (BitVec 8)} : ∀ {k : Nat}, (∀ j, j < k → (f j).isSome = true) → heldA f k = k
  | 0, _ => rfl
  | k + 1, h => by
    unfold heldA
    rw [heldA_all fun j hj => h j (by omega), if_pos (h k (by omega))]
theorem heldA_shift {f : Nat → Option (BitVec 8)} {k : Nat} (h : ∀ j, j < k → (f j).isSome = true) : ∀ n, heldA f (n + k) = k + heldA (fun j => f (j + k)) n
  | 0 => by rw [Nat.zero_add, heldA_all h]; rfl
  | n + 1 => by
    have ih := heldA_shift h n
    show heldA f (n + 1 + k) = k + (heldA (fun j => f (j + k)) n + (if (f (n + k)).isSome = true then 1 else 0))
    rw [show n + 1 + k = n + k + 1 by omega]
    show heldA f (n + k) + (if (f (n + k)).isSome = true then 1 else 0) = _
    rw [ih]; omega
theorem hoS_len (a sq rm : BitVec 32) (d : Tx) (s : St) : ∀ i, (hoS a sq rm d s i).len ≤ s.len + i
  | 0 => Nat.le_refl _
  | i + 1 => by
    have ih := hoS_len a sq rm d s i
    rw [hoS_next]
    cases !((hoS a sq rm d s i).get (sq + BitVec.ofInt 32 (i : Int))).isSome && (sq + BitVec.ofInt 32 (i : Int) - a).ult rm
    · rw [cond_false]; omega
    · rw [cond_true, len_put]
      split <;> omega
theorem PQa.grow {p : QuP} {q : Qa} (h : PQa p q) {d : Tx} (ho : q.off d = false) (sq : BitVec 32) : heldA (q.f1 sq d) q.win ≤ q.held + d.length := by
  obtain ⟨hd, hl⟩ := Qa.off_false ho
  have hw := h.ok.win
  have hlim := h.ok.lim hd
  have hmap : MapP (stM p.mp p.clk p.es) q.a q.f := by rw [← h.a]; exact h.map
  have hm := hmap.hold h.ok hd sq (BitVec.ofNat 32 q.lim) d hl (by simp; omega)
  have h1 := hm.len hw fun j hj => h.ok.f1w hd sq d j hj
  have h2 := hoS_len q.a sq (BitVec.ofNat 32 q.lim) d (stM p.mp p.clk p.es) d.length
  have h3 : (stM p.mp p.clk p.es).len = q.held := h.len
  omega
/-- What Put makes of the numbers that are shown. -/
structure PutW (q q' : Qa) (D : Nat) : Prop where
  gone : (q'.a - q.a).toNat ≤ q.win + 1
  kept : q'.rd.length + q'.held ≤ q.z
  more : q'.rd.length + q'.held ≤ q.rd.length + q.held + D
  rd : q.rd.length ≤ q'.rd.length
  z : q'.z = q.z
theorem held_le {q : Qa} (h : q.Ok) : q.rd.length + q.held ≤ q.z := by
  have h1 := heldA_le q.f q.win
  have h2 := h.rl
  have h3 : q.win = q.z - q.rd.length := rfl
  have h4 : q.held = heldA q.f q.win := rfl
  omega
theorem bv_gone (a : BitVec 32) (k : Nat) (hk : k ≤ 65537) : (a + BitVec.ofNat 32 k - a).toNat = k := bv_back a k (by omega)
theorem putW {p : QuP} {q : Qa} (h : PQa p q) (sq : BitVec 32) (d : Tx) (fin : Bool) : PutW q (q.put sq d fin) d.length := by
  have hk0 := held_le h.ok
  cases ho : q.off d
  rotate_left
  · rw [Qa.put_off ho]
    refine ⟨?_, hk0, by omega, Nat.le_refl _, rfl⟩
    rw [BitVec.sub_self]; exact Nat.zero_le _
  obtain ⟨hd, hl⟩ := Qa.off_false ho
  have hok := h.ok.put sq d fin
  have hk1 := held_le hok
  have hw := h.ok.win
  have hg := h.grow ho sq
  obtain ⟨hkn, hkw⟩ := h.ok.cnt hd sq d
  rw [Qa.put_on ho] at hok hk1 ⊢
  generalize cntA (q.f1 sq d) = k at hkn hkw hok hk1 ⊢
  have hlen : (q.pu (q.f1 sq d) (q.e1 sq d fin) k).rd.length = q.rd.length + k := by
    show (q.rd ++ byA (q.f1 sq d) k).length = _
    rw [List.length_append, byA_len]
  have hww : (q.pu (q.f1 sq d) (q.e1 sq d fin) k).win = q.win - k := by
    show q.z - (q.rd ++ byA (q.f1 sq d) k).length = q.z - q.rd.length - k
    rw [List.length_append, byA_len]; omega
  have hsh := heldA_shift (f := q.f1 sq d) (k := k) hkn.all (q.win - k)
  rw [Nat.sub_add_cancel hkw] at hsh
  have hheld : (q.pu (q.f1 sq d) (q.e1 sq d fin) k).held = heldA (fun j => q.f1 sq d (j + k)) (q.win - k) := by
    unfold Qa.held
    rw [hww]; rfl
  refine ⟨?_, hk1, by omega, by omega, rfl⟩
  show ((if q.e1 sq d fin = some k then q.a + BitVec.ofNat 32 k + 1 else q.a + BitVec.ofNat 32 k) - q.a).toNat ≤ q.win + 1
  split
  · have : q.a + BitVec.ofNat 32 k + 1 = q.a + BitVec.ofNat 32 (k + 1) := bv_one q.a k
    rw [this, bv_gone q.a (k + 1) (by omega)]; omega
  · rw [bv_gone q.a k (by omega)]; omega
/-- Nothing is taken of what stands outside the window. -/
theorem put_out {q : Qa} (h : q.Ok) (sq : BitVec 32) (d : Tx) (h1 : q.ed = false → q.win ≤ (sq - q.a).toNat) (h2 : d.length ≤ (q.a - sq).toNat) : (q.put sq d false).held = q.held ∧ (q.put sq d false).rd = q.rd := by
  cases ho : q.off d
  rotate_left
  · rw [Qa.put_off ho]; exact ⟨rfl, rfl⟩
  obtain ⟨hd, hl⟩ := Qa.off_false ho
  replace h1 := h1 hd
  have hlim := h.lim hd
  have hw := h.win
  have hf : q.f1 sq d = q.f := funext fun j => by
    unfold Qa.f1
    by_cases c : (q.f j).isSome = true
    · rw [if_pos c]
    · rw [if_neg c]
      have hn : q.f j = none := by
        cases g : q.f j
        · rfl
        · rw [g] at c; exact absurd rfl c
      rw [hn]
      by_cases g : j < q.lim
      · rw [if_pos g, List.getElem?_eq_none]
        have e1 : (sq - q.a).toNat = (4294967296 - q.a.toNat + sq.toNat) % 4294967296 := by simp [BitVec.toNat_sub]
        have e2 : (q.a - sq).toNat = (4294967296 - sq.toNat + q.a.toNat) % 4294967296 := by simp [BitVec.toNat_sub]
        have e3 : (q.a + BitVec.ofNat 32 j - sq).toNat = (4294967296 - sq.toNat + (q.a.toNat + j)) % 4294967296 := by
          simp [BitVec.toNat_sub, BitVec.toNat_add]
        have := q.a.isLt
        have := sq.isLt
        omega
      · rw [if_neg g]
  have hk : cntA q.f = 0 := by
    have := cntA_ok (f := q.f) (h.fw _ (by omega))
    exact Nat.le_zero.1 (this.le h.f0)
  have he : q.e1 sq d false = q.e := by
    unfold Qa.e1
    cases q.e <;> rfl
  rw [Qa.put_on ho, hf, hk, he]
  have hrd : (q.pu q.f q.e 0).rd = q.rd := List.append_nil _
  refine ⟨?_, hrd⟩
  unfold Qa.held Qa.win
  rw [hrd]; rfl
theorem told_len (q : Qa) (m : Int) : (q.told m).length = rdN m q.rd.length := by
  unfold Qa.told
  rw [List.length_take]
  exact Nat.min_eq_left (Nat.min_le_right _ _)
theorem read_held {q : Qa} (h : q.Ok) (m : Int) : (q.read m).held = q.held := by
  have hl : (q.read m).rd.length ≤ q.rd.length := by
    show (q.rd.drop _).length ≤ _
    rw [List.length_drop]; omega
  exact heldA_ge (f := q.f) (n := q.win) (m := (q.read m).win) (by show q.z - q.rd.length ≤ q.z - (q.read m).rd.length; omega) h.fw
end Go.Proofs.Ytkjfecdpakhggaa
