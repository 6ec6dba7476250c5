/-
  seg: arguments that are slices; the call of SegOptions. No statement is proved here.
-/
import Derived.Test.YtmeipcgkhgagpaaCal
import Derived.Test.YtmeipcgkhgagpaaSgU
import Derived.Deep.Slices
import Derived.SliceStrings
namespace Go.Proofs.Ytmeipcgkhgagpaa
open Go.RowKit Go.ChangeShapes Go.WideShapes Go.Deep
set_option linter.unusedVariables false
set_option linter.unusedSimpArgs false
set_option maxRecDepth 100000

theorem bts_len (s : ByteArray) : (bts s).length = s.size := by simp [bts]
theorem c8_of {n : Int} (h : (Lit.int .u8 n).wf = true) : c8 (BitVec.ofInt 8 n) = .int .u8 n := by unfold c8; rw [u8_of h]
section
variable {H : Type} {enc : TypeId × Value → H} {w : World} {base : Nat} {sp : Nat → Bool} {held : Bool}
theorem weights_all {P : Program} {e : TypeId} {n : Nat} : ∀ {l : List (DataW H)} {x : DataW H}, x ∈ l → n ∈ x.weights P e → n ∈ DataW.weightsAll P e l
  | y :: l, x, hx, hn => by
    rw [DataW.weightsAll]
    rcases List.mem_cons.1 hx with rfl | hx
    · exact List.mem_append_left _ hn
    · exact List.mem_append_right _ (weights_all hx hn)
end
theorem rows_cell (fs : List Fk) (hp : 0 < fs.length) (l : List (Rc fs)) {j : Nat} {v : Value} (h : (rows fs l)[j]? = some v) : j / fs.length < l.length ∧ (rvs fs (l.getD (j / fs.length) (rz fs)))[j % fs.length]? = some v := by
  have h1 : j < l.length * fs.length := by
    rw [← rows_len]
    rcases Nat.lt_or_ge j (rows fs l).length with q | q
    · exact q
    · rw [List.getElem?_eq_none q] at h; cases h
  have h2 : j / fs.length < l.length := (Nat.div_lt_iff_lt_mul hp).2 h1
  refine ⟨h2, ?_⟩
  rw [← rows_get fs l _ h2, List.getElem?_take_of_lt (Nat.mod_lt _ hp), List.getElem?_drop]
  rw [show j / fs.length * fs.length + j % fs.length = j by rw [Nat.mul_comm]; exact Nat.div_add_mod j fs.length]
  exact h
/-- An argument that is a slice: nothing is in it, or rows of what its elements are. -/
theorem open_rows {H : Type} {enc : TypeId × Value → H} {W : World} {fs : List Fk} (hp : 0 < fs.length) {sl el : TypeId} (hu : Try.prog.underlying sl = some (.slice el)) (hc : Try.prog.cellsOf el = fs.length) (hb1 : 0 < Try.prog.bytesOf el) (fw : Rc fs → List Nat)
    (hopen : ∀ (fuel : Nat) (cs : List Value) (y : DataW H × List MemPlace), DataW.trod enc Try.prog W 0 (fun _ => true) true fuel el cs = some y → ∃ r : Rc fs, cs = rvs fs r ∧ ∀ n ∈ fw r, n ∈ y.1.weights Try.prog el)
    {v : Value} {d : DataW H} {ps : List MemPlace} (hv : ∃ a len cap, v = .slice a len cap) (h : DataW.Trod enc Try.prog W 0 (fun _ => true) true sl v d ps) (hz : ∀ n ∈ d.weights Try.prog sl, n ≤ 140737488355328) :
    (∃ a c, v = .slice a 0 c) ∨ ∃ (b len : Nat) (pre : List Value) (l : List (Rc fs)), v = .slice (some ⟨b, pre.length, none⟩) len l.length ∧ 0 < len ∧ len ≤ l.length ∧ l.length ≤ 140737488355328 ∧ Holds W b false (pre ++ rows fs l) ∧ ∀ r ∈ l, ∀ n ∈ fw r, n ≤ 140737488355328 := by
  obtain ⟨a1, len0, cap0, rfl⟩ := hv
  obtain ⟨fuel, hf⟩ := h
  rcases open_slice hu hf with ⟨hcs, _⟩ | ⟨a, len, cap, m, n, D, Pl, hcs, _, hl, hm, hmm, hxd, hx⟩
  · simp [Value.cells] at hcs
    obtain ⟨rfl, rfl, rfl⟩ := hcs
    exact .inl ⟨_, _, rfl⟩
  · simp [Value.cells] at hcs
    obtain ⟨rfl, rfl, rfl⟩ := hcs
    rw [if_pos rfl] at hmm
    subst hmm
    rcases Nat.eq_zero_or_pos len0 with h0 | h0
    · subst h0
      exact .inl ⟨_, _, rfl⟩
    · rw [hc] at hx
      haveI : Inhabited (Rc fs) := ⟨rz fs⟩
      obtain ⟨rf, hrf⟩ := choose_lt (n := m) (α := Rc fs) (p := fun i r => W.cells? 0 (a.add (i * fs.length)) fs.length = some (rvs fs r) ∧ ∀ n ∈ fw r, n ∈ (D i).weights Try.prog el) (fun i hi => by
        obtain ⟨cs', h1, h2⟩ := hx i hi
        obtain ⟨r, rfl, h3⟩ := hopen _ _ _ h2
        exact ⟨r, h1, h3⟩)
      have cell0 : ∀ i, i < m → ∀ t, t < fs.length → W.cell? ((a.add (i * fs.length)).add t) = (rvs fs (rf i))[t]? := fun i hi t ht => (World.cells?_some (hrf i hi).1).2.2 t ht
      obtain ⟨b, o, spot⟩ := a
      obtain ⟨v0, hv0⟩ : ∃ v0, (rvs fs (rf 0))[0]? = some v0 := ⟨_, List.getElem?_eq_getElem (by rw [rvs_len]; exact hp)⟩
      have hspot : spot = none := by
        have := cell0 0 (by omega) 0 hp
        rw [hv0] at this
        have h1 := World.cell?_spot this
        unfold Addr.add at h1
        cases spot with
        | none => rfl
        | some s => simp at h1
      subst hspot
      have cell : ∀ i, i < m → ∀ t, t < fs.length → W.cell? ⟨b, o + (i * fs.length + t), none⟩ = (rvs fs (rf i))[t]? := fun i hi t ht => by
        have := cell0 i hi t ht
        rw [Go.WideShapes.add_plain, Go.WideShapes.add_plain, Nat.add_assoc] at this
        exact this
      have hv00 : W.cell? ⟨b, o + (0 * fs.length + 0), none⟩ = some v0 := (cell 0 (by omega) 0 hp).trans hv0
      obtain ⟨cs, t, fr, hb⟩ : ∃ cs t fr, W.heap[b]? = some (.cells cs t fr) := by
        have := hv00
        unfold World.cell? at this
        split at this
        · rename_i cs t fr e; exact ⟨cs, t, fr, e⟩
        · cases this
      have at' : ∀ j, W.cell? ⟨b, j, none⟩ = cs[j]? := fun j => by simp [World.cell?, hb]
      have hsz : o < cs.size := by
        have := hv00
        rw [at'] at this
        have h1 := (Array.getElem?_eq_some_iff.1 this).1
        omega
      have hpl : (cs.toList.take o).length = o := by rw [List.length_take, Array.length_toList]; omega
      let l : List (Rc fs) := (List.range m).map rf
      have ll : l.length = m := by simp [l]
      have lg : ∀ i, i < m → l.getD i (rz fs) = rf i := fun i hi => by
        rw [List.getD_eq_getElem?_getD, List.getElem?_map, List.getElem?_range hi]; rfl
      have hh : Holds W b false (cs.toList.take o ++ rows fs l) := by
        refine ⟨?_, fun j v hv => ?_, (fun h => nomatch h), (fun s h => nomatch h), (fun h => nomatch h), (fun h => nomatch h)⟩
        · rcases Nat.lt_or_ge b W.heap.size with q | q
          · exact q
          · rw [Array.getElem?_eq_none q] at hb; cases hb
        · rcases Nat.lt_or_ge j o with q | q
          · rw [List.getElem?_append_left (by omega), List.getElem?_take_of_lt q, Array.getElem?_toList] at hv
            rw [at']; exact hv
          · rw [List.getElem?_append_right (by omega), hpl] at hv
            obtain ⟨h1, h2⟩ := rows_cell fs hp l hv
            rw [ll] at h1
            rw [lg _ h1] at h2
            have := cell _ h1 ((j - o) % fs.length) (Nat.mod_lt _ hp)
            have e : (j - o) / fs.length * fs.length + (j - o) % fs.length = j - o := by rw [Nat.mul_comm]; exact Nat.div_add_mod _ _
            rw [e, show o + (j - o) = j by omega, h2] at this
            exact this
      obtain rfl : d = _ := congrArg Prod.fst hxd
      have hw : DataW.weights Try.prog sl (DataW.slice ((List.range len0).map D) ((List.range (m - len0)).map fun j => D (len0 + j))) = (((List.range len0).map D).length + ((List.range (m - len0)).map fun j => D (len0 + j)).length) * Try.prog.bytesOf el :: (DataW.weightsAll Try.prog el ((List.range len0).map D) ++ DataW.weightsAll Try.prog el ((List.range (m - len0)).map fun j => D (len0 + j))) := by
        simp only [DataW.weights, hu]
      have hlen : m ≤ 140737488355328 := by
        have q := hz _ (by rw [hw]; exact List.mem_cons_self)
        rw [List.length_map, List.length_map, List.length_range, List.length_range, show len0 + (m - len0) = m by omega] at q
        exact Nat.le_trans (Nat.le_mul_of_pos_right _ hb1) q
      refine .inr ⟨b, len0, cs.toList.take o, l, ?_, h0, by omega, by omega, hh, fun r hr x hx' => ?_⟩
      · rw [hpl, ll]
      · obtain ⟨i, hi, rfl⟩ := List.mem_map.1 hr
        rw [List.mem_range] at hi
        refine hz x ?_
        rw [hw]
        refine List.mem_cons_of_mem _ ?_
        rcases Nat.lt_or_ge i len0 with q | q
        · exact List.mem_append_left _ (weights_all (List.mem_map.2 ⟨i, List.mem_range.2 q, rfl⟩) ((hrf i hi).2 x hx'))
        · exact List.mem_append_right _ (weights_all (x := D i) (List.mem_map.2 ⟨i - len0, List.mem_range.2 (by omega), by rw [show len0 + (i - len0) = i by omega]⟩) ((hrf i hi).2 x hx'))
theorem open_b {H : Type} {enc : TypeId × Value → H} {W : World} (fuel : Nat) (cs : List Value) (y : DataW H × List MemPlace) (hf : DataW.trod enc Try.prog W 0 (fun _ => true) true fuel 5 cs = some y) : ∃ r : Rc [Fk.u8], cs = rvs [Fk.u8] r ∧ ∀ n ∈ ([] : List Nat), n ∈ y.1.weights Try.prog 5 := by
  obtain ⟨n8, e8, x8, w8⟩ := DataW.trod_int Try.underlying5 hf
  subst e8
  exact ⟨(BitVec.ofInt 8 n8, ()), by simp only [rvs, Fk.v, c8_of w8], fun n hn => by cases hn⟩
theorem bytes5 : Try.prog.bytesOf 5 = 1 := by kernel_rfl
def kB (b : Nat) : Nat → Nat := fun i => if i = 0 then b else i
theorem rel_k {W : World} {pre : List Value} {l : List (Rc KF)} {b : Nat} (hh : Holds W b false (pre ++ rows KF l)) : Rel G (kB b) (kE pre l) W := by
  refine ⟨fun k e he hc => ?_, fun i j x y hx hy hij hr => ?_, fun g hg => absurd hg (Nat.not_lt_zero g), Nat.zero_le _, fun k hk => absurd hk (Nat.not_lt_zero k), fun k e he => (by cases he), fun k e he => ?_⟩
  · match k, he with
    | 0, he => cases he; exact (At_of rfl).2 hh
    | k + 1, he => cases he
  · match i, hx with
    | 0, hx => cases hx; cases hr
    | k + 1, hx => cases hx
  · match k, he with
    | 0, he => cases he; rfl
    | k + 1, he => cases he
theorem k_ro (pre : List Value) (l : List (Rc KF)) : ∀ (k : Nat) (e : Ent), (kE pre l)[k]? = some e → e.rw = false := fun k e he => by
  match k, he with
  | 0, he => cases he; rfl
  | k + 1, he => cases he
theorem vals6 (f : Sgv) (hf : f.ok) (s d n : Int) (ws : (Lit.int .u32 s).wf = true) (wd : (Lit.int .u32 d).wf = true) (wn : (Lit.int .u8 n).wf = true) (x : SV) (β : Nat → Nat) : (vals β [f.sv, SV.w32 (BitVec.ofInt 32 s), SV.w32 (BitVec.ofInt 32 d), x, SV.w8 (BitVec.ofInt 8 n)]).toArray = #[f.v, .int .u32 s, .int .u32 d, val β x, .int .u8 n] := by
  have e : val β f.sv = f.v := by
    rw [← seg_val f hf]
    exact val_agree (n := 0) (fun k hk => absurd hk (by omega)) f.sv rfl
  simp only [vals]
  rw [e]
  simp only [val, c8, c32, u8_of wn, u32_of ws, u32_of wd]
theorem calls6 (f : Sgv) (hf : f.ok) (s d : Int) (ws : (Lit.int .u32 s).wf = true) (wd : (Lit.int .u32 d).wf = true) (n : Int) (wn : (Lit.int .u8 n).wf = true) {H : Type} {enc : TypeId × Value → H} {W : World} {v : Value} {dd : DataW H} {ps : List MemPlace} (hv : ∃ a len cap, v = .slice a len cap) (h : DataW.Trod enc Try.prog W 0 (fun _ => true) true 35 v dd ps) (hz : ∀ n ∈ dd.weights Try.prog 35, n ≤ 140737488355328) : Calls Try.prog 6 #[f.v, .int .u32 s, .int .u32 d, v, .int .u8 n] W (fun e W' => e = .returned (.bool true) ∧ Fp0 W W') := by
  rcases open_rows (fs := KF) (by decide) Try.underlying35 cells5 (by rw [bytes5]; decide) (fun _ => []) open_b hv h hz with ⟨a, c, rfl⟩ | ⟨b, len, pre, l, rfl, h0, hl, hm, hh, hw⟩
  · have := spec_calls (f := 6) (fn := Try.f6) Try.func6 rfl (by kernel_rfl) (law6z_ok (BitVec.ofInt 16 f.src) (BitVec.ofInt 16 f.dst) (BitVec.ofInt 32 f.seq) (BitVec.ofInt 32 f.ack) (BitVec.ofInt 8 f.flags) (BitVec.ofInt 16 f.wnd) (BitVec.ofInt 16 f.mss) f.has (BitVec.ofInt 8 f.scale) (bts f.data) (BitVec.ofInt 32 s) (BitVec.ofInt 32 d) a c (BitVec.ofInt 8 n)) (g_rel W) rfl g_ro rfl
    rw [vals6 f hf s d n ws wd wn] at this
    exact this
  · have := spec_calls (f := 6) (fn := Try.f6) (M := kE pre l) Try.func6 rfl (by kernel_rfl) (law6_ok (BitVec.ofInt 16 f.src) (BitVec.ofInt 16 f.dst) (BitVec.ofInt 32 f.seq) (BitVec.ofInt 32 f.ack) (BitVec.ofInt 8 f.flags) (BitVec.ofInt 16 f.wnd) (BitVec.ofInt 16 f.mss) f.has (BitVec.ofInt 8 f.scale) (bts f.data) (BitVec.ofInt 32 s) (BitVec.ofInt 32 d) pre l len l.length (BitVec.ofInt 8 n) hl (by omega)) (rel_k hh) rfl (k_ro _ _) rfl
    rw [vals6 f hf s d n ws wd wn] at this
    exact this
end Go.Proofs.Ytmeipcgkhgagpaa
