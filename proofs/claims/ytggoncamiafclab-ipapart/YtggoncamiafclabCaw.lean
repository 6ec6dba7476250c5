/-
  ip: arguments that are slices of packets, of bools; the call of IpApart. No statement is proved here.
-/
import Derived.Test.YtggoncamiafclabJrJ
import Derived.ChangeSame
import Derived.OpenShut
import Derived.ChangeMaps5
import Derived.Deep.Slices
import Derived.SliceStrings
namespace Go.Proofs.Ytggoncamiafclab
open Go.RowKit Go.ChangeShapes Go.WideShapes Go.Deep
set_option linter.unusedVariables false
set_option linter.unusedSimpArgs false
set_option maxRecDepth 100000

theorem Fp.below {w w' : World} (h : Fp0 w w') : Below w.heap.size w w' := ⟨h.os, h.tape, h.output, h.size, fun k hk => h.block k hk id⟩
theorem spec_calls {P : Program} {G M : Mm} {f : Nat} {fn : Func} {c : Code} {args : List SV} {r0 : SV} {β : Nat → Nat} {w : World} (hf : P.funcs[f]? = some fn) (hb : fn.body = some c) (hn : (fn.name == "runtime.NumGoroutine") = false) (hS : Spec P G f args M (fun r _ => r = r0)) (hR : Rel G β M w) (ha : SV.wf.wfs M.length args = true) (hro : ∀ (k : Nat) (e : Ent), M[k]? = some e → e.rw = false) (hr : r0.wf M.length = true) : Calls P f (vals β args).toArray w (fun e W' => e = .returned (val β r0) ∧ Fp0 w W') := by
  rcases hS β w hR ha with ⟨v, W', h2, -⟩ | ⟨-, h⟩
  · rw [enter_run hf hb hn] at h2; cases h2
  · refine h.mono fun e W' hh => ?_
    obtain ⟨v, rfl, β', M', r, hE, hR', ⟨hw, rfl⟩, rfl⟩ := hh
    refine ⟨by rw [val_agree hE.agree r hr], hE.fp.mono fun k _ hk => ?_⟩
    obtain ⟨j, e, he, hr, -⟩ := hk
    rw [hro j e he] at hr; cases hr
theorem u8_of {n : Int} (h : (Lit.int .u8 n).wf = true) : (((BitVec.ofInt 8 n).toNat : Nat) : Int) = n := by
  have h2 : IntKind.u8.min ≤ n ∧ n ≤ IntKind.u8.max := by simpa [Lit.wf] using h
  have e1 : IntKind.u8.min = 0 := by decide
  have e2 : IntKind.u8.max = 255 := by decide
  rw [e1, e2] at h2
  exact ofInt_toNat (inU_iff.2 ⟨h2.1, by have : (2 : Int) ^ 8 = 256 := by decide
                                         omega⟩)
theorem u16_of {n : Int} (h : (Lit.int .u16 n).wf = true) : (((BitVec.ofInt 16 n).toNat : Nat) : Int) = n := by
  have h2 : IntKind.u16.min ≤ n ∧ n ≤ IntKind.u16.max := by simpa [Lit.wf] using h
  have e1 : IntKind.u16.min = 0 := by decide
  have e2 : IntKind.u16.max = 65535 := by decide
  rw [e1, e2] at h2
  exact ofInt_toNat (inU_iff.2 ⟨h2.1, by have : (2 : Int) ^ 16 = 65536 := by decide
                                         omega⟩)
theorem u32_of {n : Int} (h : (Lit.int .u32 n).wf = true) : (((BitVec.ofInt 32 n).toNat : Nat) : Int) = n := by
  have h2 : IntKind.u32.min ≤ n ∧ n ≤ IntKind.u32.max := by simpa [Lit.wf] using h
  have e1 : IntKind.u32.min = 0 := by decide
  have e2 : IntKind.u32.max = 4294967295 := by decide
  rw [e1, e2] at h2
  exact ofInt_toNat (inU_iff.2 ⟨h2.1, by have : (2 : Int) ^ 32 = 4294967296 := by decide
                                         omega⟩)
theorem cells4 : Try.prog.cellsOf 4 = 1 := by kernel_rfl
theorem cells5 : Try.prog.cellsOf 5 = 1 := by kernel_rfl
theorem cells9 : Try.prog.cellsOf 9 = 1 := by kernel_rfl
theorem cells24 : Try.prog.cellsOf 24 = 1 := by kernel_rfl
theorem cells25 : Try.prog.cellsOf 25 = 1 := by kernel_rfl
theorem cells27 : Try.prog.cellsOf 27 = 9 := by kernel_rfl
theorem bytes4 : Try.prog.bytesOf 4 = 1 := by kernel_rfl
theorem bytes27 : Try.prog.bytesOf 27 = 32 := by kernel_rfl
theorem bts_len (s : ByteArray) : (bts s).length = s.size := by simp [bts]
theorem c8_of {n : Int} (h : (Lit.int .u8 n).wf = true) : c8 (BitVec.ofInt 8 n) = .int .u8 n := by unfold c8; rw [u8_of h]
theorem c16_of {n : Int} (h : (Lit.int .u16 n).wf = true) : c16 (BitVec.ofInt 16 n) = .int .u16 n := by unfold c16; rw [u16_of h]
theorem c32_of {n : Int} (h : (Lit.int .u32 n).wf = true) : c32 (BitVec.ofInt 32 n) = .int .u32 n := by unfold c32; rw [u32_of h]
section
variable {H : Type} {enc : TypeId × Value → H} {w : World} {base : Nat} {sp : Nat → Bool} {held : Bool}
theorem weights_all {P : Program} {e : TypeId} {n : Nat} : ∀ {l : List (DataW H)} {x : DataW H}, x ∈ l → n ∈ x.weights P e → n ∈ DataW.weightsAll P e l
  | y :: l, x, hx, hn => by
    rw [DataW.weightsAll]
    rcases List.mem_cons.1 hx with rfl | hx
    · exact List.mem_append_left _ hn
    · exact List.mem_append_right _ (weights_all hx hn)
end
theorem rows_cell (fs : List Fk) (hp : 0 < fs.length) (l : List (Rc fs)) {j : Nat} {v : Value} (h : (rows fs l)[j]? = some v) : j / fs.length < l.length ∧ (rvs fs (l.getD (j / fs.length) (rz fs)))[j % fs.length]? = some v := by
  have h1 : j < l.length * fs.length := by
    rw [← rows_len]
    rcases Nat.lt_or_ge j (rows fs l).length with q | q
    · exact q
    · rw [List.getElem?_eq_none q] at h; cases h
  have h2 : j / fs.length < l.length := (Nat.div_lt_iff_lt_mul hp).2 h1
  refine ⟨h2, ?_⟩
  rw [← rows_get fs l _ h2, List.getElem?_take_of_lt (Nat.mod_lt _ hp), List.getElem?_drop]
  rw [show j / fs.length * fs.length + j % fs.length = j by rw [Nat.mul_comm]; exact Nat.div_add_mod j fs.length]
  exact h
/-- An argument that is a slice: nothing is in it, or rows of what its elements are. -/
theorem open_rows {H : Type} {enc : TypeId × Value → H} {W : World} {fs : List Fk} (hp : 0 < fs.length) {sl el : TypeId} (hu : Try.prog.underlying sl = some (.slice el)) (hc : Try.prog.cellsOf el = fs.length) (hb1 : 0 < Try.prog.bytesOf el) (fw : Rc fs → List Nat)
    (hopen : ∀ (fuel : Nat) (cs : List Value) (y : DataW H × List MemPlace), DataW.trod enc Try.prog W 0 (fun _ => true) true fuel el cs = some y → ∃ r : Rc fs, cs = rvs fs r ∧ ∀ n ∈ fw r, n ∈ y.1.weights Try.prog el)
    {v : Value} {d : DataW H} {ps : List MemPlace} (hv : ∃ a len cap, v = .slice a len cap) (h : DataW.Trod enc Try.prog W 0 (fun _ => true) true sl v d ps) (hz : ∀ n ∈ d.weights Try.prog sl, n ≤ 140737488355328) :
    (∃ a c, v = .slice a 0 c) ∨ ∃ (b len : Nat) (pre : List Value) (l : List (Rc fs)), v = .slice (some ⟨b, pre.length, none⟩) len l.length ∧ 0 < len ∧ len ≤ l.length ∧ l.length ≤ 140737488355328 ∧ Holds W b false (pre ++ rows fs l) ∧ ∀ r ∈ l, ∀ n ∈ fw r, n ≤ 140737488355328 := by
  obtain ⟨a1, len0, cap0, rfl⟩ := hv
  obtain ⟨fuel, hf⟩ := h
  rcases open_slice hu hf with ⟨hcs, _⟩ | ⟨a, len, cap, m, n, D, Pl, hcs, _, hl, hm, hmm, hxd, hx⟩
  · simp [Value.cells] at hcs
    obtain ⟨rfl, rfl, rfl⟩ := hcs
    exact .inl ⟨_, _, rfl⟩
  · simp [Value.cells] at hcs
    obtain ⟨rfl, rfl, rfl⟩ := hcs
    rw [if_pos rfl] at hmm
    subst hmm
    rcases Nat.eq_zero_or_pos len0 with h0 | h0
    · subst h0
      exact .inl ⟨_, _, rfl⟩
    · rw [hc] at hx
      haveI : Inhabited (Rc fs) := ⟨rz fs⟩
      obtain ⟨rf, hrf⟩ := choose_lt (n := m) (α := Rc fs) (p := fun i r => W.cells? 0 (a.add (i * fs.length)) fs.length = some (rvs fs r) ∧ ∀ n ∈ fw r, n ∈ (D i).weights Try.prog el) (fun i hi => by
        obtain ⟨cs', h1, h2⟩ := hx i hi
        obtain ⟨r, rfl, h3⟩ := hopen _ _ _ h2
        exact ⟨r, h1, h3⟩)
      have cell0 : ∀ i, i < m → ∀ t, t < fs.length → W.cell? ((a.add (i * fs.length)).add t) = (rvs fs (rf i))[t]? := fun i hi t ht => (World.cells?_some (hrf i hi).1).2.2 t ht
      obtain ⟨b, o, spot⟩ := a
      obtain ⟨v0, hv0⟩ : ∃ v0, (rvs fs (rf 0))[0]? = some v0 := ⟨_, List.getElem?_eq_getElem (by rw [rvs_len]; exact hp)⟩
      have hspot : spot = none := by
        have := cell0 0 (by omega) 0 hp
        rw [hv0] at this
        have h1 := World.cell?_spot this
        unfold Addr.add at h1
        cases spot with
        | none => rfl
        | some s => simp at h1
      subst hspot
      have cell : ∀ i, i < m → ∀ t, t < fs.length → W.cell? ⟨b, o + (i * fs.length + t), none⟩ = (rvs fs (rf i))[t]? := fun i hi t ht => by
        have := cell0 i hi t ht
        rw [Go.WideShapes.add_plain, Go.WideShapes.add_plain, Nat.add_assoc] at this
        exact this
      have hv00 : W.cell? ⟨b, o + (0 * fs.length + 0), none⟩ = some v0 := (cell 0 (by omega) 0 hp).trans hv0
      obtain ⟨cs, t, fr, hb⟩ : ∃ cs t fr, W.heap[b]? = some (.cells cs t fr) := by
        have := hv00
        unfold World.cell? at this
        split at this
        · rename_i cs t fr e; exact ⟨cs, t, fr, e⟩
        · cases this
      have at' : ∀ j, W.cell? ⟨b, j, none⟩ = cs[j]? := fun j => by simp [World.cell?, hb]
      have hsz : o < cs.size := by
        have := hv00
        rw [at'] at this
        have h1 := (Array.getElem?_eq_some_iff.1 this).1
        omega
      have hpl : (cs.toList.take o).length = o := by rw [List.length_take, Array.length_toList]; omega
      let l : List (Rc fs) := (List.range m).map rf
      have ll : l.length = m := by simp [l]
      have lg : ∀ i, i < m → l.getD i (rz fs) = rf i := fun i hi => by
        rw [List.getD_eq_getElem?_getD, List.getElem?_map, List.getElem?_range hi]; rfl
      have hh : Holds W b false (cs.toList.take o ++ rows fs l) := by
        refine ⟨?_, fun j v hv => ?_, (fun h => nomatch h), (fun s h => nomatch h), (fun h => nomatch h), (fun h => nomatch h)⟩
        · rcases Nat.lt_or_ge b W.heap.size with q | q
          · exact q
          · rw [Array.getElem?_eq_none q] at hb; cases hb
        · rcases Nat.lt_or_ge j o with q | q
          · rw [List.getElem?_append_left (by omega), List.getElem?_take_of_lt q, Array.getElem?_toList] at hv
            rw [at']; exact hv
          · rw [List.getElem?_append_right (by omega), hpl] at hv
            obtain ⟨h1, h2⟩ := rows_cell fs hp l hv
            rw [ll] at h1
            rw [lg _ h1] at h2
            have := cell _ h1 ((j - o) % fs.length) (Nat.mod_lt _ hp)
            have e : (j - o) / fs.length * fs.length + (j - o) % fs.length = j - o := by rw [Nat.mul_comm]; exact Nat.div_add_mod _ _
            rw [e, show o + (j - o) = j by omega, h2] at this
            exact this
      obtain rfl : d = _ := congrArg Prod.fst hxd
      have hw : DataW.weights Try.prog sl (DataW.slice ((List.range len0).map D) ((List.range (m - len0)).map fun j => D (len0 + j))) = (((List.range len0).map D).length + ((List.range (m - len0)).map fun j => D (len0 + j)).length) * Try.prog.bytesOf el :: (DataW.weightsAll Try.prog el ((List.range len0).map D) ++ DataW.weightsAll Try.prog el ((List.range (m - len0)).map fun j => D (len0 + j))) := by
        simp only [DataW.weights, hu]
      have hlen : m ≤ 140737488355328 := by
        have q := hz _ (by rw [hw]; exact List.mem_cons_self)
        rw [List.length_map, List.length_map, List.length_range, List.length_range, show len0 + (m - len0) = m by omega] at q
        exact Nat.le_trans (Nat.le_mul_of_pos_right _ hb1) q
      refine .inr ⟨b, len0, cs.toList.take o, l, ?_, h0, by omega, by omega, hh, fun r hr x hx' => ?_⟩
      · rw [hpl, ll]
      · obtain ⟨i, hi, rfl⟩ := List.mem_map.1 hr
        rw [List.mem_range] at hi
        refine hz x ?_
        rw [hw]
        refine List.mem_cons_of_mem _ ?_
        rcases Nat.lt_or_ge i len0 with q | q
        · exact List.mem_append_left _ (weights_all (List.mem_map.2 ⟨i, List.mem_range.2 q, rfl⟩) ((hrf i hi).2 x hx'))
        · exact List.mem_append_right _ (weights_all (x := D i) (List.mem_map.2 ⟨i - len0, List.mem_range.2 (by omega), by rw [show len0 + (i - len0) = i by omega]⟩) ((hrf i hi).2 x hx'))
theorem open_pk {H : Type} {enc : TypeId × Value → H} {W : World} (fuel : Nat) (cs : List Value) (y : DataW H × List MemPlace) (hf : DataW.trod enc Try.prog W 0 (fun _ => true) true fuel 27 cs = some y) : ∃ r : Pk, cs = rvs PF r ∧ ∀ n ∈ [(Pk.dat r).length], n ∈ y.1.weights Try.prog 27 := by
  obtain ⟨zs, k2, rfl, hz, zlen, zl, zfl⟩ := DataW.trod_struct Try.underlying27 hf
  rw [cells27] at zlen
  match zs, zl, cs, zlen with
  | [z0, z1, z2, z3, z4, z5, z6, z7, z8], _, [v0, v1, v2, v3, v4, v5, v6, v7, v8], _ =>
    have g0 := zfl 0 _ rfl
    have g1 := zfl 1 _ rfl
    have g2 := zfl 2 _ rfl
    have g3 := zfl 3 _ rfl
    have g4 := zfl 4 _ rfl
    have g5 := zfl 5 _ rfl
    have g6 := zfl 6 _ rfl
    have g7 := zfl 7 _ rfl
    have g8 := zfl 8 _ rfl
    simp [cells4, cells5, cells9, cells24, cells25] at g0 g1 g2 g3 g4 g5 g6 g7 g8
    obtain ⟨n0, e0, x0, w0⟩ := DataW.trod_int Try.underlying24 g0
    obtain ⟨n1, e1, x1, w1⟩ := DataW.trod_int Try.underlying24 g1
    obtain ⟨n2, e2, x2, w2⟩ := DataW.trod_int Try.underlying5 g2
    obtain ⟨n3, e3, x3, w3⟩ := DataW.trod_int Try.underlying5 g3
    obtain ⟨n4, e4, x4, w4⟩ := DataW.trod_int Try.underlying25 g4
    obtain ⟨n5, e5, x5⟩ := DataW.trod_bool Try.underlying4 g5
    obtain ⟨n6, e6, x6⟩ := DataW.trod_bool Try.underlying4 g6
    obtain ⟨n7, e7, x7, w7⟩ := DataW.trod_int Try.underlying25 g7
    obtain ⟨n8, e8, x8, w8⟩ := DataW.trod_string Try.underlying9 g8
    simp only [List.cons.injEq, and_true] at e0 e1 e2 e3 e4 e5 e6 e7 e8
    subst e0; subst e1; subst e2; subst e3; subst e4; subst e5; subst e6; subst e7; subst e8
    subst x0; subst x1; subst x2; subst x3; subst x4; subst x5; subst x6; subst x7; subst x8
    subst hz
    refine ⟨(BitVec.ofInt 32 n0, BitVec.ofInt 32 n1, BitVec.ofInt 8 n2, BitVec.ofInt 8 n3, BitVec.ofInt 16 n4, n5, n6, BitVec.ofInt 16 n7, bts n8, ()), ?_, fun n hn => ?_⟩
    · simp only [rvs, Fk.v, txt_bts, c8_of w2, c8_of w3, c16_of w4, c16_of w7, c32_of w0, c32_of w1]
    · obtain rfl := List.mem_singleton.1 hn
      simp only [Pk.dat, bts_len]
      simp [DataW.weights, DataW.weightsEach, Try.underlying27]
theorem open_o {H : Type} {enc : TypeId × Value → H} {W : World} (fuel : Nat) (cs : List Value) (y : DataW H × List MemPlace) (hf : DataW.trod enc Try.prog W 0 (fun _ => true) true fuel 4 cs = some y) : ∃ r : Rc OF, cs = rvs OF r ∧ ∀ n ∈ ([] : List Nat), n ∈ y.1.weights Try.prog 4 := by
  obtain ⟨n8, e8, x8⟩ := DataW.trod_bool Try.underlying4 hf
  subst e8
  exact ⟨(n8, ()), by simp only [rvs, Fk.v], fun n hn => by cases hn⟩
/-- An argument's block. -/
structure EO (W : World) (b : Nat) (e : Ent) : Prop where
  rw : e.rw = false
  at' : e.c.here = true → ∀ β, At β W b e.rw e.c
  wf : ∀ n, e.c.wf n = true
theorem eo_r {W : World} {b : Nat} {fs : List Fk} {pre : List Value} {l : List (Rc fs)} (hh : Holds W b false (pre ++ rows fs l)) : EO W b ⟨false, .recs none fs pre l⟩ := ⟨rfl, fun _ β => (At_of rfl).2 hh, fun _ => rfl⟩
def b3 (x y z : Nat) : Nat → Nat := fun i => if i = 0 then x else if i = 1 then y else if i = 2 then z else i
theorem rel_ro {W : World} {β : Nat → Nat} {M : Mm} (h : ∀ (k : Nat) (e : Ent), M[k]? = some e → EO W (β k) e) : Rel G β M W ∧ ∀ (k : Nat) (e : Ent), M[k]? = some e → e.rw = false :=
  ⟨⟨fun k e he hc => (h k e he).at' hc _, fun i j p q hp hq hij hr => (by rw [(h i p hp).rw] at hr; cases hr), fun g hg => absurd hg (Nat.not_lt_zero g), Nat.zero_le _, fun k hk => absurd hk (Nat.not_lt_zero k), fun k e he => (by cases he), fun k e he => (h k e he).wf _⟩, fun k e he => (h k e he).rw⟩
theorem eo0 {W : World} {β : Nat → Nat} : ∀ (k : Nat) (e : Ent), ([] : Mm)[k]? = some e → EO W (β k) e := fun k e he => by cases he
theorem eo1 {W : World} {β : Nat → Nat} {e0 : Ent} (h0 : EO W (β 0) e0) : ∀ (k : Nat) (e : Ent), [e0][k]? = some e → EO W (β k) e := fun k e he => by
  match k, he with
  | 0, he => cases he; exact h0
  | k + 1, he => cases he
theorem eo2 {W : World} {β : Nat → Nat} {e0 e1 : Ent} (h0 : EO W (β 0) e0) (h1 : EO W (β 1) e1) : ∀ (k : Nat) (e : Ent), [e0, e1][k]? = some e → EO W (β k) e := fun k e he => by
  match k, he with
  | 0, he => cases he; exact h0
  | 1, he => cases he; exact h1
  | k + 2, he => cases he
theorem eo3 {W : World} {β : Nat → Nat} {e0 e1 e2 : Ent} (h0 : EO W (β 0) e0) (h1 : EO W (β 1) e1) (h2 : EO W (β 2) e2) : ∀ (k : Nat) (e : Ent), [e0, e1, e2][k]? = some e → EO W (β k) e := fun k e he => by
  match k, he with
  | 0, he => cases he; exact h0
  | 1, he => cases he; exact h1
  | 2, he => cases he; exact h2
  | k + 3, he => cases he
theorem okPk_of {l : List Pk} (h : ∀ r ∈ l, ∀ n ∈ [(Pk.dat r).length], n ≤ 140737488355328) : okPk l = true := by
  unfold okPk
  rw [List.all_eq_true]
  intro r hr
  exact ble_of (h r hr _ (List.mem_singleton.2 rfl))
theorem calls3 {H : Type} {enc : TypeId × Value → H} {W : World} {v0 v1 v2 : Value} {d0 d1 d2 : DataW H} {p0 p1 p2 : List MemPlace} (hv0 : ∃ a len cap, v0 = .slice a len cap) (h0 : DataW.Trod enc Try.prog W 0 (fun _ => true) true 22 v0 d0 p0) (hz0 : ∀ n ∈ d0.weights Try.prog 22, n ≤ 140737488355328)
    (hv1 : ∃ a len cap, v1 = .slice a len cap) (h1 : DataW.Trod enc Try.prog W 0 (fun _ => true) true 22 v1 d1 p1) (hz1 : ∀ n ∈ d1.weights Try.prog 22, n ≤ 140737488355328)
    (hv2 : ∃ a len cap, v2 = .slice a len cap) (h2 : DataW.Trod enc Try.prog W 0 (fun _ => true) true 23 v2 d2 p2) (hz2 : ∀ n ∈ d2.weights Try.prog 23, n ≤ 140737488355328) : Calls Try.prog 3 #[v0, v1, v2] W (fun e W' => e = .returned (.bool true) ∧ Fp0 W W') := by
  have go : ∀ {xs : List SV} {M : Mm} {x y z : Nat}, Spec Try.prog G 3 xs M (fun r _ => r = .b true) → (∀ (k : Nat) (e : Ent), M[k]? = some e → EO W (b3 x y z k) e) → SV.wf.wfs M.length xs = true → (vals (b3 x y z) xs).toArray = #[v0, v1, v2] → Calls Try.prog 3 #[v0, v1, v2] W (fun e W' => e = .returned (.bool true) ∧ Fp0 W W') := fun hS hE hw hv => by
    obtain ⟨hR, ro⟩ := rel_ro hE
    have := spec_calls (f := 3) (fn := Try.f3) Try.func3 rfl (by kernel_rfl) hS hR hw ro rfl
    rw [hv] at this
    exact this
  have q0 := open_rows (fs := PF) (by decide) Try.underlying22 cells27 (by rw [bytes27]; decide) (fun r => [(Pk.dat r).length]) open_pk hv0 h0 hz0
  have q1 := open_rows (fs := PF) (by decide) Try.underlying22 cells27 (by rw [bytes27]; decide) (fun r => [(Pk.dat r).length]) open_pk hv1 h1 hz1
  have q2 := open_rows (fs := OF) (by decide) Try.underlying23 cells4 (by rw [bytes4]; decide) (fun r => []) open_o hv2 h2 hz2
  clear hv0 h0 hz0 hv1 h1 hz1 hv2 h2 hz2
  rcases q0 with ⟨aO, kO, rfl⟩ | ⟨bO, nO, pO, lO, rfl, nO0, nOl, nOm, hO, hOw⟩
  · rcases q1 with ⟨aT, kT, rfl⟩ | ⟨bT, nT, pT, lT, rfl, nT0, nTl, nTm, hT, hTw⟩
    · rcases q2 with ⟨aR, kR, rfl⟩ | ⟨bR, nR, pR, lR, rfl, nR0, nRl, nRm, hR, hRw⟩
      · exact go (x := 0) (y := 0) (z := 0) (law_000 aO kO aT kT aR kR) (eo0) rfl rfl
      · exact go (x := bR) (y := 0) (z := 0) (law_001 aO kO aT kT pR lR nR lR.length nRl) (eo1 (eo_r hR)) rfl rfl
    · rcases q2 with ⟨aR, kR, rfl⟩ | ⟨bR, nR, pR, lR, rfl, nR0, nRl, nRm, hR, hRw⟩
      · exact go (x := bT) (y := 0) (z := 0) (law_010 aO kO pT lT nT lT.length aR kR nTl (by omega) (okPk_of hTw)) (eo1 (eo_r hT)) rfl rfl
      · exact go (x := bT) (y := bR) (z := 0) (law_011 aO kO pT lT nT lT.length pR lR nR lR.length nTl (by omega) (okPk_of hTw) nRl) (eo2 (eo_r hT) (eo_r hR)) rfl rfl
  · rcases q1 with ⟨aT, kT, rfl⟩ | ⟨bT, nT, pT, lT, rfl, nT0, nTl, nTm, hT, hTw⟩
    · rcases q2 with ⟨aR, kR, rfl⟩ | ⟨bR, nR, pR, lR, rfl, nR0, nRl, nRm, hR, hRw⟩
      · exact go (x := bO) (y := 0) (z := 0) (law_100 pO lO nO lO.length aT kT aR kR nOl (by omega) (okPk_of hOw)) (eo1 (eo_r hO)) rfl rfl
      · exact go (x := bO) (y := bR) (z := 0) (law_101 pO lO nO lO.length aT kT pR lR nR lR.length nOl (by omega) (okPk_of hOw) nRl) (eo2 (eo_r hO) (eo_r hR)) rfl rfl
    · rcases q2 with ⟨aR, kR, rfl⟩ | ⟨bR, nR, pR, lR, rfl, nR0, nRl, nRm, hR, hRw⟩
      · exact go (x := bO) (y := bT) (z := 0) (law_110 pO lO nO lO.length pT lT nT lT.length aR kR nOl (by omega) (okPk_of hOw) nTl (by omega) (okPk_of hTw)) (eo2 (eo_r hO) (eo_r hT)) rfl rfl
      · exact go (x := bO) (y := bT) (z := bR) (law_111 pO lO nO lO.length pT lT nT lT.length pR lR nR lR.length nOl (by omega) (okPk_of hOw) nTl (by omega) (okPk_of hTw) nRl) (eo3 (eo_r hO) (eo_r hT) (eo_r hR)) rfl rfl
end Go.Proofs.Ytggoncamiafclab
