/-
  link: the law LinkPlays answers true. No statement is proved here.
-/
import Derived.Test.YtedcileokcbohaaDoorPlM
import Derived.Test.YtedcileokcbohaaDoorCal
import Derived.Deep.Slices
import Derived.SliceStrings
import Derived.Test.YtedcileokcbohaaDoorLiA
import Derived.ChangeSame
import Derived.ChangeVars
import Derived.JoinedOf
import Derived.RowKit
import Derived.LaidLaws
import Derived.OpenShut
import Derived.ChangeMaps5
import Derived.Stop.Joined
import Derived.Stop.LaidErr
namespace Go.Proofs.YtedcileokcbohaaDoor
open Go.RowKit
set_option linter.unusedVariables false
set_option linter.unusedSimpArgs false
set_option maxRecDepth 100000

theorem v5h (pre : List Value) (l : List Sr) (len cap : Nat) (mac : Tx) (own : BitVec 32) (q : Int) (f : BitVec 64) (K : SV → Mm → Prop) : (vf Tryd.prog E5 noL 5 [.s mac, .w32 own, .i q, .w64 f, .rs 1 pre.length 0 9 len cap] (mH pre l) K) = (bif pre.length.beq pre.length && (len.ble l.length && (len.ble 140737488355328 && okS l)) then bif hvB l len then K (SV.b true) (mH pre l) else bif bif false then true else ilt 100 (↑(List.length mac) : Int) then K (SV.b true) (mH pre l) else bif newB mac own q f then bif newB mac own q f then loopOf Tryd.prog 5 0 = loopOf Tryd.prog 5 0 ∧ False else K (SV.b false) [e0, scrE pre l, { rw := true, c := Cont.row [SV.s mac, SV.w32 own, SV.i q, SV.w64 f, SV.ns true (List.length (mH pre l) + 1) 3 0 0] }, recT' s00] else bif newB mac own q f then K (SV.b false) [e0, scrE pre l, { rw := true, c := Cont.row [SV.s mac, SV.w32 own, SV.i q, SV.w64 f, SV.ns true (List.length (mH pre l) + 1) 3 0 0] }, recT' s00] else K (SV.b (bif true then true else false)) (mH pre l) else False) := by kernel_rfl
theorem newB_q {mac : Tx} {own : BitVec 32} {q : Int} {f : BitVec 64} (h : newB mac own q f = true) : okQ q = true := by
  unfold newB at h
  simp only [Bool.and_eq_true] at h
  exact h.2.2.1
theorem law5_ok (pre : List Value) (l : List Sr) (len cap : Nat) (mac : Tx) (own : BitVec 32) (q : Int) (f : BitVec 64) (hl : len ≤ l.length) (hb : len ≤ 140737488355328) (ho : okS l = true) : Spec Tryd.prog G 5 [.s mac, .w32 own, .i q, .w64 f, .rs 1 pre.length 0 9 len cap] (mH pre l) (fun r _ => r = .b true) := by
  have a0 : (pre.length.beq pre.length && (len.ble l.length && (len.ble 140737488355328 && okS l))) = true := and_t (Nat.beq_refl _) (and_t (ble_of hl) (and_t (ble_of hb) ho))
  rcases bTF (hvB l len) with hv | hv
  · exact vf_ok e5_ok mixed (noL_ok _ _ _ _) (of_eq (v5h pre l len cap mac own q f _) (bif_of a0 (bifT hv rfl)))
  rcases bTF (ilt 100 ((List.length mac : Nat) : Int)) with hm | hm
  · exact vf_ok e5_ok mixed (noL_ok _ _ _ _) (of_eq (v5h pre l len cap mac own q f _) (bif_of a0 (bifF hv (bifT hm rfl))))
  rcases bTF (newB mac own q f) with nb | nb
  · obtain ⟨g1, g2⟩ := hv_no hv
    exact vf_ok e5_ok mixed (loop5P pre l len cap mac own q f ⟨g1, hl, g2, newB_q nb⟩) (of_eq (v5 pre l len cap mac own q f _) (bif_of a0 (bifF hv (bifF hm (bifT nb (bifT nb ⟨rfl, rfl, rfl, rfl, rfl, rfl, rfl, ⟨rfl, rfl⟩, ⟨rfl, rfl⟩, ⟨rfl, rfl⟩, ⟨rfl, rfl⟩, ⟨rfl, rfl⟩, ⟨rfl, rfl⟩, rfl⟩))))))
  · exact vf_ok e5_ok mixed (noL_ok _ _ _ _) (of_eq (v5h pre l len cap mac own q f _) (bif_of a0 (bifF hv (bifF hm (bifF nb (bifF nb rfl))))))
theorem law5z (d : Option Addr) (c : Nat) (mac : Tx) (own : BitVec 32) (q : Int) (f : BitVec 64) : Spec Tryd.prog G 5 [.s mac, .w32 own, .i q, .w64 f, .v (.slice d 0 c)] G (fun r _ => r = .b true) := by
  refine vf_ok e5_ok mixed (LT.add_ok (noL_ok _ _ _ _) (loop_next e5_ok mixed (noL_ok _ _ _ _) (Nat.le_refl _) (by kernel_rfl) (fun _ : Nat => i5z d c) (fun _ => mYP mac own q f) (fun _ => True) (fun _ => 0) (fun i => i) 0 trivial (fun i hp => of_eq (r5z d c mac own q f _) ⟨rfl, ⟨rfl, rfl⟩, trivial⟩))) (of_eq (v5z d c mac own q f _) ?_)
  rcases bTF (ilt 100 ((List.length mac : Nat) : Int)) with hm | hm
  · exact bifT hm rfl
  refine bifF hm ?_
  rcases bTF (newB mac own q f) with nb | nb
  · exact bifT nb (bifT nb ⟨rfl, rfl, rfl, ⟨rfl, rfl⟩, ⟨rfl, rfl⟩, ⟨rfl, rfl⟩, ⟨rfl, rfl⟩, ⟨rfl, rfl⟩, rfl⟩)
  · exact bifF nb (bifF nb rfl)
end Go.Proofs.YtedcileokcbohaaDoor
namespace Go.Proofs.YtedcileokcbohaaDoor
open Go.RowKit Go.ChangeShapes Go.WideShapes Go.Deep
set_option linter.unusedVariables false
set_option linter.unusedSimpArgs false
set_option maxRecDepth 100000

theorem cells49 : Tryd.prog.cellsOf 49 = 9 := by kernel_rfl
theorem cells3 : Tryd.prog.cellsOf 3 = 1 := by kernel_rfl
theorem cells40 : Tryd.prog.cellsOf 40 = 1 := by kernel_rfl
theorem c16_of {n : Int} (h : (Lit.int .u16 n).wf = true) : c16 (BitVec.ofInt 16 n) = .int .u16 n := by unfold c16; rw [u16_of h]
theorem c32_of {n : Int} (h : (Lit.int .u32 n).wf = true) : c32 (BitVec.ofInt 32 n) = .int .u32 n := by unfold c32; rw [u32_of h]
theorem c64_of {n : Int} (h : (Lit.int .u64 n).wf = true) : c64 (BitVec.ofInt 64 n) = .int .u64 n := by unfold c64; rw [u64_of h]
section
variable {H : Type} {enc : TypeId × Value → H} {w : World} {base : Nat} {sp : Nat → Bool} {held : Bool}
theorem open_step {fuel : Nat} {cs : List Value} {y : DataW H × List MemPlace} (hf : DataW.trod enc Tryd.prog w base sp held fuel 49 cs = some y) : ∃ r : Sr, cs = rvs SF r ∧ ∀ n, n = r.2.2.1.length ∨ n = r.2.2.2.2.1.length ∨ n = r.2.2.2.2.2.2.2.1.length → n ∈ y.1.weights Tryd.prog 49 := by
  obtain ⟨xs, k, rfl, hx, hlen, hxl, hfl⟩ := DataW.trod_struct Tryd.underlying49 hf
  rw [cells49] at hlen
  match xs, hxl, cs, hlen with
  | [y0, y1, y2, y3, y4], _, [v0, v1, v2, v3, v4, v5, v6, v7, v8], _ =>
    have f0 := hfl 0 _ rfl
    have f1 := hfl 1 _ rfl
    have f2 := hfl 2 _ rfl
    have f3 := hfl 3 _ rfl
    have f4 := hfl 4 _ rfl
    simp [cells3, cells9, cells25, cells27, cells40] at f0 f1 f2 f3 f4
    obtain ⟨n0, e0, x0, w0⟩ := DataW.trod_int Tryd.underlying3 f0
    obtain ⟨n2, e2, x2, w2⟩ := DataW.trod_int Tryd.underlying25 f2
    obtain ⟨n3, e3, x3, w3⟩ := DataW.trod_string Tryd.underlying9 f3
    obtain ⟨n4, e4, x4, w4⟩ := DataW.trod_int Tryd.underlying40 f4
    obtain ⟨zs, k2, rfl, hz, zlen, zl, zfl⟩ := DataW.trod_struct Tryd.underlying27 f1
    match zs, zl with
    | [z0, z1, z2, z3, z4], _ =>
      have g0 := zfl 0 _ rfl
      have g1 := zfl 1 _ rfl
      have g2 := zfl 2 _ rfl
      have g3 := zfl 3 _ rfl
      have g4 := zfl 4 _ rfl
      simp [cells9, cells22, cells25] at g0 g1 g2 g3 g4
      obtain ⟨m0, a0, b0, t0⟩ := DataW.trod_int Tryd.underlying22 g0
      obtain ⟨m1, a1, b1, t1⟩ := DataW.trod_string Tryd.underlying9 g1
      obtain ⟨m2, a2, b2, t2⟩ := DataW.trod_int Tryd.underlying25 g2
      obtain ⟨m3, a3, b3, t3⟩ := DataW.trod_string Tryd.underlying9 g3
      obtain ⟨m4, a4, b4, t4⟩ := DataW.trod_int Tryd.underlying25 g4
      simp only [List.cons.injEq, and_true] at e0 e2 e3 e4 a0 a1 a2 a3 a4
      subst e0; subst e2; subst e3; subst e4; subst a0; subst a1; subst a2; subst a3; subst a4
      subst x0; subst x2; subst x3; subst x4; subst b0; subst b1; subst b2; subst b3; subst b4
      subst hz
      subst hx
      refine ⟨(n0, BitVec.ofInt 16 m0, bts m1, BitVec.ofInt 32 m2, bts m3, BitVec.ofInt 32 m4, BitVec.ofInt 32 n2, bts n3, BitVec.ofInt 64 n4, ()), ?_, fun n hn => ?_⟩
      · simp only [rvs, Fk.v, txt_bts, c16_of t0, c32_of t2, c32_of t4, c32_of w2, c64_of w4]
      · simp only [bts_len] at hn
        rcases hn with rfl | rfl | rfl <;> simp [DataW.weights, DataW.weightsEach, Tryd.underlying49, Tryd.underlying27]
theorem weights_all {P : Program} {e : TypeId} {n : Nat} : ∀ {l : List (DataW H)} {x : DataW H}, x ∈ l → n ∈ x.weights P e → n ∈ DataW.weightsAll P e l
  | y :: l, x, hx, hn => by
    rw [DataW.weightsAll]
    rcases List.mem_cons.1 hx with rfl | hx
    · exact List.mem_append_left _ hn
    · exact List.mem_append_right _ (weights_all hx hn)
end
theorem rows_cell (fs : List Fk) (hp : 0 < fs.length) (l : List (Rc fs)) {j : Nat} {v : Value} (h : (rows fs l)[j]? = some v) : j / fs.length < l.length ∧ (rvs fs (l.getD (j / fs.length) (rz fs)))[j % fs.length]? = some v := by
  have h1 : j < l.length * fs.length := by
    rw [← rows_len]
    rcases Nat.lt_or_ge j (rows fs l).length with q | q
    · exact q
    · rw [List.getElem?_eq_none q] at h; cases h
  have h2 : j / fs.length < l.length := (Nat.div_lt_iff_lt_mul hp).2 h1
  refine ⟨h2, ?_⟩
  rw [← rows_get fs l _ h2, List.getElem?_take_of_lt (Nat.mod_lt _ hp), List.getElem?_drop]
  rw [show j / fs.length * fs.length + j % fs.length = j by rw [Nat.mul_comm]; exact Nat.div_add_mod j fs.length]
  exact h
def scrB (b : Nat) : Nat → Nat := fun i => if i = 1 then b else i
theorem rel_scr {W : World} (hR : Rel G (fun k => k) G W) {pre : List Value} {l : List Sr} {b : Nat} (hh : Holds W b false (pre ++ rows SF l)) : Rel G (scrB b) (mH pre l) W := by
  have h0 := hR.all 0 e0 rfl rfl
  refine ⟨fun k e he hc => ?_, fun i j x y hx hy hij hr => ?_, fun g hg => ?_, by show 1 ≤ 2; decide, fun k hk => ?_, hR.ro, fun k e he => ?_⟩
  · match k, he with
    | 0, he => cases he; exact h0
    | 1, he => cases he; exact hh
    | k + 2, he => cases he
  · match i, hx with
    | 0, hx => cases hx; cases hr
    | 1, hx => cases hx; cases hr
    | k + 2, hx => cases hx
  · match g, hg with
    | 0, _ => rfl
    | g + 1, hg => exact absurd hg (by show ¬ g + 1 < 1; omega)
  · match k, hk with
    | 0, _ => rfl
    | k + 1, hk => exact absurd hk (by show ¬ k + 1 < 1; omega)
  · match k, he with
    | 0, he => cases he; rfl
    | 1, he => cases he; rfl
    | k + 2, he => cases he
theorem scr_ro (pre : List Value) (l : List Sr) : ∀ (k : Nat) (e : Ent), (mH pre l)[k]? = some e → e.rw = false := fun k e he => by
  match k, he with
  | 0, he => cases he; rfl
  | 1, he => cases he; rfl
  | k + 2, he => cases he
theorem vals5 (m0 : ByteArray) (a0 q0 n0 : Int) (wa : (Lit.int .u32 a0).wf = true) (wq : (Lit.int .i64 q0).wf = true) (wn : (Lit.int .u64 n0).wf = true) (x : SV) (β : Nat → Nat) : (vals β [SV.s (bts m0), SV.w32 (BitVec.ofInt 32 a0), SV.i q0, SV.w64 (BitVec.ofInt 64 n0), x]).toArray = #[.string m0, .int .u32 a0, .int .i64 q0, .int .u64 n0, val β x] := by
  simp only [vals, val, txt_bts, c32, c64, u32_of wa, u64_of wn]
theorem zero5 (d : Option Addr) (c : Nat) (m0 : ByteArray) (a0 q0 n0 : Int) (wa : (Lit.int .u32 a0).wf = true) (wq : (Lit.int .i64 q0).wf = true) (wn : (Lit.int .u64 n0).wf = true) {W : World} (hR : Rel G (fun k => k) G W) : Calls Tryd.prog 5 #[.string m0, .int .u32 a0, .int .i64 q0, .int .u64 n0, .slice d 0 c] W (fun e W' => e = .returned (.bool true) ∧ Fp0 W W') := by
  have := spec_calls (f := 5) (fn := Tryd.f5) Tryd.func5 rfl (by kernel_rfl) (law5z d c (bts m0) (BitVec.ofInt 32 a0) q0 (BitVec.ofInt 64 n0)) hR rfl g_ro rfl
  rw [vals5 m0 a0 q0 n0 wa wq wn] at this
  exact this
theorem calls5 (m0 : ByteArray) (a0 q0 n0 : Int) (wa : (Lit.int .u32 a0).wf = true) (wq : (Lit.int .i64 q0).wf = true) (wn : (Lit.int .u64 n0).wf = true) {H : Type} {enc : TypeId × Value → H} {W : World} {v : Value} {d : DataW H} {ps : List MemPlace} (hv : ∃ a len cap, v = .slice a len cap) (h : DataW.Trod enc Tryd.prog W 0 (fun _ => true) true 41 v d ps) (hz : ∀ n ∈ d.weights Tryd.prog 41, n ≤ 140737488355328) (hR : Rel G (fun k => k) G W) : Calls Tryd.prog 5 #[.string m0, .int .u32 a0, .int .i64 q0, .int .u64 n0, v] W (fun e W' => e = .returned (.bool true) ∧ Fp0 W W') := by
  obtain ⟨a1, len0, cap0, rfl⟩ := hv
  obtain ⟨fuel, hf⟩ := h
  rcases open_slice Tryd.underlying41 hf with ⟨hcs, _⟩ | ⟨a, len, cap, m, n, D, Pl, hcs, _, hl, hm, hmm, hxd, hx⟩
  · simp [Value.cells] at hcs
    obtain ⟨rfl, rfl, rfl⟩ := hcs
    exact zero5 none 0 m0 a0 q0 n0 wa wq wn hR
  · simp [Value.cells] at hcs
    obtain ⟨rfl, rfl, rfl⟩ := hcs
    rw [if_pos rfl] at hmm
    subst hmm
    rcases Nat.eq_zero_or_pos len0 with h0 | h0
    · subst h0
      exact zero5 (some a) m m0 a0 q0 n0 wa wq wn hR
    · rw [cells49] at hx
      haveI : Inhabited Sr := ⟨rz SF⟩
      obtain ⟨rf, hrf⟩ := choose_lt (n := m) (α := Sr) (p := fun i r => W.cells? 0 (a.add (i * 9)) 9 = some (rvs SF r) ∧ ∀ x, x = r.2.2.1.length ∨ x = r.2.2.2.2.1.length ∨ x = r.2.2.2.2.2.2.2.1.length → x ∈ (D i).weights Tryd.prog 49) (fun i hi => by
        obtain ⟨cs', h1, h2⟩ := hx i hi
        obtain ⟨r, rfl, h3⟩ := open_step h2
        exact ⟨r, h1, h3⟩)
      have cell0 : ∀ i, i < m → ∀ t, t < 9 → W.cell? ((a.add (i * 9)).add t) = (rvs SF (rf i))[t]? := fun i hi t ht => (World.cells?_some (hrf i hi).1).2.2 t ht
      obtain ⟨b, o, spot⟩ := a
      have hspot : spot = none := by
        have := cell0 0 (by omega) 0 (by decide)
        have h1 := World.cell?_spot this
        unfold Addr.add at h1
        cases spot with
        | none => rfl
        | some s => simp at h1
      subst hspot
      have cell : ∀ i, i < m → ∀ t, t < 9 → W.cell? ⟨b, o + (i * 9 + t), none⟩ = (rvs SF (rf i))[t]? := fun i hi t ht => by
        have := cell0 i hi t ht
        rw [Go.WideShapes.add_plain, Go.WideShapes.add_plain, Nat.add_assoc] at this
        exact this
      have hv00 : W.cell? ⟨b, o + (0 * 9 + 0), none⟩ = some (.int .i64 (rf 0).1) := cell 0 (by omega) 0 (by decide)
      obtain ⟨cs, t, fr, hb⟩ : ∃ cs t fr, W.heap[b]? = some (.cells cs t fr) := by
        have := hv00
        unfold World.cell? at this
        split at this
        · rename_i cs t fr e; exact ⟨cs, t, fr, e⟩
        · cases this
      have at' : ∀ j, W.cell? ⟨b, j, none⟩ = cs[j]? := fun j => by simp [World.cell?, hb]
      have hsz : o < cs.size := by
        have := hv00
        rw [at'] at this
        exact (Array.getElem?_eq_some_iff.1 this).1
      have hpl : (cs.toList.take o).length = o := by rw [List.length_take, Array.length_toList]; omega
      let l : List Sr := (List.range m).map rf
      have ll : l.length = m := by simp [l]
      have lg : ∀ i, i < m → l.getD i (rz SF) = rf i := fun i hi => by
        rw [List.getD_eq_getElem?_getD, List.getElem?_map, List.getElem?_range hi]; rfl
      have hh : Holds W b false (cs.toList.take o ++ rows SF l) := by
        refine ⟨?_, fun j v hv => ?_, (fun h => nomatch h), (fun s h => nomatch h), (fun h => nomatch h), (fun h => nomatch h)⟩
        · rcases Nat.lt_or_ge b W.heap.size with q | q
          · exact q
          · rw [Array.getElem?_eq_none q] at hb; cases hb
        · rcases Nat.lt_or_ge j o with q | q
          · rw [List.getElem?_append_left (by omega), List.getElem?_take_of_lt q, Array.getElem?_toList] at hv
            rw [at']; exact hv
          · rw [List.getElem?_append_right (by omega), hpl] at hv
            obtain ⟨h1, h2⟩ := rows_cell SF (by decide) l hv
            have e9 : SF.length = 9 := rfl
            rw [e9] at h1 h2
            rw [ll] at h1
            rw [lg _ h1] at h2
            have := cell _ h1 ((j - o) % 9) (Nat.mod_lt _ (by decide))
            rw [show o + ((j - o) / 9 * 9 + (j - o) % 9) = j by omega, h2] at this
            exact this
      have hR2 := rel_scr hR hh
      obtain rfl : d = _ := congrArg Prod.fst hxd
      have hw : DataW.weights Tryd.prog 41 (DataW.slice ((List.range len0).map D) ((List.range (m - len0)).map fun j => D (len0 + j))) = (((List.range len0).map D).length + ((List.range (m - len0)).map fun j => D (len0 + j)).length) * Tryd.prog.bytesOf 49 :: (DataW.weightsAll Tryd.prog 49 ((List.range len0).map D) ++ DataW.weightsAll Tryd.prog 49 ((List.range (m - len0)).map fun j => D (len0 + j))) := by
        simp only [DataW.weights, Tryd.underlying41]
      have hlen : m ≤ 140737488355328 := by
        have q := hz _ (by rw [hw]; exact List.mem_cons_self)
        rw [List.length_map, List.length_map, List.length_range, List.length_range, show Tryd.prog.bytesOf 49 = 96 by kernel_rfl] at q
        omega
      have hok : okS l = true := by
        unfold okS
        rw [List.all_eq_true]
        intro r hr
        obtain ⟨i, hi, rfl⟩ := List.mem_map.1 hr
        rw [List.mem_range] at hi
        have g : ∀ x, x = (rf i).2.2.1.length ∨ x = (rf i).2.2.2.2.1.length ∨ x = (rf i).2.2.2.2.2.2.2.1.length → x ≤ 140737488355328 := fun x hx' => by
          refine hz x ?_
          rw [hw]
          refine List.mem_cons_of_mem _ ?_
          rcases Nat.lt_or_ge i len0 with q | q
          · exact List.mem_append_left _ (weights_all (List.mem_map.2 ⟨i, List.mem_range.2 q, rfl⟩) ((hrf i hi).2 x hx'))
          · exact List.mem_append_right _ (weights_all (x := D i) (List.mem_map.2 ⟨i - len0, List.mem_range.2 (by omega), by rw [show len0 + (i - len0) = i by omega]⟩) ((hrf i hi).2 x hx'))
        exact and_t (ble_of (g _ (.inl rfl))) (and_t (ble_of (g _ (.inr (.inl rfl)))) (ble_of (g _ (.inr (.inr rfl)))))
      have := spec_calls (f := 5) (fn := Tryd.f5) (M := mH (cs.toList.take o) l) Tryd.func5 rfl (by kernel_rfl) (law5_ok (cs.toList.take o) l len0 m (bts m0) (BitVec.ofInt 32 a0) q0 (BitVec.ofInt 64 n0) (by omega) (by omega) hok) hR2 rfl (scr_ro _ _) rfl
      rw [vals5 m0 a0 q0 n0 wa wq wn] at this
      have e : val (scrB b) (.rs 1 (cs.toList.take o).length 0 9 len0 m) = Value.slice (some ⟨b, o, none⟩) len0 m := by
        rw [hpl]; rfl
      rw [e] at this
      exact this
end Go.Proofs.YtedcileokcbohaaDoor
namespace Go.Proofs.YtedcileokcbohaaDoor
open Go.ChangeShapes Go.WideShapes Go.RowKit
set_option linter.unusedVariables false
set_option maxRecDepth 100000

abbrev laidS : List (String × DataW Unit) := Rows.linkCodesRow.laid
theorem Tryd.ownN : ownKnob Tryd.prog.godebug = none := by kernel_rfl
theorem gRows : Tryd.prog.globalNamed (laidS.map Prod.fst)[0]! = some 0 := by kernel_rfl
theorem tRows : (Tryd.prog.globals[0]?).map (·.type) = some 67 := by kernel_rfl
theorem cells5 : Tryd.prog.cellsOf 5 = 1 := by kernel_rfl
theorem cells67 : Tryd.prog.cellsOf 67 = 6 := by kernel_rfl
/-- The numbers of bytes. -/
def nums (l : List (BitVec 8)) : List Int := l.map fun x => ((x.toNat : Nat) : Int)
theorem nums_c (l : List (BitVec 8)) : (nums l).map (Value.int .u8 ·) = l.map c8 := by
  unfold nums
  rw [List.map_map]
  rfl
theorem laidRows : (Rows.laid_pharos_link_arpHead : DataW Unit) = .agg ((nums HD).map fun m => .lit (.int .u8 m)) := by kernel_rfl
theorem int_of_trod {H : Type} {enc : TypeId × Value → H} {P : Program} {w : World} {base : Nat} {sp : Nat → Bool} {held : Bool} {fuel : Nat} {t : TypeId} {k : IntKind} {c : Value} {y : DataW H × List MemPlace}
    (ht : P.underlying t = some (.int k)) (h : DataW.trod enc P w base sp held fuel t [c] = some y) : ∃ n, c = .int k n ∧ y = (.lit (.int k n), []) := by
  cases fuel with
  | zero => simp [DataW.trod] at h
  | succ fuel =>
    cases c <;> simp [DataW.trod, ht] at h
    rename_i k' n
    obtain ⟨⟨rfl, _⟩, rfl⟩ := h
    exact ⟨n, rfl, rfl⟩
theorem cells_of_arr {H : Type} {enc : TypeId × Value → H} {P : Program} {w : World} {base : Nat} {sp : Nat → Bool} {held : Bool} {fuel n : Nat} {t e : TypeId} {k : IntKind} {cs : List Value} {ms : List Int} {p : List MemPlace} (ht : P.underlying t = some (.array n e)) (he : P.underlying e = some (.int k)) (hc : P.cellsOf e = 1) (hn : P.cellsOf t = n)
    (hd : DataW.trod enc P w base sp held fuel t cs = some (.agg (ms.map fun m => .lit (.int k m)), p)) : cs = ms.map (Value.int k ·) := by
  obtain ⟨xs, m, rfl, hx, hl, hxl, hall⟩ := DataW.trod_array ht hd
  simp only [Prod.mk.injEq, DataW.agg.injEq] at hx
  obtain ⟨hx, -⟩ := hx
  rw [hn] at hl
  have hml : ms.length = n := by
    have := congrArg List.length hx
    simpa [hxl] using this
  apply List.ext_getElem?
  intro i
  rcases Nat.lt_or_ge i n with q | q
  · have h1 := hall i q
    rw [hc, Nat.mul_one] at h1
    have hcs : (cs.drop i).take 1 = [cs[i]] := by
      rw [List.drop_eq_getElem_cons (by omega)]
      rfl
    rw [hcs, List.getElem?_eq_getElem (by omega)] at h1
    obtain ⟨v, e1, e2⟩ := int_of_trod he h1
    have h2 : (ms.map fun m => (DataW.lit (.int k m) : DataW H))[i]? = (xs.map (·.1))[i]? := by rw [hx]
    rw [List.getElem?_map, List.getElem?_map, List.getElem?_eq_getElem (by omega : i < ms.length), List.getElem?_eq_getElem (by omega : i < xs.length), e2] at h2
    simp only [Option.map_some, Option.some.injEq, DataW.lit.injEq, Lit.int.injEq, true_and] at h2
    rw [List.getElem?_eq_getElem (by omega : i < cs.length), e1, List.getElem?_map, List.getElem?_eq_getElem (by omega : i < ms.length), h2]
    rfl
  · rw [List.getElem?_eq_none (by omega), List.getElem?_eq_none (by rw [List.length_map]; omega)]
theorem lt_of_cell {w : World} {b j : Nat} {v : Value} (h : w.cell? ⟨b, j, none⟩ = some v) : b < w.heap.size := by
  unfold World.cell? at h
  rcases Nat.lt_or_ge b w.heap.size with q | q
  · exact q
  · rw [Array.getElem?_eq_none q] at h
    cases h
theorem rel_of_laid {W : World} (h : laidMetH Tryd.prog laidS W) : Rel G (fun k => k) G W := by
  have h' : laidMet Tryd.prog laidS W := h
  obtain ⟨ps, ⟨g, t, cs, fuel, p, q, hg, ht, hvar, hd, _, _⟩, _⟩ := h'
  obtain rfl := Option.some.inj (gRows.symm.trans hg)
  obtain rfl := Option.some.inj (tRows.symm.trans ht)
  rw [laidRows] at hd
  have e1 := cells_of_arr Tryd.underlying67 Tryd.underlying5 cells5 cells67 hd
  rw [nums_c] at e1
  have hcell := World.var?_cell hg hvar
  have hc : ∀ (j : Nat) (v : Value), (HD.map c8)[j]? = some v → W.cell? ⟨0, j, none⟩ = some v := fun j v hv => by
    rw [hcell j, ← Array.getElem?_toList, e1]; exact hv
  have h0 : Holds W 0 false (HD.map c8) := ⟨lt_of_cell (hc 0 _ rfl), hc, (fun h => nomatch h), (fun s hs => nomatch hs), (fun h => nomatch h), (fun h => nomatch h)⟩
  refine ⟨fun k e he hc => ?_, fun i j x y hx hy hij hr => ?_, fun _ _ => rfl, Nat.le_refl _, fun _ _ => rfl, fun k e he => ?_, fun k e he => ?_⟩
  · match k, he with
    | 0, he => obtain rfl := Option.some.inj he; exact h0
    | k + 1, he => cases he
  · match i, hx with
    | 0, hx => obtain rfl := Option.some.inj hx; cases hr
    | k + 1, hx => cases hx
  · match k, he with
    | 0, he => obtain rfl := Option.some.inj he; exact ⟨rfl, rfl⟩
    | k + 1, he => cases he
  · match k, he with
    | 0, he => obtain rfl := Option.some.inj he; rfl
    | k + 1, he => cases he
def cellsX : Array Value := (HD.map c8).toArray
def wrld (P : Program) (os : Os) : World := { World.holding P os ⟨#[], #[], []⟩ with heap := (World.holding P os ⟨#[], #[], []⟩).heap.modify 0 (fun | .cells _ t frozen => .cells cellsX t frozen | o => o) }
theorem world_met (os : Os) (args : Array Value) : laidMetH Tryd.prog laidS ((wrld Tryd.prog os).forCall (fun _ _ => 0) ⟨#[], args, []⟩).memory :=
  laidMet_of_run' 8 (by kernel_rfl) (by kernel_rfl)
end Go.Proofs.YtedcileokcbohaaDoor
