/-
  flow: the law FlowPlays answers true. No statement is proved here.
-/
import Derived.Test.YtkjfecdpakhggaaFyF
import Derived.Test.YtkjfecdpakhggaaCas
import Derived.SizedLaws
import Derived.ProofKit
namespace Go.Proofs.Ytkjfecdpakhggaa
open Go.RowKit
set_option linter.unusedVariables false
set_option linter.unusedSimpArgs false
set_option maxRecDepth 100000

/-- Both show the same. -/
theorem eq_tail {p' : QuP} {d' : QuD} {q : Qa} (hp : PQa p' q) (hd : DQ d' q) {D : Prop} (hD : D) : bif !(p'.z == 0) then bif p'.a != d'.a then False else bif !(p'.z == 0) && inI (p'.z - ((p'.sn : Nat) : Int)) then bif inI (d'.z - ((d'.rd.length : Nat) : Int)) then bif bif false then true else winT p'.z p'.ed p'.sn != winT d'.z d'.ed d'.rd.length then False else bif !(p'.z == 0) then bif bif false then true else ((p'.sn : Nat) : Int) != ((d'.rd.length : Nat) : Int) then False else bif !(p'.z == 0) then bif d'.l.length.beq d'.n && d'.n.ble 4294967296 then bif bif false then true else ((p'.es.length : Nat) : Int) != ((hdN d'.l d'.n : Nat) : Int) then False else bif !(p'.z == 0) then bif bif false then true else bif true then !(p'.ed == d'.ed) else p'.ed == d'.ed then False else D else False else False else False else False else False else False else False := by
  have ea : p'.a = d'.a := hp.a.trans hd.a.symm
  have ez : p'.z = d'.z := hp.z.trans hd.z.symm
  have eed : p'.ed = d'.ed := hp.ed.trans hd.ed.symm
  have esn : p'.sn = d'.rd.length := hp.sn.trans (by rw [hd.rd])
  have ehe : p'.es.length = hdN d'.l d'.n := hp.len.trans hd.held.symm
  obtain ⟨-, hI⟩ := hp.win
  have hz2 := hp.ok.z2
  have hn := hd.n
  refine bif_of hp.nz (bifF (by rw [ea]; simp) (bif_of (by rw [hp.nz, hI]; rfl) (bif_of (by rw [← ez, ← esn]; exact hI) (bifF (c := bif false then true else winT p'.z p'.ed p'.sn != winT d'.z d'.ed d'.rd.length) (by show (_ != _) = false; rw [ez, eed, esn]; simp) (bif_of hp.nz (bifF (c := bif false then true else ((p'.sn : Nat) : Int) != ((d'.rd.length : Nat) : Int)) (by show (_ != _) = false; rw [esn]; simp) (bif_of hp.nz (bif_of ?_ (bifF (c := bif false then true else ((p'.es.length : Nat) : Int) != ((hdN d'.l d'.n : Nat) : Int)) (by show (_ != _) = false; rw [ehe]; simp) (bif_of hp.nz (bifF (c := bif false then true else bif true then !(p'.ed == d'.ed) else p'.ed == d'.ed) (by show (!(p'.ed == d'.ed)) = false; rw [eed]; simp) hD)))))))))))
  rw [hd.lm.ll, Nat.beq_refl, Bool.true_and, Nat.ble_eq]
  omega
def PP3 (len : Nat) (st : S3) : Prop := st.i ≤ len ∧ EB st.d st.i ∧ ∃ q, PQa st.p q ∧ DQ st.d q
theorem round3 (pre : List Value) (l : List Sr) (len cap i : Nat) (rb : Nat) (p : QuP) (rd : Nat) (d : QuD) (hl : len ≤ l.length) (h100 : len ≤ 100) (hs : ∀ i, i < len → stW (l.getD i (rz SF)) ≤ 8192) (hp : PP3 len ⟨i, p, d⟩) :
    frK 153 (iP3 pre len cap i) fun fr => vround Try.prog EP3 noL 3 0 fr (mP3 pre l rb p rd d) (Kp (mH pre l) 0 153 (sel3 i) (fun st' => PP3 len st' ∧ len - st'.i < len - i) (fun st => iP3 pre len cap st.i) (fun st => mP3 pre l rb st.p rd st.d) True [] (mH pre l)) := by
  obtain ⟨hi, hb, q, hq, hd⟩ := hp
  replace hi : i ≤ len := hi
  replace hb : EB d i := hb
  replace hq : PQa p q := hq
  replace hd : DQ d q := hd
  refine of_eq (r3P pre l len cap i rb p rd d _ _) ?_
  rcases bTF (ilt (i : Int) (len : Int)) with hc | hc
  rotate_left
  · exact bifF hc ⟨rfl, trivial, ⟨rfl, rfl⟩, trivial⟩
  have hlt : i < len := by have := of_ilt hc; omega
  have hr : stW (l.getD (i + (pre.length - pre.length) / 5) (rz SF)) ≤ 8192 := hs _ (by omega)
  unfold stW at hr
  have hI : inI ((i : Int) + 1) = true := inI_iff.2 (by omega)
  refine bifT hc (bif_of (inRn hlt) (bif_of (by rw [rok_s pre (by omega)]; rfl) ?_))
  generalize (l.getD (i + (pre.length - pre.length) / 5) (rz SF)).snd.snd.snd.snd.fst = m
  generalize (l.getD (i + (pre.length - pre.length) / 5) (rz SF)).snd.snd.snd.fst = reads
  generalize (l.getD (i + (pre.length - pre.length) / 5) (rz SF)).snd.snd.fst = fin
  generalize (l.getD (i + (pre.length - pre.length) / 5) (rz SF)).snd.fst = dd at hr ⊢
  generalize (l.getD (i + (pre.length - pre.length) / 5) (rz SF)).fst = sq
  rcases bTF reads with hre | hre
  · refine bifT hre ⟨⟨⟨q, hq⟩, fun q1 p' h1 hp' => ⟨⟨⟨rfl, trivial⟩, ⟨rfl, trivial⟩, trivial⟩, ⟨⟨q, hd⟩, fun q2 d' h2 hd' he => ?_⟩, trivial⟩⟩, trivial⟩
    obtain rfl := hq.uniq h1
    obtain rfl := hd.uniq h2
    refine bifF (by simp) (eq_tail hp' hd' (bif_of hI ⟨⟨⟨hlt, ⟨by rw [he]; have := hb.1; show -(65537 * ((i + 1 : Nat) : Int)) ≤ d.e; omega, by rw [he]; exact hb.2⟩, _, hp', hd'⟩, by show len - (i + 1) < len - i; omega⟩, rfl, rfl, rfl, rfl, ⟨rfl, rfl⟩, ⟨rfl, rfl⟩, ⟨rfl, rfl⟩, trivial⟩))
  · refine bifF hre ⟨⟨⟨q, hq⟩, fun q1 p' h1 hp' => ⟨⟨⟨rfl, trivial⟩, ⟨rfl, trivial⟩, ⟨rfl, trivial⟩, ⟨rfl, trivial⟩, ⟨rfl, trivial⟩, ⟨rfl, trivial⟩, trivial⟩, ⟨⟨q, i, hd, hb, by omega, by omega⟩, fun q2 d' h2 hd' he => ?_⟩, trivial⟩⟩, trivial⟩
    obtain rfl := hq.uniq h1
    obtain rfl := hd.uniq h2
    refine bifF (c := bif true then !(q.moved sq dd fin == q.moved sq dd fin) else q.moved sq dd fin == q.moved sq dd fin) (by simp) (eq_tail hp' hd' (bif_of hI ⟨⟨⟨hlt, he i hb, _, hp', hd'⟩, by show len - (i + 1) < len - i; omega⟩, rfl, rfl, rfl, rfl, ⟨rfl, rfl⟩, ⟨rfl, rfl⟩, ⟨rfl, rfl⟩, trivial⟩))
theorem loop3 (pre : List Value) (l : List Sr) (len cap : Nat) (a : BitVec 32) (w : Int) : LOk Try.prog G (mH pre l) 3 (L3 pre l len cap a w) := by
  refine LT.add_ok (noL_ok _ _ _ _) fun fr M K h => ?_
  split at h
  · rename_i rb p rd d _ _
    obtain ⟨⟨hp, hd, hb, c1, c2, c3⟩, h⟩ := h
    obtain ⟨hle, hK⟩ := vLe_ok h
    refine loop_pick ep3_ok mixed (Nat.zero_le _) (by kernel_rfl) (fun st : S3 => iP3 pre len cap st.i) (fun st => mP3 pre l rb st.p rd st.d) (PP3 len) (fun st => len - st.i) (fun st => sel3 st.i) (fun _ => True) (fun _ => []) (fun _ => mH pre l) ⟨0, p, d⟩ ⟨Nat.zero_le _, hb, _, hp, hd⟩ (fun _ => noL) (fun _ _ => noL_ok _ _ _ _) (fun st hst => round3 pre l len cap st.i rb st.p rd st.d c2 c1 c3 hst) hle (fun st hst hq => ?_)
    rw [frK_eq] at hK
    exact hK
  · exact h.elim
theorem loop3z (ad : Option Addr) (c : Nat) : LOk Try.prog G G 3 (L3z ad c) := by
  refine LT.add_ok (noL_ok _ _ _ _) fun fr M K h => ?_
  split at h
  · rename_i rb p rd d _ _
    exact loop_next ep3_ok mixed (noL_ok _ _ _ _) (Nat.le_refl _) (by kernel_rfl) (fun _ : Nat => iPz ad c) (fun _ => [quE rb p, duE rd d]) (fun _ => True) (fun _ => 0) (fun i => i) 0 trivial (fun i hp => of_eq (r3Z ad c rb p rd d _) ⟨rfl, trivial⟩) fr M K h
  · exact h.elim
theorem may_eq {w : Int} : (ile 1 w && ile w 65536) = !(ilt w 1 || ilt 65536 w) := by
  rw [ile_eq, ile_eq, ilt_eq, ilt_eq, Bool.eq_iff_iff]
  simp only [Bool.and_eq_true, decide_eq_true_eq, Bool.not_eq_true', Bool.or_eq_false_iff, decide_eq_false_iff_not]
  omega
/-- The law's way from its heads on. -/
theorem head3 {w : Int} {x y n : BitVec 32} {KT KF : Prop} {Y Z : Nat → QuP → Prop} {a : BitVec 32} (hT : KT) (hX : ∀ rb p, PQa p (newA a w.toNat) → 1 ≤ w → w ≤ 65536 → Z rb p) :
    bif bif true then !(lessB x y == lessB x y) else lessB x y == lessB x y then KF else bif bif false then true else bif true then !((x - y).ult n == (x - y).ult n) else (x - y).ult n == (x - y).ult n then KF else bif ilt w 1 || ilt 65536 w then bif !(ile 1 w && ile w 65536) then KT else KF else ∀ (rb : Nat) (p : QuP), PQa p (newA a w.toNat) → bif !(ile 1 w && ile w 65536) then Y rb p else (1 ≤ w ∧ w ≤ 65536) ∧ Z rb p := by
  refine bifF (c := bif true then !(lessB x y == lessB x y) else lessB x y == lessB x y) (by simp) (bifF (c := bif false then true else bif true then !((x - y).ult n == (x - y).ult n) else (x - y).ult n == (x - y).ult n) (by simp) ?_)
  rw [may_eq]
  rcases bTF (ilt w 1 || ilt 65536 w) with h | h
  · refine bifT h ?_
    rw [h]; exact hT
  · refine bifF h fun rb p hp => ?_
    have h2 := h
    simp only [Bool.or_eq_false_iff] at h2
    have g1 := of_nilt h2.1
    have g2 := of_nilt h2.2
    rw [h]
    exact ⟨⟨by omega, by omega⟩, hX rb p hp (by omega) (by omega)⟩
theorem law3_ok (pre : List Value) (l : List Sr) (len cap : Nat) (a : BitVec 32) (w : Int) (x y n : BitVec 32) (hl : len ≤ l.length) (hb : len ≤ 140737488355328) (ho : okS l = true) : Spec Try.prog G 3 [.w32 a, .i w, .rs 0 pre.length 0 5 len cap, .w32 x, .w32 y, .w32 n] (mH pre l) (fun r _ => r = .b true) := by
  have a0 : (pre.length.beq pre.length && (len.ble l.length && (len.ble 140737488355328 && okS l))) = true := and_t (Nat.beq_refl _) (and_t (ble_of hl) (and_t (ble_of hb) ho))
  refine vf_ok ep3_ok mixed (loop3 pre l len cap a w) (of_eq (vP3 pre l len cap a w x y n _) (bif_of a0 ?_))
  rcases bTF (hvB l len) with hv | hv
  · exact bifT hv rfl
  obtain ⟨g1, g2⟩ := hv_no hv
  refine bifF hv ?_
  rcases bTF (ilt 2048 w) with h1 | h1
  · refine bifT h1 ?_
    rcases bTF (ile w 65536) with h2 | h2
    · exact bifT (c := bif false then true else bif true then ile w 65536 else false) h2 rfl
    · exact bifF (c := bif false then true else bif true then ile w 65536 else false) h2 (head3 rfl fun rb p hp c1 c2 rd d hd he => ⟨rfl, ⟨hp, hd, he, g1, hl, g2⟩, rfl, rfl, rfl, rfl, ⟨rfl, rfl⟩, ⟨rfl, rfl⟩, ⟨rfl, rfl⟩, rfl⟩)
  · exact bifF h1 (head3 rfl fun rb p hp c1 c2 rd d hd he => ⟨rfl, ⟨hp, hd, he, g1, hl, g2⟩, rfl, rfl, rfl, rfl, ⟨rfl, rfl⟩, ⟨rfl, rfl⟩, ⟨rfl, rfl⟩, rfl⟩)
theorem law3z (ad : Option Addr) (c : Nat) (a : BitVec 32) (w : Int) (x y n : BitVec 32) : Spec Try.prog G 3 [.w32 a, .i w, .v (.slice ad 0 c), .w32 x, .w32 y, .w32 n] [] (fun r _ => r = .b true) := by
  refine vf_ok ep3_ok mixed (loop3z ad c) (of_eq (vP3z ad c a w x y n _) ?_)
  rcases bTF (ilt 2048 w) with h1 | h1
  · refine bifT h1 ?_
    rcases bTF (ile w 65536) with h2 | h2
    · exact bifT (c := bif false then true else bif true then ile w 65536 else false) h2 rfl
    · exact bifF (c := bif false then true else bif true then ile w 65536 else false) h2 (head3 rfl fun rb p hp c1 c2 rd d hd he => ⟨rfl, rfl, rfl, rfl, rfl, ⟨rfl, rfl⟩, ⟨rfl, rfl⟩, rfl⟩)
  · exact bifF h1 (head3 rfl fun rb p hp c1 c2 rd d hd he => ⟨rfl, rfl, rfl, rfl, rfl, ⟨rfl, rfl⟩, ⟨rfl, rfl⟩, rfl⟩)
end Go.Proofs.Ytkjfecdpakhggaa
namespace Go.Proofs.Ytkjfecdpakhggaa
open Go.RowKit Go.ChangeShapes Go.WideShapes Go.Deep
set_option linter.unusedVariables false
set_option linter.unusedSimpArgs false
set_option maxRecDepth 100000

theorem vals3 (a w x y n : Int) (wa : (Lit.int .u32 a).wf = true) (wx : (Lit.int .u32 x).wf = true) (wy : (Lit.int .u32 y).wf = true) (wn : (Lit.int .u32 n).wf = true) (s : SV) (β : Nat → Nat) : (vals β [SV.w32 (BitVec.ofInt 32 a), SV.i w, s, SV.w32 (BitVec.ofInt 32 x), SV.w32 (BitVec.ofInt 32 y), SV.w32 (BitVec.ofInt 32 n)]).toArray = #[.int .u32 a, .int .i64 w, val β s, .int .u32 x, .int .u32 y, .int .u32 n] := by
  simp only [vals, val, c32, u32_of wa, u32_of wx, u32_of wy, u32_of wn]
theorem calls3 (a0 w0 x0 y0 n0 : Int) (wa : (Lit.int .u32 a0).wf = true) (ww : (Lit.int .i64 w0).wf = true) {H : Type} {enc : TypeId × Value → H} {W : World} {v : Value} {d : DataW H} {ps : List MemPlace} (hv : ∃ a len cap, v = .slice a len cap) (h : DataW.Trod enc Try.prog W 0 (fun _ => true) true 23 v d ps) (hz : ∀ n ∈ d.weights Try.prog 23, n ≤ 140737488355328) (wx : (Lit.int .u32 x0).wf = true) (wy : (Lit.int .u32 y0).wf = true) (wn : (Lit.int .u32 n0).wf = true) : Calls Try.prog 3 #[.int .u32 a0, .int .i64 w0, v, .int .u32 x0, .int .u32 y0, .int .u32 n0] W (fun e W' => e = .returned (.bool true) ∧ Fp0 W W') := by
  rcases open_rows (fs := SF) (by decide) Try.underlying23 cells36 bytes36 (fun r => [r.2.1.length]) open_step hv h hz with ⟨a, c, rfl⟩ | ⟨b, len, pre, l, rfl, h0, hl, hm, hh, hw⟩
  · have := spec_calls (f := 3) (fn := Try.f3) Try.func3 rfl (by kernel_rfl) (law3z a c (BitVec.ofInt 32 a0) w0 (BitVec.ofInt 32 x0) (BitVec.ofInt 32 y0) (BitVec.ofInt 32 n0)) (g_rel W) rfl g_ro rfl
    rw [vals3 a0 w0 x0 y0 n0 wa wx wy wn] at this
    exact this
  · have hok : okS l = true := by
      unfold okS
      rw [List.all_eq_true]
      intro r hr
      exact ble_of (hw r hr _ (List.mem_singleton.2 rfl))
    have := spec_calls (f := 3) (fn := Try.f3) (M := mH pre l) Try.func3 rfl (by kernel_rfl) (law3_ok pre l len l.length (BitVec.ofInt 32 a0) w0 (BitVec.ofInt 32 x0) (BitVec.ofInt 32 y0) (BitVec.ofInt 32 n0) hl (by omega) hok) (rel_scr hh) rfl (scr_ro _ _) rfl
    rw [vals3 a0 w0 x0 y0 n0 wa wx wy wn] at this
    exact this
end Go.Proofs.Ytkjfecdpakhggaa
namespace Go.Proofs.Ytkjfecdpakhggaa
open Go.ChangeShapes Go.WideShapes Go.ChangeAt Go.RowKit Go.BigFrame Go.ChangeMaps
set_option linter.unusedVariables false
set_option maxRecDepth 100000

theorem Try.ownN : ownKnob Try.prog.godebug = none := by kernel_rfl

theorem plays_lifted (os : Os) (started : os.Started) (H : Type) (enc : TypeId × Value → H) :
    ReturnsInHanded {} Try.checked os 3 .any (Rows.flowPlaysSpec.pre6 enc Try.prog Try.f3 Rows.flowPlaysRow.domain false) (Rows.flowPlaysSpec.post enc Try.prog Try.f3 false true false false) := by
  refine returnsInHanded_of_change_sized (C := Try.checked) Try.ownN started (by kernel_rfl) Try.func3
    (ChangeSpec.witness6 (enc := enc) (C := Try.checked) false ⟨#[], #[.int .u32 0, .int .i64 0, .slice none 0 0, .int .u32 0, .int .u32 0, .int .u32 0], []⟩ 8 (by kernel_rfl) (by kernel_rfl) (by kernel_rfl) (by kernel_rfl)) ?_
  intro W base args ds gs before hval0 hW hcnd hsz _
  have hval : ∀ (j : Nat) t v, Try.f3.params[j]? = some t → args[j]? = some v → Value.okWide Try.prog W .any base t v := hval0
  have hW' := hW
  obtain ⟨p, q, hA0, hV, rfl, hfz, hnd⟩ := hW
  have hA : DataW.TrodAll enc Try.prog W 0 (fun _ => true) true Try.f3.params.toList args.toList ds p := hA0
  have hsz' : (DataW.weightsEach Try.prog (Try.f3.params.toList ++ []) (ds ++ gs)).all (· ≤ reachBytes) = true := hsz
  rw [Try.params3] at hA hval hsz'
  obtain ⟨v0, vs0, d0, ds0, p0, q0, hargs, rfl, rfl, h0, r0⟩ := trodAll_cons hA
  obtain ⟨v1, vs1, d1, ds1, p1, q1, hargs1, rfl, rfl, h1, r1⟩ := trodAll_cons r0
  obtain ⟨v2, vs2, d2, ds2, p2, q2, hargs2, rfl, rfl, h2, r2⟩ := trodAll_cons r1
  obtain ⟨v3, vs3, d3, ds3, p3, q3, hargs3, rfl, rfl, h3, r3⟩ := trodAll_cons r2
  obtain ⟨v4, vs4, d4, ds4, p4, q4, hargs4, rfl, rfl, h4, r4⟩ := trodAll_cons r3
  obtain ⟨v5, vs5, d5, ds5, p5, q5, hargs5, rfl, rfl, h5, r5⟩ := trodAll_cons r4
  obtain ⟨rfl, rfl, rfl⟩ := trodAll_nil r5
  obtain rfl : args = #[v0, v1, v2, v3, v4, v5] := by cases args; simp_all
  obtain ⟨rfl, rfl⟩ := trodVars_none hV
  obtain ⟨a0, rfl, rfl, rfl, w0⟩ := open_int Try.underlying22 (hval 0 22 v0 rfl rfl) h0
  obtain ⟨a1, rfl, rfl, rfl, w1⟩ := open_int Try.underlying3 (hval 1 3 v1 rfl rfl) h1
  have h2k := h2
  have hlt2 : ∀ x ∈ p2, x.block < W.heap.size := fun x hx => by simpa using hW'.lt x (by simp [hx])
  have hv2 := okWide_slice Try.underlying23 (hval 2 23 v2 rfl rfl)
  obtain ⟨a3, rfl, rfl, rfl, w3⟩ := open_int Try.underlying22 (hval 3 22 v3 rfl rfl) h3
  obtain ⟨a4, rfl, rfl, rfl, w4⟩ := open_int Try.underlying22 (hval 4 22 v4 rfl rfl) h4
  obtain ⟨a5, rfl, rfl, rfl, w5⟩ := open_int Try.underlying22 (hval 5 22 v5 rfl rfl) h5
  have l2 : ∀ n ∈ d2.weights Try.prog 23, n ≤ 140737488355328 := fun n hn => Nat.le_trans (by have := List.all_eq_true.1 hsz' n (by simp [DataW.weightsEach, hn]); simpa using this) (show reachBytes ≤ 140737488355328 by decide)
  clear hA0 hval0
  refine (calls3 a0 a1 a3 a4 a5 w0 w1 hv2 h2 l2 w3 w4 w5).mono fun e W' ⟨he, hK⟩ => ?_
  subst he
  have bel : Below W.heap.size W W' := hK.below
  exact ⟨_, rfl, _, _, _, [], _, [], hW', trodAll_mk1 (shut_bool Try.underlying4 _), (trodAll_cons_mk (shut_int Try.underlying22 w0) (trodAll_cons_mk (shut_int Try.underlying3 w1) (trodAll_cons_mk (Below.trod (by kernel_rfl) (by kernel_rfl) (of_decide_eq_true (by kernel_rfl)) h2k bel hlt2) (trodAll_cons_mk (shut_int Try.underlying22 w3) (trodAll_cons_mk (shut_int Try.underlying22 w4) (trodAll_cons_mk (shut_int Try.underlying22 w5) trodAll_mk0)))))), rfl, bel.frame _, fun h => by cases h⟩

theorem flow_plays_holds : Rows.FlowPlaysSaid :=
  OpenClaim.holds_of_wide 3 Try.f3 rfl rfl rfl rfl rfl rfl rfl ⟨rfl, rfl, rfl, rfl, rfl⟩ rfl rfl rfl rfl rfl (by kernel_rfl) Try.func3 (by kernel_rfl)
    (of_decide_eq_true (by kernel_rfl)) (by unfold Func.isWrapper; first | (rw [if_pos (by decide +kernel)]; kernel_rfl) | (rw [if_neg (by decide +kernel)]; exact ⟨rfl, rfl⟩))
    (fun os started H enc _ => plays_lifted os started H enc)
#print axioms flow_plays_holds
end Go.Proofs.Ytkjfecdpakhggaa
