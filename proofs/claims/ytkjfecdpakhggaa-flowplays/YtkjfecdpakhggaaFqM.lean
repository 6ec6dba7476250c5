/-
  flow: the law FlowWindow answers true. No statement is proved here.
-/
import Derived.Test.YtkjfecdpakhggaaFqK
import Derived.Test.YtkjfecdpakhggaaCas
namespace Go.Proofs.Ytkjfecdpakhggaa
open Go.RowKit
set_option linter.unusedVariables false
set_option linter.unusedSimpArgs false
set_option maxRecDepth 100000

theorem t2_lem {c1 c2 c3 c4 fin nz : Bool} {T : Prop} (hnz : nz = true) (H : c1 = true → c2 = true → fin = false → c3 = false ∧ c4 = false) (hT : T) : bif c1 then bif bif true then c2 else false then bif nz then bif c3 then bif bif true then !fin else false then False else T else bif nz then bif bif true then bif false then true else c4 else false then bif bif true then !fin else false then False else T else T else False else False else T else T := by
  subst hnz
  cases c1
  · exact hT
  cases c2
  · exact hT
  cases fin
  · obtain ⟨rfl, rfl⟩ := H rfl rfl rfl
    exact hT
  · cases c3
    · cases c4 <;> exact hT
    · exact hT
theorem bif2 {c x : Bool} {T : Prop} (hx : c = true → x = false) (hT : T) : bif c then bif x then False else T else T := by
  cases c
  · exact hT
  · rw [hx rfl]; exact hT
theorem PQa.win {p : QuP} {q : Qa} (h : PQa p q) : winT p.z p.ed p.sn = ((bif q.ed then 0 else q.win : Nat) : Int) ∧ inI (p.z - ((p.sn : Nat) : Int)) = true := by
  have h1 := h.ok.rl
  have h2 := h.ok.z2
  have h3 := h.z
  have h4 : q.win = q.z - q.rd.length := rfl
  refine ⟨?_, inI_iff.2 (by rw [h.sn]; omega)⟩
  unfold winT
  rw [h.ed, h.sn]
  cases q.ed
  · rw [cond_false, cond_false]; omega
  · rfl
theorem bv_sub0 {a b : BitVec 32} (h : a - b = BitVec.ofInt 32 0) : a = b := by
  have h0 : (a - b).toNat = 0 := by rw [h]; rfl
  rw [BitVec.toNat_sub] at h0
  apply BitVec.eq_of_toNat_eq
  have := a.isLt
  have := b.isLt
  omega
theorem rdN_int (m : Int) (n : Nat) : ((rdN m n : Nat) : Int) = bif ilt (n : Int) (bif ilt m 0 then 0 else m) then (n : Int) else bif ilt m 0 then 0 else m := by
  rw [ilt_eq, ilt_eq]
  unfold rdN
  by_cases g : m < 0
  · have e : (bif decide (m < 0) then (0 : Int) else m) = 0 := by rw [decide_eq_true g]; rfl
    rw [e, decide_eq_false (show ¬ ((n : Nat) : Int) < 0 by omega)]
    show ((min m.toNat n : Nat) : Int) = 0
    omega
  · have e : (bif decide (m < 0) then (0 : Int) else m) = m := by rw [decide_eq_false g]; rfl
    rw [e]
    by_cases g2 : ((n : Nat) : Int) < m
    · rw [decide_eq_true g2]
      show ((min m.toNat n : Nat) : Int) = n
      omega
    · rw [decide_eq_false g2]
      show ((min m.toNat n : Nat) : Int) = m
      omega
def PW (len : Nat) (n : Int) (st : Nat × QuP) : Prop := st.1 ≤ len ∧ ∃ q, PQa st.2 q ∧ ((q.z : Nat) : Int) = n
theorem roundW (pre : List Value) (l : List Sr) (len cap : Nat) (n : Int) (rb : Nat) (p : QuP) (i : Nat) (hl : len ≤ l.length) (h100 : len ≤ 100) (hs : ∀ i, i < len → stW (l.getD i (rz SF)) ≤ 8192) (hp : PW len n (i, p)) : frK 178 (iW pre len cap n i) fun fr => vround Try.prog EvL noL 5 0 fr (mW pre l rb p) (Kp (mH pre l) 0 178 (selW i) (fun st' => PW len n st' ∧ len - st'.1 < len - i) (fun st => iW pre len cap n st.1) (fun st => mW pre l rb st.2) True [] (mH pre l)) := by
  obtain ⟨hi, q, hq, hz⟩ := hp
  replace hi : i ≤ len := hi
  replace hq : PQa p q := hq
  refine of_eq (rW pre l len cap n rb p i _ _) ?_
  rcases bTF (ilt (i : Int) (len : Int)) with hc | hc
  rotate_left
  · exact bifF hc ⟨rfl, trivial, ⟨rfl, rfl⟩, trivial⟩
  have hlt : i < len := by have := of_ilt hc; omega
  have hr : stW (l.getD (i + (pre.length - pre.length) / 5) (rz SF)) ≤ 8192 := hs _ (by omega)
  obtain ⟨hw, hwI⟩ := hq.win
  have hsn := hq.sn
  have hes := hq.len
  have hkp := held_le hq.ok
  have hz2 := hq.ok.z2
  have hwin := hq.ok.win
  refine bifT hc (bif_of (inRn hlt) (bif_of (by rw [rok_s pre (by omega)]; rfl) (bif_of hq.nz (bif_of (by rw [hwI, hq.nz]; rfl) (bif_of hq.nz (bif_of hq.nz ?_))))))
  unfold stW at hr
  generalize (l.getD (i + (pre.length - pre.length) / 5) (rz SF)).snd.snd.snd.snd.fst = m
  generalize (l.getD (i + (pre.length - pre.length) / 5) (rz SF)).snd.snd.snd.fst = reads
  generalize (l.getD (i + (pre.length - pre.length) / 5) (rz SF)).snd.snd.fst = fin
  generalize (l.getD (i + (pre.length - pre.length) / 5) (rz SF)).snd.fst = d at hr ⊢
  generalize (l.getD (i + (pre.length - pre.length) / 5) (rz SF)).fst = sq
  have hI : inI ((i : Int) + 1) = true := inI_iff.2 (by omega)
  cases reads
  rotate_left
  · refine ⟨⟨q, hq⟩, fun q' p' h1 hp' => ?_⟩
    obtain rfl := hq.uniq h1
    refine bifF ?_ (bif_of hp'.nz (bifF (c := bif false then true else ((p'.es.length : Nat) : Int) != ((p.es.length : Nat) : Int)) ?_ (bif_of hp'.nz (bifF (c := bif false then true else p'.a != p.a) ?_ (bif_of hI ⟨⟨⟨hlt, q.read m, hp', hz⟩, by show len - (i + 1) < len - i; omega⟩, rfl, rfl, rfl, rfl, ⟨rfl, rfl⟩, ⟨rfl, rfl⟩, trivial⟩)))))
    · rw [told_len, rdN_int, hsn]; simp
    · show (((p'.es.length : Nat) : Int) != ((p.es.length : Nat) : Int)) = false
      rw [hp'.len, hes, read_held hq.ok]; simp
    · show (p'.a != p.a) = false
      rw [hp'.a, hq.a]
      show (q.a != q.a) = false
      simp
  refine bif_of hq.nz ⟨⟨q, hq⟩, fun q' p' h1 hp' => ?_⟩
  obtain rfl := hq.uniq h1
  have hP := putW hq sq d fin
  have hkp' := held_le hp'.ok
  have hz2' := hp'.ok.z2
  have hsn' := hp'.sn
  have hes' := hp'.len
  have hmoved : q.moved sq d fin = (p'.a - p.a != BitVec.ofInt 32 0) := by
    rw [hp'.a, hq.a]
    unfold Qa.moved
    rw [Bool.eq_iff_iff]
    simp only [bne_iff_ne, ne_eq]
    constructor
    · intro h e
      apply h
      exact bv_sub0 e
    · intro h e
      apply h
      rw [e, BitVec.sub_self]; rfl
  have hgone : (p'.a - p.a).toNat ≤ q.win + 1 := by rw [hp'.a, hq.a]; exact hP.gone
  have hgz : p.ed = true → (p'.a - p.a).toNat = 0 ∧ q.moved sq d fin = false := fun he => by
    have hoff : q.off d = true := by unfold Qa.off; rw [← hq.ed, he]; rfl
    have hpo := Qa.put_off (sq := sq) (fin := fin) hoff
    refine ⟨?_, ?_⟩
    · rw [hp'.a, hq.a, hpo, BitVec.sub_self]; rfl
    · unfold Qa.moved
      rw [hpo]; simp
  refine bif_of hp'.nz (bifF (c := bif true then !(q.moved sq d fin == (p'.a - p.a != BitVec.ofInt 32 0)) else q.moved sq d fin == (p'.a - p.a != BitVec.ofInt 32 0)) (by rw [hmoved]; simp) (bif2 (fun he => (hgz he).2) ?_))
  have hwn : winT p.z p.ed p.sn ≤ 65536 ∧ 0 ≤ winT p.z p.ed p.sn ∧ ((p'.a - p.a).toNat : Int) ≤ winT p.z p.ed p.sn + 1 := by
    rw [hw]
    cases he : q.ed
    · rw [cond_false]; omega
    · have := (hgz (hq.ed.trans he)).1
      rw [cond_true]; omega
  obtain ⟨w1, w2, w3⟩ := hwn
  have hm1 := hP.kept
  have hm2 := hP.more
  have hm3 := hP.rd
  have hm4 := hP.z
  refine bif_of (inI_iff.2 (by omega)) (bifF (c := bif false then true else ilt (winT p.z p.ed p.sn + 1) (((p'.a - p.a).toNat : Nat) : Int)) (by show ilt _ _ = false; rw [ilt_eq]; exact decide_eq_false (by omega)) (bif_of hp'.nz (bif_of hp'.nz (bif_of (inI_iff.2 (by omega)) (bifF (c := bif false then true else ilt n (((p'.sn : Nat) : Int) + ((p'.es.length : Nat) : Int))) (by show ilt _ _ = false; rw [ilt_eq]; exact decide_eq_false (by omega)) (t2_lem hp'.nz (fun h1 h2 h3 => ?_) ?_))))))
  · subst h3
    have g1 : q.ed = false → q.win ≤ (sq - q.a).toNat := fun he => by
      rw [hw, he, cond_false] at h1
      rw [BitVec.ule, decide_eq_true_eq, hq.a, ofI] at h1
      simp only [BitVec.toNat_ofNat] at h1
      omega
    have g2 : d.length ≤ (q.a - sq).toNat := by
      rw [BitVec.ule, decide_eq_true_eq, hq.a, ofI] at h2
      simp only [BitVec.toNat_ofNat] at h2
      omega
    obtain ⟨o1, o2⟩ := put_out hq.ok sq d g1 g2
    refine ⟨?_, ?_⟩
    · rw [hes', hes, o1]; simp
    · rw [hsn', hsn, o2]; simp
  · refine bif_of hp'.nz (bif_of hp'.nz (bif_of (inI_iff.2 (by omega)) (bif_of (inI_iff.2 (by omega)) (bif_of (inI_iff.2 (by omega)) (bifF (by rw [ilt_eq]; exact decide_eq_false (by omega)) (bif_of hp'.nz (bifF (c := bif false then true else ilt ((p'.sn : Nat) : Int) ((p.sn : Nat) : Int)) (by show ilt _ _ = false; rw [ilt_eq]; exact decide_eq_false (by omega)) (bif_of hI ⟨⟨⟨hlt, q.put sq d fin, hp', by rw [hm4]; exact hz⟩, by show len - (i + 1) < len - i; omega⟩, rfl, rfl, rfl, rfl, ⟨rfl, rfl⟩, ⟨rfl, rfl⟩, trivial⟩))))))))
theorem loopW (pre : List Value) (l : List Sr) (len cap : Nat) (w : BitVec 16) (a : BitVec 32) (hl : len ≤ l.length) (h100 : len ≤ 100) (hs : ∀ i, i < len → stW (l.getD i (rz SF)) ≤ 8192) : LOk Try.prog G (mH pre l) 5 (LW pre l len cap (nW w) a) := by
  refine LT.add_ok (noL_ok _ _ _ _) fun fr M K h => ?_
  split at h
  · rename_i rb p hm
    obtain ⟨hp, h⟩ := h
    obtain ⟨hle, hK⟩ := vLe_ok h
    have hnw : ((nW w).toNat : Int) = nW w := by
      unfold nW
      have : 0 ≤ ((w.toNat : Nat) : Int).tmod 1000 := Int.tmod_nonneg _ (by omega)
      omega
    refine loop_pick evl_ok mixed (Nat.zero_le _) (by kernel_rfl) (fun st : Nat × QuP => iW pre len cap (nW w) st.1) (fun st => mW pre l rb st.2) (PW len (nW w)) (fun st => len - st.1) (fun st => selW st.1) (fun _ => True) (fun _ => []) (fun _ => mH pre l) (0, p) ⟨Nat.zero_le _, _, hp, hnw⟩ (fun _ => noL) (fun _ _ => noL_ok _ _ _ _) (fun st hp => roundW pre l len cap (nW w) rb st.2 st.1 hl h100 hs hp) hle (fun st hp hq => ?_)
    rw [frK_eq] at hK
    exact hK
  · exact h.elim
theorem and_t {a b : Bool} (ha : a = true) (hb : b = true) : (a && b) = true := by rw [ha, hb]; rfl
theorem ble_of {a b : Nat} (h : a ≤ b) : Nat.ble a b = true := by rw [Nat.ble_eq]; exact h
theorem law5_ok (pre : List Value) (l : List Sr) (len cap : Nat) (a : BitVec 32) (w : BitVec 16) (hl : len ≤ l.length) (hb : len ≤ 140737488355328) (ho : okS l = true) : Spec Try.prog G 5 [.w32 a, .w16 w, .rs 0 pre.length 0 5 len cap] (mH pre l) (fun r _ => r = .b true) := by
  have a0 : (pre.length.beq pre.length && (len.ble l.length && (len.ble 140737488355328 && okS l))) = true := and_t (Nat.beq_refl _) (and_t (ble_of hl) (and_t (ble_of hb) ho))
  have hw := w.isLt
  have h1 : ((w.toNat : Nat) : Int).tmod 1000 = ((w.toNat % 1000 : Nat) : Int) := by
    rw [Int.tmod_eq_emod_of_nonneg (by omega)]; omega
  rcases bTF (hvB l len) with hv | hv
  · exact vf_ok evl_ok mixed (noL_ok _ _ _ _) (of_eq (vWh pre l len cap a w _) (bif_of a0 (bifT hv rfl)))
  obtain ⟨g1, g2⟩ := hv_no hv
  refine vf_ok evl_ok mixed (loopW pre l len cap w a hl g1 g2) (of_eq (vW pre l len cap a w _) (bif_of a0 (bifF hv (bif_of (inI_iff.2 (by rw [h1]; omega)) (bifF (by rw [h1, ilt_eq]; exact decide_eq_false (by omega)) fun rb p hp => ⟨rfl, hp, rfl, rfl, rfl, rfl, ⟨rfl, rfl⟩, ⟨rfl, rfl⟩, rfl⟩)))))
end Go.Proofs.Ytkjfecdpakhggaa
