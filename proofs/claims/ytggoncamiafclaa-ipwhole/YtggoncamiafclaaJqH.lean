/-
  ip: the law IpWhole: a piece is taken, and what it makes. No statement is proved here.
-/
import Derived.Test.YtggoncamiafclaaJqG
namespace Go.Proofs.Ytggoncamiafclaa
open Go.RowKit
set_option linter.unusedVariables false
set_option linter.unusedSimpArgs false
set_option maxRecDepth 100000
theorem isPc_no {mo : Bool} {o : BitVec 16} (h : isPc mo o = false) : mo = false ∧ o = BitVec.ofInt 16 0 := by
 unfold isPc at h
 cases mo
 ·exact ⟨rfl, by simpa using h⟩
 ·cases h
structure P6w (d : Dt) (F : Nat → List Cz) (nO : Nat) (st : S6w) : Prop where
 okl : okPl st.lf
 pos : ∀ len cap l, st.lf = some (len, cap, l) → len ≠ 0
 okt : okPl st.td
 run : ∃ (T : List Nat) (K : Nat), st.k = (K : Nat) ∧ J d F K (acP st.lf) T (stO st.s.mb st.s.clk st.s.es st.s.gs) ∧ acP st.td = T.map (tR d) ∧ (acP st.lf).length ≤ 68 ∧ (K ≤ nO ∨ K + (acP st.lf).length ≤ nO + 68)
def Nx6 (d : Dt) (F : Nat → List Cz) (nO : Nat) (k : Int) (st : S6w) : Prop := P6w d F nO st ∧ 400 - st.k.toNat < 400 - k.toNat
theorem p6_next {d : Dt} {F : Nat → List Cz} {nO K : Nat} {lf' td' : Option Pl} {T' : List Nat} {s' : Sv} {k : Int} (hk : k = (K : Nat)) (h300 : nO ≤ 300) (okl : okPl lf') (pos : ∀ len cap l, lf' = some (len, cap, l) → len ≠ 0) (okt : okPl td') (hJ : J d F (K + 1) (acP lf') T' (stO s'.mb s'.clk s'.es s'.gs)) (hT : acP td' = T'.map (tR d)) (h68 : (acP lf').length ≤ 68) (hK : K + 1 ≤ nO ∨ K + 1 + (acP lf').length ≤ nO + 68) (hK' : K ≤ 368) : Nx6 d F nO k ⟨s', lf', td', k + 1⟩ := by
 subst hk
 refine ⟨⟨okl, pos, okt, T', K + 1, rfl, hJ, hT, h68, hK⟩, ?_⟩
 show 400 - (((K : Nat) : Int) + 1).toNat < 400 - ((K : Nat) : Int).toNat
 omega
theorem nw6_le {k : Int} (h : 0 ≤ k) : (nw6 k).toNat ≤ 49 := by
 unfold nw6
 rw [BitVec.toNat_ofInt, Int.tmod_eq_emod_of_nonneg h]
 omega
theorem map_fit {d : Dt} {T : List Nat} {td' : Option Pl} {l : List Pr} {j : Nat} {r : Pr} (hT : l = T.map (tR d)) (h : acP td' = l ++ [r]) (hr : r = tR d j) : acP td' = (T ++ [j]).map (tR d) := by
 rw [h, hT, hr, List.map_append]; rfl
theorem take6 {d : Dt} {F : Nat → List Cz} {nO : Nat} (hC : Cuts d F) (h300 : nO ≤ 300) {s : Sv} {n cap : Nat} {lf : List Pr} {td : Option Pl} {k : Int} (hp : P6w d F nO ⟨s, some (n, cap, lf), td, k⟩) {I : Nat} (hI : I < n) {tw : Bool} (hb : k < (nO : Nat) ∨ tw = false) :
  OkS (stO s.mb s.clk s.es s.gs) ∧ (gR lf I).2.2.2.2.2.2.2.2.1.length ≤ 8192 ∧ ∀ gs', OkS (stO s.mb s.clk (fE (nw6 k) s.es) gs') →
   (∀ e : SetE, e ∈ fE (nw6 k) s.es → e.len ≤ 33554430) ∧
   (∀ (s' : St) (z : Int), GErr 32 (BitVec.ofInt 64 100) (nw6 k) (nmR (gR lf I)) (8 * (((gR lf I).2.2.2.2.2.2.2.1.toNat : Nat) : Int)) (gR lf I).2.2.2.2.2.2.2.2.1 (gR lf I).2.2.2.2.2.2.1 (gR lf I).2.2.2.1 (stO s.mb s.clk (fE (nw6 k) s.es) gs') s' z → z = 0 ∧ ∀ lf', okPl lf' → (∀ len cap l, lf' = some (len, cap, l) → len ≠ 0) → acP lf' = kpL lf (I : Nat) tw false zR n → Nx6 d F nO k ⟨svO s', lf', td, k + 1⟩) ∧
   (∀ (s' : St) (ps : List Pc), GMade 32 (BitVec.ofInt 64 100) (nw6 k) (nmR (gR lf I)) (8 * (((gR lf I).2.2.2.2.2.2.2.1.toNat : Nat) : Int)) (gR lf I).2.2.2.2.2.2.2.2.1 (gR lf I).2.2.2.2.2.2.1 (gR lf I).2.2.2.1 (stO s.mb s.clk (fE (nw6 k) s.es) gs') s' ps → ∀ td', okPl td' → acP td' = acP td ++ [mdR (gR lf I) ps] → ∀ lf', okPl lf' → (∀ len cap l, lf' = some (len, cap, l) → len ≠ 0) → acP lf' = kpL lf (I : Nat) tw true (mdR (gR lf I) ps) n → Nx6 d F nO k ⟨svO s', lf', td', k + 1⟩) ∧
   (isPc (gR lf I).2.2.2.2.2.2.1 (gR lf I).2.2.2.2.2.2.2.1 = false → ∀ td', okPl td' → acP td' = acP td ++ [gR lf I] → ∀ lf', okPl lf' → (∀ len cap l, lf' = some (len, cap, l) → len ≠ 0) → acP lf' = kpL lf (I : Nat) tw true (gR lf I) n → Nx6 d F nO k ⟨⟨s.mb, s.clk, fE (nw6 k) s.es, gs'⟩, lf', td', k + 1⟩) := by
 obtain ⟨okl, pos, okt, T, K, hk, hJ, hT, h68, hK⟩ := hp
 have okl : n ≤ cap ∧ lf.length = cap := okl
 have hk : k = (K : Nat) := hk
 have hJ : J d F K (lf.take n) T (stO s.mb s.clk s.es s.gs) := hJ
 have hT : acP td = T.map (tR d) := hT
 have hnl : n ≤ lf.length := by omega
 have hlen : (lf.take n).length = n := by rw [List.length_take]; omega
 have h68 : (lf.take n).length ≤ 68 := h68
 have hK : K ≤ nO ∨ K + (lf.take n).length ≤ nO + 68 := hK
 rw [hlen] at h68 hK
 have hn49 := nw6_le (k := k) (by omega)
 obtain ⟨j, hj, hjT, c, hc, hR⟩ := hJ.left _ (gR_mem hnl hI)
 have hcl : (gR lf I).2.2.2.2.2.2.2.2.1.length ≤ 8192 := by
  rw [hR]
  have := (hC.ok hj hc).2
  show c.2.1.length ≤ 8192
  omega
 refine ⟨hJ.ok, hcl, fun gs' hg => ?_⟩
 have hfe : fE (nw6 k) s.es = s.es := fE_all hJ hn49
 have hJ2 : J d F K (lf.take n) T (stO s.mb s.clk (fE (nw6 k) s.es) gs') := hJ.same hfe hg
 have hidI : idR (gR lf I) = BitVec.ofInt 16 (j : Nat) := by rw [hR]; rfl
 have hbl : ∀ (is : Bool) (r : Pv), (is = true → r.2.2.2.2.1 = BitVec.ofInt 16 (j : Nat)) → (kpL lf (I : Nat) tw is r n).length ≤ 68 ∧ (K + 1 ≤ nO ∨ K + 1 + (kpL lf (I : Nat) tw is r n).length ≤ nO + 68) := fun is r hr => by
  have h1 := kpL_len lf (I : Nat) tw is r n
  have key : K < nO ∨ (kpL lf (I : Nat) tw is r n).length < n := by
   rcases hb with q | q
   ·left; omega
   ·right
    refine kpL_lt (b0 := I) ?_ hI
    cases is
    ·show (bif ((I : Nat) : Int) != (I : Nat) then true else tw) = false
     rw [bne_self_eq_false, q]; rfl
    ·show ((gR lf I).2.2.2.2.1 != r.2.2.2.2.1) = false
     rw [hr rfl]
     show (idR (gR lf I) != _) = false
     rw [hidI]; exact bne_self_eq_false _
  omega
 have hpl := place_mk hC hj hc
 refine ⟨fun e he => ?_, fun s' z hE => ?_, fun s' ps hE td' ot et lf' ol pl el => ?_, fun hpc td' ot et lf' ol pl el => ?_⟩
 ·obtain ⟨i, -, -, -, -, -, -, -, -, -, -, q⟩ := hJ2.sets e he
  omega
 ·rw [hR] at hE
  have hE' : GErr 32 (BitVec.ofInt 64 100) (nw6 k) (nmI j) (c.1 : Int) c.2.1 c.2.2 (BitVec.ofInt 8 5) (stO s.mb s.clk (fE (nw6 k) s.es) gs') s' z := by rw [← hpl]; exact hE
  refine ⟨(j_err (lf' := []) hJ2 hC hj hjT hc hn49 hE').1, fun lf' ol pl el => ?_⟩
  obtain ⟨k1, k2⟩ := keep_no (i0 := I) (tw := tw) (r := zR) hnl
  have hJ3 := (j_err (lf' := acP lf') hJ2 hC hj hjT hc hn49 hE').2 ⟨by rw [el]; exact k1, by rw [el, ← hR]; exact k2⟩
  obtain ⟨b1, b2⟩ := hbl false zR (fun q => by cases q)
  rw [← el] at b1 b2
  refine p6_next hk h300 ol pl okt ?_ hT b1 b2 (by omega)
  show J d F (K + 1) (acP lf') T (stO s'.mb s'.clk s'.es s'.gs)
  rw [st_eta hJ3.ok]; exact hJ3
 ·rw [hR] at hE
  have hE' : GMade 32 (BitVec.ofInt 64 100) (nw6 k) (nmI j) (c.1 : Int) c.2.1 c.2.2 (BitVec.ofInt 8 5) (stO s.mb s.clk (fE (nw6 k) s.es) gs') s' ps := by rw [← hpl]; exact hE
  obtain ⟨k1, k2⟩ := keep_is (i0 := (I : Nat)) (tw := tw) (r := mdR (gR lf I) ps) hnl
  have eid : (mdR (gR lf I) ps).2.2.2.2.1 = BitVec.ofInt 16 (j : Nat) := hidI
  rw [eid] at k1 k2
  obtain ⟨w1, w2, hJ3⟩ := j_made (lf' := acP lf') hJ2 hC hj hjT hc hn49 hE' (by rw [el]; exact k1) (by rw [el]; exact k2)
  obtain ⟨b1, b2⟩ := hbl true (mdR (gR lf I) ps) (fun _ => eid)
  rw [← el] at b1 b2
  refine p6_next (T' := T ++ [j]) hk h300 ol pl ot ?_ (map_fit (j := j) hT et ?_) b1 b2 (by omega)
  ·show J d F (K + 1) (acP lf') (T ++ [j]) (stO s'.mb s'.clk s'.es s'.gs)
   rw [st_eta hJ3.ok]; exact hJ3
  ·rw [hR]
   show (_, _, _, (pAt ps 0).2.2.2.1, _, false, false, 0, datW ps ps.length, ()) = _
   rw [w1, w2]; rfl
 ·obtain ⟨m1, m2⟩ := isPc_no hpc
  rw [hR] at m1 m2
  obtain ⟨k1, k2⟩ := keep_is (i0 := (I : Nat)) (tw := tw) (r := gR lf I) hnl
  have eid : (gR lf I).2.2.2.2.1 = BitVec.ofInt 16 (j : Nat) := hidI
  rw [eid] at k1 k2
  obtain ⟨w1, hJ3⟩ := j_plain (lf' := acP lf') (s' := stO s.mb s.clk (fE (nw6 k) s.es) gs') hJ2 hC hj hjT hc m1 m2 hg rfl (by rw [el]; exact k1) (by rw [el]; exact k2)
  obtain ⟨b1, b2⟩ := hbl true (gR lf I) (fun _ => eid)
  rw [← el] at b1 b2
  exact p6_next hk h300 ol pl ot hJ3 (map_fit hT et (hR.trans w1)) b1 b2 (by omega)
theorem P6w.bound {d : Dt} {F : Nat → List Cz} {nO : Nat} {st : S6w} (h : P6w d F nO st) (hC : Cuts d F) (h300 : nO ≤ 300) : 0 ≤ st.k ∧ st.k ≤ 368 ∧ (acP st.td).length ≤ 8 := by
 obtain ⟨-, -, -, T, K, hk, hJ, hT, -, hK⟩ := h
 have h8 := hC.H.n8
 have := nodup_lt d.n T hJ.tn (fun x hx => (hJ.tt x hx).1)
 rw [hT, List.length_map]
 omega
theorem round6zn (xd xc : SV) (aO : Option Addr) (kO : Nat) (eD eC : Ent) (s : Sv) (n cap : Nat) (lf : List Pr) (k : Int) {d : Dt} {F : Nat → List Cz} (hC : Cuts d F) (Od : Opq xd eD) (Oc : Opq xc eC) (hp : P6w d F 0 ⟨s, some (n, cap, lf), none, k⟩) :
  frK 274 (i6 xd (.v (.slice aO 0 kO)) ⟨s, some (n, cap, lf), none, k⟩) fun fr => vround Try.prog E6w (L8 eD eC zE xd (.v (.slice aO 0 kO))) 6 6 fr (m6 eD eC zE ⟨s, some (n, cap, lf), none, k⟩) (Kp (mB eD eC zE) 6 274 sel6 (Nx6 d F 0 k) (i6 xd (.v (.slice aO 0 kO))) (m6 eD eC zE) False [] (mB eD eC zE)) := by
 refine of_eq (r6zn xd aO kO eD eC s n cap lf k _ _) ?_
 have h300 : 0 ≤ 300 := Nat.zero_le _
 obtain ⟨k0, k368, ht8⟩ := hp.bound hC h300
 have k0 : 0 ≤ k := k0
 have k368 : k ≤ 368 := k368
 have okl : n ≤ cap ∧ lf.length = cap := hp.okl
 have hn0 : n ≠ 0 := hp.pos _ _ _ rfl
 have h68 : (lf.take n).length ≤ 68 := by obtain ⟨-, -, -, T, K, -, -, -, q, -⟩ := hp; exact q
 rw [List.length_take, Nat.min_eq_left (by omega)] at h68
 have t0 : ilt 0 (n : Int) = true := ilt_of (by omega)
 have hul : (BitVec.ofInt 64 4611686018427387904).ule (nw6 k) = false := by
  have e : (BitVec.ofInt 64 4611686018427387904).toNat = 4611686018427387904 := by decide
  have := nw6_le k0
  rw [BitVec.ule, decide_eq_false_iff_not]; omega
 refine bif_t t0 (bif_f (ilt_no (by omega)) ?_)
 obtain ⟨hok, hdl, htk⟩ := take6 hC h300 hp (I := 0) (by omega) (tw := false) (.inr rfl)
 refine bif_of (inR_iff.2 ⟨by omega, by omega⟩) (bif_of (and_t (rokP (by omega)) rfl) (bif_f hul ⟨hok, fun gs' hg => ?_⟩))
 obtain ⟨hel, hE, hM, hP⟩ := htk gs' hg
 cases hpc : isPc (gR lf 0).2.2.2.2.2.2.1 (gR lf 0).2.2.2.2.2.2.2.1
 ·refine bif_f rfl (bif_of (ble_of (by omega)) (fun cap' rest hr => ?_))
  obtain ⟨k1, k2⟩ := first_pl _ rest cap' hr
  exact ⟨rfl, trivial, eqA_of (Od.r _).symm (Od.wn (Nat.le_add_left 3 5)) ⟨rfl, rfl, rfl, rfl, rfl, rfl, rfl, rfl, rfl, rfl, rfl, ⟨rfl, (Od.rc _).symm⟩, bif_of (Od.ww _ _) ⟨⟨rfl, (Oc.rc _).symm⟩, bif_of (Oc.ww _ _) ⟨⟨rfl, rfl⟩, ⟨rfl, rfl⟩, ⟨rfl, rfl⟩, ⟨rfl, rfl⟩, ⟨rfl, rfl⟩, ⟨rfl, rfl⟩, ⟨by omega, by omega⟩, fun hnil => bif_f (ilt_no (by omega)) (bif_of (inI_iff.2 (by omega)) ⟨hP hpc _ k1 k2 none trivial (fun _ _ _ e => by cases e) hnil.symm, eqA_of (Od.r _).symm (Od.wn (Nat.le_add_left 3 3)) ⟨rfl, rfl, rfl, rfl, rfl, ⟨rfl, (Od.rc _).symm⟩, bif_of (Od.ww _ _) ⟨⟨rfl, (Oc.rc _).symm⟩, bif_of (Oc.ww _ _) ⟨⟨rfl, rfl⟩, ⟨rfl, rfl⟩, ⟨rfl, rfl⟩, ⟨rfl, rfl⟩, trivial⟩⟩⟩⟩), fun len' cap'' l' ho hq0 hl => bif_f (ilt_no (by omega)) (bif_of (inI_iff.2 (by omega)) ⟨hP hpc _ k1 k2 (some (len', cap'', l')) ho (fun _ _ _ e => by cases e; exact hq0) hl, eqA_of (Od.r _).symm (Od.wn (Nat.le_add_left 3 4)) ⟨rfl, rfl, rfl, rfl, rfl, ⟨rfl, (Od.rc _).symm⟩, bif_of (Od.ww _ _) ⟨⟨rfl, (Oc.rc _).symm⟩, bif_of (Oc.ww _ _) ⟨⟨rfl, rfl⟩, ⟨rfl, rfl⟩, ⟨rfl, rfl⟩, ⟨rfl, rfl⟩, ⟨rfl, rfl⟩, trivial⟩⟩⟩⟩)⟩⟩⟩⟩
 ·refine bif_t rfl ⟨⟨hg, Nat.le_trans hdl (by decide), hel⟩, fun s' z hz => ?_, fun s' ps hz => ?_⟩
  ·obtain ⟨hz0, hEl⟩ := hE s' z hz
   subst hz0
   refine bif_f rfl ?_
   exact ⟨rfl, trivial, eqA_of (Od.r _).symm (Od.wn (Nat.le_add_left 3 4)) ⟨rfl, rfl, rfl, rfl, rfl, rfl, rfl, rfl, rfl, rfl, rfl, ⟨rfl, (Od.rc _).symm⟩, bif_of (Od.ww _ _) ⟨⟨rfl, (Oc.rc _).symm⟩, bif_of (Oc.ww _ _) ⟨⟨rfl, rfl⟩, ⟨rfl, rfl⟩, ⟨rfl, rfl⟩, ⟨rfl, rfl⟩, ⟨rfl, rfl⟩, ⟨by omega, by omega⟩, fun hnil => bif_f (ilt_no (by omega)) (bif_of (inI_iff.2 (by omega)) ⟨hEl none trivial (fun _ _ _ e => by cases e) hnil.symm, eqA_of (Od.r _).symm (Od.wn (Nat.le_add_left 3 2)) ⟨rfl, rfl, rfl, rfl, rfl, ⟨rfl, (Od.rc _).symm⟩, bif_of (Od.ww _ _) ⟨⟨rfl, (Oc.rc _).symm⟩, bif_of (Oc.ww _ _) ⟨⟨rfl, rfl⟩, ⟨rfl, rfl⟩, ⟨rfl, rfl⟩, trivial⟩⟩⟩⟩), fun len' cap'' l' ho hq0 hl => bif_f (ilt_no (by omega)) (bif_of (inI_iff.2 (by omega)) ⟨hEl (some (len', cap'', l')) ho (fun _ _ _ e => by cases e; exact hq0) hl, eqA_of (Od.r _).symm (Od.wn (Nat.le_add_left 3 3)) ⟨rfl, rfl, rfl, rfl, rfl, ⟨rfl, (Od.rc _).symm⟩, bif_of (Od.ww _ _) ⟨⟨rfl, (Oc.rc _).symm⟩, bif_of (Oc.ww _ _) ⟨⟨rfl, rfl⟩, ⟨rfl, rfl⟩, ⟨rfl, rfl⟩, ⟨rfl, rfl⟩, trivial⟩⟩⟩⟩)⟩⟩⟩⟩
  ·refine fun cap' rest hr => ?_
   obtain ⟨k1, k2⟩ := first_pl _ rest cap' hr
   exact ⟨rfl, trivial, eqA_of (Od.r _).symm (Od.wn (Nat.le_add_left 3 5)) ⟨rfl, rfl, rfl, rfl, rfl, rfl, rfl, rfl, rfl, rfl, rfl, ⟨rfl, (Od.rc _).symm⟩, bif_of (Od.ww _ _) ⟨⟨rfl, (Oc.rc _).symm⟩, bif_of (Oc.ww _ _) ⟨⟨rfl, rfl⟩, ⟨rfl, rfl⟩, ⟨rfl, rfl⟩, ⟨rfl, rfl⟩, ⟨rfl, rfl⟩, ⟨rfl, rfl⟩, ⟨by omega, by omega⟩, fun hnil => bif_f (ilt_no (by omega)) (bif_of (inI_iff.2 (by omega)) ⟨hM s' ps hz _ k1 k2 none trivial (fun _ _ _ e => by cases e) hnil.symm, eqA_of (Od.r _).symm (Od.wn (Nat.le_add_left 3 3)) ⟨rfl, rfl, rfl, rfl, rfl, ⟨rfl, (Od.rc _).symm⟩, bif_of (Od.ww _ _) ⟨⟨rfl, (Oc.rc _).symm⟩, bif_of (Oc.ww _ _) ⟨⟨rfl, rfl⟩, ⟨rfl, rfl⟩, ⟨rfl, rfl⟩, ⟨rfl, rfl⟩, trivial⟩⟩⟩⟩), fun len' cap'' l' ho hq0 hl => bif_f (ilt_no (by omega)) (bif_of (inI_iff.2 (by omega)) ⟨hM s' ps hz _ k1 k2 (some (len', cap'', l')) ho (fun _ _ _ e => by cases e; exact hq0) hl, eqA_of (Od.r _).symm (Od.wn (Nat.le_add_left 3 4)) ⟨rfl, rfl, rfl, rfl, rfl, ⟨rfl, (Od.rc _).symm⟩, bif_of (Od.ww _ _) ⟨⟨rfl, (Oc.rc _).symm⟩, bif_of (Oc.ww _ _) ⟨⟨rfl, rfl⟩, ⟨rfl, rfl⟩, ⟨rfl, rfl⟩, ⟨rfl, rfl⟩, ⟨rfl, rfl⟩, trivial⟩⟩⟩⟩)⟩⟩⟩⟩
theorem round6zs (xd xc : SV) (aO : Option Addr) (kO : Nat) (eD eC : Ent) (s : Sv) (n cap : Nat) (lf : List Pr) (len1 cap1 : Nat) (l1 : List Pr) (k : Int) {d : Dt} {F : Nat → List Cz} (hC : Cuts d F) (Od : Opq xd eD) (Oc : Opq xc eC) (hp : P6w d F 0 ⟨s, some (n, cap, lf), (some (len1, cap1, l1)), k⟩) :
  frK 274 (i6 xd (.v (.slice aO 0 kO)) ⟨s, some (n, cap, lf), (some (len1, cap1, l1)), k⟩) fun fr => vround Try.prog E6w (L8 eD eC zE xd (.v (.slice aO 0 kO))) 6 6 fr (m6 eD eC zE ⟨s, some (n, cap, lf), (some (len1, cap1, l1)), k⟩) (Kp (mB eD eC zE) 6 274 sel6 (Nx6 d F 0 k) (i6 xd (.v (.slice aO 0 kO))) (m6 eD eC zE) False [] (mB eD eC zE)) := by
 refine of_eq (r6zs xd aO kO eD eC s n cap lf len1 cap1 l1 k _ _) ?_
 have h300 : 0 ≤ 300 := Nat.zero_le _
 obtain ⟨k0, k368, ht8⟩ := hp.bound hC h300
 have k0 : 0 ≤ k := k0
 have k368 : k ≤ 368 := k368
 have okl : n ≤ cap ∧ lf.length = cap := hp.okl
 have hn0 : n ≠ 0 := hp.pos _ _ _ rfl
 have h68 : (lf.take n).length ≤ 68 := by obtain ⟨-, -, -, T, K, -, -, -, q, -⟩ := hp; exact q
 rw [List.length_take, Nat.min_eq_left (by omega)] at h68
 have t0 : ilt 0 (n : Int) = true := ilt_of (by omega)
 have hul : (BitVec.ofInt 64 4611686018427387904).ule (nw6 k) = false := by
  have e : (BitVec.ofInt 64 4611686018427387904).toNat = 4611686018427387904 := by decide
  have := nw6_le k0
  rw [BitVec.ule, decide_eq_false_iff_not]; omega
 have okt : len1 ≤ cap1 ∧ l1.length = cap1 := hp.okt
 have hsm : ∀ r : Pr, len1 + (one r).length ≤ 33554432 := fun r => by
  have e1 : (one r).length = 1 := rfl
  have e2 : (l1.take len1).length = len1 := by rw [List.length_take]; omega
  have ht8 : (l1.take len1).length ≤ 8 := ht8
  omega
 refine bif_t t0 (bif_f (ilt_no (by omega)) ?_)
 obtain ⟨hok, hdl, htk⟩ := take6 hC h300 hp (I := 0) (by omega) (tw := false) (.inr rfl)
 refine bif_of (inR_iff.2 ⟨by omega, by omega⟩) (bif_of (and_t (rokP (by omega)) rfl) (bif_f hul ⟨hok, fun gs' hg => ?_⟩))
 obtain ⟨hel, hE, hM, hP⟩ := htk gs' hg
 cases hpc : isPc (gR lf 0).2.2.2.2.2.2.1 (gR lf 0).2.2.2.2.2.2.2.1
 ·refine bif_f rfl (bif_of (ble_of (by omega)) (bif_of (and_t (ble_of okt.1) (and_t (by rw [okt.2]; exact Nat.beq_refl _) (and_t (ble_of (hsm _)) rfl))) (fun cap' rest hr => ?_)))
  obtain ⟨k1, k2⟩ := snoc_pl l1 len1 _ rest cap' (by omega) hr
  exact ⟨rfl, trivial, eqA_of (Od.r _).symm (Od.wn (Nat.le_add_left 3 5)) ⟨rfl, rfl, rfl, rfl, rfl, rfl, rfl, rfl, rfl, rfl, rfl, ⟨rfl, (Od.rc _).symm⟩, bif_of (Od.ww _ _) ⟨⟨rfl, (Oc.rc _).symm⟩, bif_of (Oc.ww _ _) ⟨⟨rfl, rfl⟩, ⟨rfl, rfl⟩, ⟨rfl, rfl⟩, ⟨rfl, rfl⟩, ⟨rfl, rfl⟩, ⟨rfl, rfl⟩, ⟨by omega, by omega⟩, fun hnil => bif_f (ilt_no (by omega)) (bif_of (inI_iff.2 (by omega)) ⟨hP hpc _ k1 k2 none trivial (fun _ _ _ e => by cases e) hnil.symm, eqA_of (Od.r _).symm (Od.wn (Nat.le_add_left 3 3)) ⟨rfl, rfl, rfl, rfl, rfl, ⟨rfl, (Od.rc _).symm⟩, bif_of (Od.ww _ _) ⟨⟨rfl, (Oc.rc _).symm⟩, bif_of (Oc.ww _ _) ⟨⟨rfl, rfl⟩, ⟨rfl, rfl⟩, ⟨rfl, rfl⟩, ⟨rfl, rfl⟩, trivial⟩⟩⟩⟩), fun len' cap'' l' ho hq0 hl => bif_f (ilt_no (by omega)) (bif_of (inI_iff.2 (by omega)) ⟨hP hpc _ k1 k2 (some (len', cap'', l')) ho (fun _ _ _ e => by cases e; exact hq0) hl, eqA_of (Od.r _).symm (Od.wn (Nat.le_add_left 3 4)) ⟨rfl, rfl, rfl, rfl, rfl, ⟨rfl, (Od.rc _).symm⟩, bif_of (Od.ww _ _) ⟨⟨rfl, (Oc.rc _).symm⟩, bif_of (Oc.ww _ _) ⟨⟨rfl, rfl⟩, ⟨rfl, rfl⟩, ⟨rfl, rfl⟩, ⟨rfl, rfl⟩, ⟨rfl, rfl⟩, trivial⟩⟩⟩⟩)⟩⟩⟩⟩
 ·refine bif_t rfl ⟨⟨hg, Nat.le_trans hdl (by decide), hel⟩, fun s' z hz => ?_, fun s' ps hz => ?_⟩
  ·obtain ⟨hz0, hEl⟩ := hE s' z hz
   subst hz0
   refine bif_f rfl ?_
   exact ⟨rfl, trivial, eqA_of (Od.r _).symm (Od.wn (Nat.le_add_left 3 5)) ⟨rfl, rfl, rfl, rfl, rfl, rfl, rfl, rfl, rfl, rfl, rfl, ⟨rfl, (Od.rc _).symm⟩, bif_of (Od.ww _ _) ⟨⟨rfl, (Oc.rc _).symm⟩, bif_of (Oc.ww _ _) ⟨⟨rfl, rfl⟩, ⟨rfl, rfl⟩, ⟨rfl, rfl⟩, ⟨rfl, rfl⟩, ⟨rfl, rfl⟩, ⟨rfl, rfl⟩, ⟨by omega, by omega⟩, fun hnil => bif_f (ilt_no (by omega)) (bif_of (inI_iff.2 (by omega)) ⟨hEl none trivial (fun _ _ _ e => by cases e) hnil.symm, eqA_of (Od.r _).symm (Od.wn (Nat.le_add_left 3 3)) ⟨rfl, rfl, rfl, rfl, rfl, ⟨rfl, (Od.rc _).symm⟩, bif_of (Od.ww _ _) ⟨⟨rfl, (Oc.rc _).symm⟩, bif_of (Oc.ww _ _) ⟨⟨rfl, rfl⟩, ⟨rfl, rfl⟩, ⟨rfl, rfl⟩, ⟨rfl, rfl⟩, trivial⟩⟩⟩⟩), fun len' cap'' l' ho hq0 hl => bif_f (ilt_no (by omega)) (bif_of (inI_iff.2 (by omega)) ⟨hEl (some (len', cap'', l')) ho (fun _ _ _ e => by cases e; exact hq0) hl, eqA_of (Od.r _).symm (Od.wn (Nat.le_add_left 3 4)) ⟨rfl, rfl, rfl, rfl, rfl, ⟨rfl, (Od.rc _).symm⟩, bif_of (Od.ww _ _) ⟨⟨rfl, (Oc.rc _).symm⟩, bif_of (Oc.ww _ _) ⟨⟨rfl, rfl⟩, ⟨rfl, rfl⟩, ⟨rfl, rfl⟩, ⟨rfl, rfl⟩, ⟨rfl, rfl⟩, trivial⟩⟩⟩⟩)⟩⟩⟩⟩
  ·refine bif_of (and_t (ble_of okt.1) (and_t (by rw [okt.2]; exact Nat.beq_refl _) (and_t (ble_of (hsm _)) rfl))) (fun cap' rest hr => ?_)
   obtain ⟨k1, k2⟩ := snoc_pl l1 len1 _ rest cap' (by omega) hr
   exact ⟨rfl, trivial, eqA_of (Od.r _).symm (Od.wn (Nat.le_add_left 3 5)) ⟨rfl, rfl, rfl, rfl, rfl, rfl, rfl, rfl, rfl, rfl, rfl, ⟨rfl, (Od.rc _).symm⟩, bif_of (Od.ww _ _) ⟨⟨rfl, (Oc.rc _).symm⟩, bif_of (Oc.ww _ _) ⟨⟨rfl, rfl⟩, ⟨rfl, rfl⟩, ⟨rfl, rfl⟩, ⟨rfl, rfl⟩, ⟨rfl, rfl⟩, ⟨rfl, rfl⟩, ⟨by omega, by omega⟩, fun hnil => bif_f (ilt_no (by omega)) (bif_of (inI_iff.2 (by omega)) ⟨hM s' ps hz _ k1 k2 none trivial (fun _ _ _ e => by cases e) hnil.symm, eqA_of (Od.r _).symm (Od.wn (Nat.le_add_left 3 3)) ⟨rfl, rfl, rfl, rfl, rfl, ⟨rfl, (Od.rc _).symm⟩, bif_of (Od.ww _ _) ⟨⟨rfl, (Oc.rc _).symm⟩, bif_of (Oc.ww _ _) ⟨⟨rfl, rfl⟩, ⟨rfl, rfl⟩, ⟨rfl, rfl⟩, ⟨rfl, rfl⟩, trivial⟩⟩⟩⟩), fun len' cap'' l' ho hq0 hl => bif_f (ilt_no (by omega)) (bif_of (inI_iff.2 (by omega)) ⟨hM s' ps hz _ k1 k2 (some (len', cap'', l')) ho (fun _ _ _ e => by cases e; exact hq0) hl, eqA_of (Od.r _).symm (Od.wn (Nat.le_add_left 3 4)) ⟨rfl, rfl, rfl, rfl, rfl, ⟨rfl, (Od.rc _).symm⟩, bif_of (Od.ww _ _) ⟨⟨rfl, (Oc.rc _).symm⟩, bif_of (Oc.ww _ _) ⟨⟨rfl, rfl⟩, ⟨rfl, rfl⟩, ⟨rfl, rfl⟩, ⟨rfl, rfl⟩, ⟨rfl, rfl⟩, trivial⟩⟩⟩⟩)⟩⟩⟩⟩
theorem round6rn (xd xc : SV) (o : Ot) (eD eC : Ent) (s : Sv) (n cap : Nat) (lf : List Pr) (k : Int) {d : Dt} {F : Nat → List Cz} (hC : Cuts d F) (hO : o.n ≤ o.l.length) (hO3 : o.n ≤ 300) (Od : Opq xd eD) (Oc : Opq xc eC) (hp : P6w d F o.n ⟨s, some (n, cap, lf), none, k⟩) :
  frK 274 (i6 xd o.x ⟨s, some (n, cap, lf), none, k⟩) fun fr => vround Try.prog E6w (L8 eD eC o.e xd o.x) 6 6 fr (m6 eD eC o.e ⟨s, some (n, cap, lf), none, k⟩) (Kp (mB eD eC o.e) 6 274 sel6 (Nx6 d F o.n k) (i6 xd o.x) (m6 eD eC o.e) False [] (mB eD eC o.e)) := by
 refine of_eq (r6rn xd o eD eC s n cap lf k _ _) ?_
 have h300 : o.n ≤ 300 := hO3
 obtain ⟨k0, k368, ht8⟩ := hp.bound hC h300
 have k0 : 0 ≤ k := k0
 have k368 : k ≤ 368 := k368
 have okl : n ≤ cap ∧ lf.length = cap := hp.okl
 have hn0 : n ≠ 0 := hp.pos _ _ _ rfl
 have h68 : (lf.take n).length ≤ 68 := by obtain ⟨-, -, -, T, K, -, -, -, q, -⟩ := hp; exact q
 rw [List.length_take, Nat.min_eq_left (by omega)] at h68
 have t0 : ilt 0 (n : Int) = true := ilt_of (by omega)
 have hul : (BitVec.ofInt 64 4611686018427387904).ule (nw6 k) = false := by
  have e : (BitVec.ofInt 64 4611686018427387904).toNat = 4611686018427387904 := by decide
  have := nw6_le k0
  rw [BitVec.ule, decide_eq_false_iff_not]; omega
 refine bif_t t0 ?_
 cases q2 : ilt k (o.n : Int)
 ·refine bif_f rfl ?_
  obtain ⟨hok, hdl, htk⟩ := take6 hC h300 hp (I := 0) (by omega) (tw := false) (.inr rfl)
  refine bif_of (inR_iff.2 ⟨by omega, by omega⟩) (bif_of (and_t (rokP (by omega)) rfl) (bif_f hul ⟨hok, fun gs' hg => ?_⟩))
  obtain ⟨hel, hE, hM, hP⟩ := htk gs' hg
  cases hpc : isPc (gR lf 0).2.2.2.2.2.2.1 (gR lf 0).2.2.2.2.2.2.2.1
  ·refine bif_f rfl (bif_of (ble_of (by omega)) (fun cap' rest hr => ?_))
   obtain ⟨k1, k2⟩ := first_pl _ rest cap' hr
   exact ⟨rfl, trivial, eqA_of (Od.r _).symm (Od.wn (Nat.le_add_left 3 5)) ⟨rfl, rfl, rfl, rfl, rfl, rfl, rfl, rfl, rfl, rfl, rfl, ⟨rfl, (Od.rc _).symm⟩, bif_of (Od.ww _ _) ⟨⟨rfl, (Oc.rc _).symm⟩, bif_of (Oc.ww _ _) ⟨⟨rfl, rfl⟩, ⟨rfl, rfl⟩, ⟨rfl, rfl⟩, ⟨rfl, rfl⟩, ⟨rfl, rfl⟩, ⟨rfl, rfl⟩, ⟨by omega, by omega⟩, fun hnil => bif_f (ilt_no (by omega)) (bif_of (inI_iff.2 (by omega)) ⟨hP hpc _ k1 k2 none trivial (fun _ _ _ e => by cases e) hnil.symm, eqA_of (Od.r _).symm (Od.wn (Nat.le_add_left 3 3)) ⟨rfl, rfl, rfl, rfl, rfl, ⟨rfl, (Od.rc _).symm⟩, bif_of (Od.ww _ _) ⟨⟨rfl, (Oc.rc _).symm⟩, bif_of (Oc.ww _ _) ⟨⟨rfl, rfl⟩, ⟨rfl, rfl⟩, ⟨rfl, rfl⟩, ⟨rfl, rfl⟩, trivial⟩⟩⟩⟩), fun len' cap'' l' ho hq0 hl => bif_f (ilt_no (by omega)) (bif_of (inI_iff.2 (by omega)) ⟨hP hpc _ k1 k2 (some (len', cap'', l')) ho (fun _ _ _ e => by cases e; exact hq0) hl, eqA_of (Od.r _).symm (Od.wn (Nat.le_add_left 3 4)) ⟨rfl, rfl, rfl, rfl, rfl, ⟨rfl, (Od.rc _).symm⟩, bif_of (Od.ww _ _) ⟨⟨rfl, (Oc.rc _).symm⟩, bif_of (Oc.ww _ _) ⟨⟨rfl, rfl⟩, ⟨rfl, rfl⟩, ⟨rfl, rfl⟩, ⟨rfl, rfl⟩, ⟨rfl, rfl⟩, trivial⟩⟩⟩⟩)⟩⟩⟩⟩
  ·refine bif_t rfl ⟨⟨hg, Nat.le_trans hdl (by decide), hel⟩, fun s' z hz => ?_, fun s' ps hz => ?_⟩
   ·obtain ⟨hz0, hEl⟩ := hE s' z hz
    subst hz0
    refine bif_f rfl ?_
    exact ⟨rfl, trivial, eqA_of (Od.r _).symm (Od.wn (Nat.le_add_left 3 4)) ⟨rfl, rfl, rfl, rfl, rfl, rfl, rfl, rfl, rfl, rfl, rfl, ⟨rfl, (Od.rc _).symm⟩, bif_of (Od.ww _ _) ⟨⟨rfl, (Oc.rc _).symm⟩, bif_of (Oc.ww _ _) ⟨⟨rfl, rfl⟩, ⟨rfl, rfl⟩, ⟨rfl, rfl⟩, ⟨rfl, rfl⟩, ⟨rfl, rfl⟩, ⟨by omega, by omega⟩, fun hnil => bif_f (ilt_no (by omega)) (bif_of (inI_iff.2 (by omega)) ⟨hEl none trivial (fun _ _ _ e => by cases e) hnil.symm, eqA_of (Od.r _).symm (Od.wn (Nat.le_add_left 3 2)) ⟨rfl, rfl, rfl, rfl, rfl, ⟨rfl, (Od.rc _).symm⟩, bif_of (Od.ww _ _) ⟨⟨rfl, (Oc.rc _).symm⟩, bif_of (Oc.ww _ _) ⟨⟨rfl, rfl⟩, ⟨rfl, rfl⟩, ⟨rfl, rfl⟩, trivial⟩⟩⟩⟩), fun len' cap'' l' ho hq0 hl => bif_f (ilt_no (by omega)) (bif_of (inI_iff.2 (by omega)) ⟨hEl (some (len', cap'', l')) ho (fun _ _ _ e => by cases e; exact hq0) hl, eqA_of (Od.r _).symm (Od.wn (Nat.le_add_left 3 3)) ⟨rfl, rfl, rfl, rfl, rfl, ⟨rfl, (Od.rc _).symm⟩, bif_of (Od.ww _ _) ⟨⟨rfl, (Oc.rc _).symm⟩, bif_of (Oc.ww _ _) ⟨⟨rfl, rfl⟩, ⟨rfl, rfl⟩, ⟨rfl, rfl⟩, ⟨rfl, rfl⟩, trivial⟩⟩⟩⟩)⟩⟩⟩⟩
   ·refine fun cap' rest hr => ?_
    obtain ⟨k1, k2⟩ := first_pl _ rest cap' hr
    exact ⟨rfl, trivial, eqA_of (Od.r _).symm (Od.wn (Nat.le_add_left 3 5)) ⟨rfl, rfl, rfl, rfl, rfl, rfl, rfl, rfl, rfl, rfl, rfl, ⟨rfl, (Od.rc _).symm⟩, bif_of (Od.ww _ _) ⟨⟨rfl, (Oc.rc _).symm⟩, bif_of (Oc.ww _ _) ⟨⟨rfl, rfl⟩, ⟨rfl, rfl⟩, ⟨rfl, rfl⟩, ⟨rfl, rfl⟩, ⟨rfl, rfl⟩, ⟨rfl, rfl⟩, ⟨by omega, by omega⟩, fun hnil => bif_f (ilt_no (by omega)) (bif_of (inI_iff.2 (by omega)) ⟨hM s' ps hz _ k1 k2 none trivial (fun _ _ _ e => by cases e) hnil.symm, eqA_of (Od.r _).symm (Od.wn (Nat.le_add_left 3 3)) ⟨rfl, rfl, rfl, rfl, rfl, ⟨rfl, (Od.rc _).symm⟩, bif_of (Od.ww _ _) ⟨⟨rfl, (Oc.rc _).symm⟩, bif_of (Oc.ww _ _) ⟨⟨rfl, rfl⟩, ⟨rfl, rfl⟩, ⟨rfl, rfl⟩, ⟨rfl, rfl⟩, trivial⟩⟩⟩⟩), fun len' cap'' l' ho hq0 hl => bif_f (ilt_no (by omega)) (bif_of (inI_iff.2 (by omega)) ⟨hM s' ps hz _ k1 k2 (some (len', cap'', l')) ho (fun _ _ _ e => by cases e; exact hq0) hl, eqA_of (Od.r _).symm (Od.wn (Nat.le_add_left 3 4)) ⟨rfl, rfl, rfl, rfl, rfl, ⟨rfl, (Od.rc _).symm⟩, bif_of (Od.ww _ _) ⟨⟨rfl, (Oc.rc _).symm⟩, bif_of (Oc.ww _ _) ⟨⟨rfl, rfl⟩, ⟨rfl, rfl⟩, ⟨rfl, rfl⟩, ⟨rfl, rfl⟩, ⟨rfl, rfl⟩, trivial⟩⟩⟩⟩)⟩⟩⟩⟩
 ·have q2' : k < (o.n : Int) := by rw [ilt_eq] at q2; exact of_decide_eq_true q2
  have hix : 0 ≤ ixO o k n ∧ ixO o k n < (n : Int) := by
   unfold ixO
   exact ⟨Int.tmod_nonneg _ (by omega), Int.tmod_lt_of_pos _ (by omega)⟩
  have hin : inR k o.n = true := inR_iff.2 ⟨by omega, by omega⟩
  have hro : rok o.pre.length k.toNat 1 [Fk.u16] o.pre o.l.length = true := rok1 _ rfl (by omega)
  have hnz : ((n : Int) != 0) = true := by rw [bne_iff_ne]; omega
  have eix : (((ixO o k n).toNat : Nat) : Int) = ixO o k n := by omega
  refine bif_t rfl (bif_of hin (bif_of hro (bif_of hnz (bif_of hin (bif_of hro ?_)))))
  obtain ⟨hok, hdl, htk⟩ := take6 hC h300 hp (I := (ixO o k n).toNat) (by omega) (tw := (BitVec.ofInt 16 50000).ult (odN o k)) (.inl q2')
  refine bif_of (inR_iff.2 ⟨by omega, by omega⟩) (bif_of (and_t (rokP (by omega)) rfl) (bif_f hul ⟨hok, fun gs' hg => ?_⟩))
  obtain ⟨hel, hE, hM, hP⟩ := htk gs' hg
  rw [eix] at hE hM hP
  cases hpc : isPc (gR lf (ixO o k n).toNat).2.2.2.2.2.2.1 (gR lf (ixO o k n).toNat).2.2.2.2.2.2.2.1
  ·refine bif_f rfl (bif_of (ble_of (by omega)) (fun cap' rest hr => ?_))
   obtain ⟨k1, k2⟩ := first_pl _ rest cap' hr
   exact ⟨rfl, trivial, eqA_of (Od.r _).symm (Od.wn (Nat.le_add_left 3 5)) ⟨rfl, rfl, rfl, rfl, rfl, rfl, rfl, rfl, rfl, rfl, rfl, ⟨rfl, (Od.rc _).symm⟩, bif_of (Od.ww _ _) ⟨⟨rfl, (Oc.rc _).symm⟩, bif_of (Oc.ww _ _) ⟨⟨rfl, rfl⟩, ⟨rfl, rfl⟩, ⟨rfl, rfl⟩, ⟨rfl, rfl⟩, ⟨rfl, rfl⟩, ⟨rfl, rfl⟩, ⟨by omega, by omega⟩, fun hnil => bif_f (ilt_no (by omega)) (bif_of (inI_iff.2 (by omega)) ⟨hP hpc _ k1 k2 none trivial (fun _ _ _ e => by cases e) hnil.symm, eqA_of (Od.r _).symm (Od.wn (Nat.le_add_left 3 3)) ⟨rfl, rfl, rfl, rfl, rfl, ⟨rfl, (Od.rc _).symm⟩, bif_of (Od.ww _ _) ⟨⟨rfl, (Oc.rc _).symm⟩, bif_of (Oc.ww _ _) ⟨⟨rfl, rfl⟩, ⟨rfl, rfl⟩, ⟨rfl, rfl⟩, ⟨rfl, rfl⟩, trivial⟩⟩⟩⟩), fun len' cap'' l' ho hq0 hl => bif_f (ilt_no (by omega)) (bif_of (inI_iff.2 (by omega)) ⟨hP hpc _ k1 k2 (some (len', cap'', l')) ho (fun _ _ _ e => by cases e; exact hq0) hl, eqA_of (Od.r _).symm (Od.wn (Nat.le_add_left 3 4)) ⟨rfl, rfl, rfl, rfl, rfl, ⟨rfl, (Od.rc _).symm⟩, bif_of (Od.ww _ _) ⟨⟨rfl, (Oc.rc _).symm⟩, bif_of (Oc.ww _ _) ⟨⟨rfl, rfl⟩, ⟨rfl, rfl⟩, ⟨rfl, rfl⟩, ⟨rfl, rfl⟩, ⟨rfl, rfl⟩, trivial⟩⟩⟩⟩)⟩⟩⟩⟩
  ·refine bif_t rfl ⟨⟨hg, Nat.le_trans hdl (by decide), hel⟩, fun s' z hz => ?_, fun s' ps hz => ?_⟩
   ·obtain ⟨hz0, hEl⟩ := hE s' z hz
    subst hz0
    refine bif_f rfl ?_
    exact ⟨rfl, trivial, eqA_of (Od.r _).symm (Od.wn (Nat.le_add_left 3 4)) ⟨rfl, rfl, rfl, rfl, rfl, rfl, rfl, rfl, rfl, rfl, rfl, ⟨rfl, (Od.rc _).symm⟩, bif_of (Od.ww _ _) ⟨⟨rfl, (Oc.rc _).symm⟩, bif_of (Oc.ww _ _) ⟨⟨rfl, rfl⟩, ⟨rfl, rfl⟩, ⟨rfl, rfl⟩, ⟨rfl, rfl⟩, ⟨rfl, rfl⟩, ⟨by omega, by omega⟩, fun hnil => bif_f (ilt_no (by omega)) (bif_of (inI_iff.2 (by omega)) ⟨hEl none trivial (fun _ _ _ e => by cases e) hnil.symm, eqA_of (Od.r _).symm (Od.wn (Nat.le_add_left 3 2)) ⟨rfl, rfl, rfl, rfl, rfl, ⟨rfl, (Od.rc _).symm⟩, bif_of (Od.ww _ _) ⟨⟨rfl, (Oc.rc _).symm⟩, bif_of (Oc.ww _ _) ⟨⟨rfl, rfl⟩, ⟨rfl, rfl⟩, ⟨rfl, rfl⟩, trivial⟩⟩⟩⟩), fun len' cap'' l' ho hq0 hl => bif_f (ilt_no (by omega)) (bif_of (inI_iff.2 (by omega)) ⟨hEl (some (len', cap'', l')) ho (fun _ _ _ e => by cases e; exact hq0) hl, eqA_of (Od.r _).symm (Od.wn (Nat.le_add_left 3 3)) ⟨rfl, rfl, rfl, rfl, rfl, ⟨rfl, (Od.rc _).symm⟩, bif_of (Od.ww _ _) ⟨⟨rfl, (Oc.rc _).symm⟩, bif_of (Oc.ww _ _) ⟨⟨rfl, rfl⟩, ⟨rfl, rfl⟩, ⟨rfl, rfl⟩, ⟨rfl, rfl⟩, trivial⟩⟩⟩⟩)⟩⟩⟩⟩
   ·refine fun cap' rest hr => ?_
    obtain ⟨k1, k2⟩ := first_pl _ rest cap' hr
    exact ⟨rfl, trivial, eqA_of (Od.r _).symm (Od.wn (Nat.le_add_left 3 5)) ⟨rfl, rfl, rfl, rfl, rfl, rfl, rfl, rfl, rfl, rfl, rfl, ⟨rfl, (Od.rc _).symm⟩, bif_of (Od.ww _ _) ⟨⟨rfl, (Oc.rc _).symm⟩, bif_of (Oc.ww _ _) ⟨⟨rfl, rfl⟩, ⟨rfl, rfl⟩, ⟨rfl, rfl⟩, ⟨rfl, rfl⟩, ⟨rfl, rfl⟩, ⟨rfl, rfl⟩, ⟨by omega, by omega⟩, fun hnil => bif_f (ilt_no (by omega)) (bif_of (inI_iff.2 (by omega)) ⟨hM s' ps hz _ k1 k2 none trivial (fun _ _ _ e => by cases e) hnil.symm, eqA_of (Od.r _).symm (Od.wn (Nat.le_add_left 3 3)) ⟨rfl, rfl, rfl, rfl, rfl, ⟨rfl, (Od.rc _).symm⟩, bif_of (Od.ww _ _) ⟨⟨rfl, (Oc.rc _).symm⟩, bif_of (Oc.ww _ _) ⟨⟨rfl, rfl⟩, ⟨rfl, rfl⟩, ⟨rfl, rfl⟩, ⟨rfl, rfl⟩, trivial⟩⟩⟩⟩), fun len' cap'' l' ho hq0 hl => bif_f (ilt_no (by omega)) (bif_of (inI_iff.2 (by omega)) ⟨hM s' ps hz _ k1 k2 (some (len', cap'', l')) ho (fun _ _ _ e => by cases e; exact hq0) hl, eqA_of (Od.r _).symm (Od.wn (Nat.le_add_left 3 4)) ⟨rfl, rfl, rfl, rfl, rfl, ⟨rfl, (Od.rc _).symm⟩, bif_of (Od.ww _ _) ⟨⟨rfl, (Oc.rc _).symm⟩, bif_of (Oc.ww _ _) ⟨⟨rfl, rfl⟩, ⟨rfl, rfl⟩, ⟨rfl, rfl⟩, ⟨rfl, rfl⟩, ⟨rfl, rfl⟩, trivial⟩⟩⟩⟩)⟩⟩⟩⟩
theorem round6rs (xd xc : SV) (o : Ot) (eD eC : Ent) (s : Sv) (n cap : Nat) (lf : List Pr) (len1 cap1 : Nat) (l1 : List Pr) (k : Int) {d : Dt} {F : Nat → List Cz} (hC : Cuts d F) (hO : o.n ≤ o.l.length) (hO3 : o.n ≤ 300) (Od : Opq xd eD) (Oc : Opq xc eC) (hp : P6w d F o.n ⟨s, some (n, cap, lf), (some (len1, cap1, l1)), k⟩) :
  frK 274 (i6 xd o.x ⟨s, some (n, cap, lf), (some (len1, cap1, l1)), k⟩) fun fr => vround Try.prog E6w (L8 eD eC o.e xd o.x) 6 6 fr (m6 eD eC o.e ⟨s, some (n, cap, lf), (some (len1, cap1, l1)), k⟩) (Kp (mB eD eC o.e) 6 274 sel6 (Nx6 d F o.n k) (i6 xd o.x) (m6 eD eC o.e) False [] (mB eD eC o.e)) := by
 refine of_eq (r6rs xd o eD eC s n cap lf len1 cap1 l1 k _ _) ?_
 have h300 : o.n ≤ 300 := hO3
 obtain ⟨k0, k368, ht8⟩ := hp.bound hC h300
 have k0 : 0 ≤ k := k0
 have k368 : k ≤ 368 := k368
 have okl : n ≤ cap ∧ lf.length = cap := hp.okl
 have hn0 : n ≠ 0 := hp.pos _ _ _ rfl
 have h68 : (lf.take n).length ≤ 68 := by obtain ⟨-, -, -, T, K, -, -, -, q, -⟩ := hp; exact q
 rw [List.length_take, Nat.min_eq_left (by omega)] at h68
 have t0 : ilt 0 (n : Int) = true := ilt_of (by omega)
 have hul : (BitVec.ofInt 64 4611686018427387904).ule (nw6 k) = false := by
  have e : (BitVec.ofInt 64 4611686018427387904).toNat = 4611686018427387904 := by decide
  have := nw6_le k0
  rw [BitVec.ule, decide_eq_false_iff_not]; omega
 have okt : len1 ≤ cap1 ∧ l1.length = cap1 := hp.okt
 have hsm : ∀ r : Pr, len1 + (one r).length ≤ 33554432 := fun r => by
  have e1 : (one r).length = 1 := rfl
  have e2 : (l1.take len1).length = len1 := by rw [List.length_take]; omega
  have ht8 : (l1.take len1).length ≤ 8 := ht8
  omega
 refine bif_t t0 ?_
 cases q2 : ilt k (o.n : Int)
 ·refine bif_f rfl ?_
  obtain ⟨hok, hdl, htk⟩ := take6 hC h300 hp (I := 0) (by omega) (tw := false) (.inr rfl)
  refine bif_of (inR_iff.2 ⟨by omega, by omega⟩) (bif_of (and_t (rokP (by omega)) rfl) (bif_f hul ⟨hok, fun gs' hg => ?_⟩))
  obtain ⟨hel, hE, hM, hP⟩ := htk gs' hg
  cases hpc : isPc (gR lf 0).2.2.2.2.2.2.1 (gR lf 0).2.2.2.2.2.2.2.1
  ·refine bif_f rfl (bif_of (ble_of (by omega)) (bif_of (and_t (ble_of okt.1) (and_t (by rw [okt.2]; exact Nat.beq_refl _) (and_t (ble_of (hsm _)) rfl))) (fun cap' rest hr => ?_)))
   obtain ⟨k1, k2⟩ := snoc_pl l1 len1 _ rest cap' (by omega) hr
   exact ⟨rfl, trivial, eqA_of (Od.r _).symm (Od.wn (Nat.le_add_left 3 5)) ⟨rfl, rfl, rfl, rfl, rfl, rfl, rfl, rfl, rfl, rfl, rfl, ⟨rfl, (Od.rc _).symm⟩, bif_of (Od.ww _ _) ⟨⟨rfl, (Oc.rc _).symm⟩, bif_of (Oc.ww _ _) ⟨⟨rfl, rfl⟩, ⟨rfl, rfl⟩, ⟨rfl, rfl⟩, ⟨rfl, rfl⟩, ⟨rfl, rfl⟩, ⟨rfl, rfl⟩, ⟨by omega, by omega⟩, fun hnil => bif_f (ilt_no (by omega)) (bif_of (inI_iff.2 (by omega)) ⟨hP hpc _ k1 k2 none trivial (fun _ _ _ e => by cases e) hnil.symm, eqA_of (Od.r _).symm (Od.wn (Nat.le_add_left 3 3)) ⟨rfl, rfl, rfl, rfl, rfl, ⟨rfl, (Od.rc _).symm⟩, bif_of (Od.ww _ _) ⟨⟨rfl, (Oc.rc _).symm⟩, bif_of (Oc.ww _ _) ⟨⟨rfl, rfl⟩, ⟨rfl, rfl⟩, ⟨rfl, rfl⟩, ⟨rfl, rfl⟩, trivial⟩⟩⟩⟩), fun len' cap'' l' ho hq0 hl => bif_f (ilt_no (by omega)) (bif_of (inI_iff.2 (by omega)) ⟨hP hpc _ k1 k2 (some (len', cap'', l')) ho (fun _ _ _ e => by cases e; exact hq0) hl, eqA_of (Od.r _).symm (Od.wn (Nat.le_add_left 3 4)) ⟨rfl, rfl, rfl, rfl, rfl, ⟨rfl, (Od.rc _).symm⟩, bif_of (Od.ww _ _) ⟨⟨rfl, (Oc.rc _).symm⟩, bif_of (Oc.ww _ _) ⟨⟨rfl, rfl⟩, ⟨rfl, rfl⟩, ⟨rfl, rfl⟩, ⟨rfl, rfl⟩, ⟨rfl, rfl⟩, trivial⟩⟩⟩⟩)⟩⟩⟩⟩
  ·refine bif_t rfl ⟨⟨hg, Nat.le_trans hdl (by decide), hel⟩, fun s' z hz => ?_, fun s' ps hz => ?_⟩
   ·obtain ⟨hz0, hEl⟩ := hE s' z hz
    subst hz0
    refine bif_f rfl ?_
    exact ⟨rfl, trivial, eqA_of (Od.r _).symm (Od.wn (Nat.le_add_left 3 5)) ⟨rfl, rfl, rfl, rfl, rfl, rfl, rfl, rfl, rfl, rfl, rfl, ⟨rfl, (Od.rc _).symm⟩, bif_of (Od.ww _ _) ⟨⟨rfl, (Oc.rc _).symm⟩, bif_of (Oc.ww _ _) ⟨⟨rfl, rfl⟩, ⟨rfl, rfl⟩, ⟨rfl, rfl⟩, ⟨rfl, rfl⟩, ⟨rfl, rfl⟩, ⟨rfl, rfl⟩, ⟨by omega, by omega⟩, fun hnil => bif_f (ilt_no (by omega)) (bif_of (inI_iff.2 (by omega)) ⟨hEl none trivial (fun _ _ _ e => by cases e) hnil.symm, eqA_of (Od.r _).symm (Od.wn (Nat.le_add_left 3 3)) ⟨rfl, rfl, rfl, rfl, rfl, ⟨rfl, (Od.rc _).symm⟩, bif_of (Od.ww _ _) ⟨⟨rfl, (Oc.rc _).symm⟩, bif_of (Oc.ww _ _) ⟨⟨rfl, rfl⟩, ⟨rfl, rfl⟩, ⟨rfl, rfl⟩, ⟨rfl, rfl⟩, trivial⟩⟩⟩⟩), fun len' cap'' l' ho hq0 hl => bif_f (ilt_no (by omega)) (bif_of (inI_iff.2 (by omega)) ⟨hEl (some (len', cap'', l')) ho (fun _ _ _ e => by cases e; exact hq0) hl, eqA_of (Od.r _).symm (Od.wn (Nat.le_add_left 3 4)) ⟨rfl, rfl, rfl, rfl, rfl, ⟨rfl, (Od.rc _).symm⟩, bif_of (Od.ww _ _) ⟨⟨rfl, (Oc.rc _).symm⟩, bif_of (Oc.ww _ _) ⟨⟨rfl, rfl⟩, ⟨rfl, rfl⟩, ⟨rfl, rfl⟩, ⟨rfl, rfl⟩, ⟨rfl, rfl⟩, trivial⟩⟩⟩⟩)⟩⟩⟩⟩
   ·refine bif_of (and_t (ble_of okt.1) (and_t (by rw [okt.2]; exact Nat.beq_refl _) (and_t (ble_of (hsm _)) rfl))) (fun cap' rest hr => ?_)
    obtain ⟨k1, k2⟩ := snoc_pl l1 len1 _ rest cap' (by omega) hr
    exact ⟨rfl, trivial, eqA_of (Od.r _).symm (Od.wn (Nat.le_add_left 3 5)) ⟨rfl, rfl, rfl, rfl, rfl, rfl, rfl, rfl, rfl, rfl, rfl, ⟨rfl, (Od.rc _).symm⟩, bif_of (Od.ww _ _) ⟨⟨rfl, (Oc.rc _).symm⟩, bif_of (Oc.ww _ _) ⟨⟨rfl, rfl⟩, ⟨rfl, rfl⟩, ⟨rfl, rfl⟩, ⟨rfl, rfl⟩, ⟨rfl, rfl⟩, ⟨rfl, rfl⟩, ⟨by omega, by omega⟩, fun hnil => bif_f (ilt_no (by omega)) (bif_of (inI_iff.2 (by omega)) ⟨hM s' ps hz _ k1 k2 none trivial (fun _ _ _ e => by cases e) hnil.symm, eqA_of (Od.r _).symm (Od.wn (Nat.le_add_left 3 3)) ⟨rfl, rfl, rfl, rfl, rfl, ⟨rfl, (Od.rc _).symm⟩, bif_of (Od.ww _ _) ⟨⟨rfl, (Oc.rc _).symm⟩, bif_of (Oc.ww _ _) ⟨⟨rfl, rfl⟩, ⟨rfl, rfl⟩, ⟨rfl, rfl⟩, ⟨rfl, rfl⟩, trivial⟩⟩⟩⟩), fun len' cap'' l' ho hq0 hl => bif_f (ilt_no (by omega)) (bif_of (inI_iff.2 (by omega)) ⟨hM s' ps hz _ k1 k2 (some (len', cap'', l')) ho (fun _ _ _ e => by cases e; exact hq0) hl, eqA_of (Od.r _).symm (Od.wn (Nat.le_add_left 3 4)) ⟨rfl, rfl, rfl, rfl, rfl, ⟨rfl, (Od.rc _).symm⟩, bif_of (Od.ww _ _) ⟨⟨rfl, (Oc.rc _).symm⟩, bif_of (Oc.ww _ _) ⟨⟨rfl, rfl⟩, ⟨rfl, rfl⟩, ⟨rfl, rfl⟩, ⟨rfl, rfl⟩, ⟨rfl, rfl⟩, trivial⟩⟩⟩⟩)⟩⟩⟩⟩
 ·have q2' : k < (o.n : Int) := by rw [ilt_eq] at q2; exact of_decide_eq_true q2
  have hix : 0 ≤ ixO o k n ∧ ixO o k n < (n : Int) := by
   unfold ixO
   exact ⟨Int.tmod_nonneg _ (by omega), Int.tmod_lt_of_pos _ (by omega)⟩
  have hin : inR k o.n = true := inR_iff.2 ⟨by omega, by omega⟩
  have hro : rok o.pre.length k.toNat 1 [Fk.u16] o.pre o.l.length = true := rok1 _ rfl (by omega)
  have hnz : ((n : Int) != 0) = true := by rw [bne_iff_ne]; omega
  have eix : (((ixO o k n).toNat : Nat) : Int) = ixO o k n := by omega
  refine bif_t rfl (bif_of hin (bif_of hro (bif_of hnz (bif_of hin (bif_of hro ?_)))))
  obtain ⟨hok, hdl, htk⟩ := take6 hC h300 hp (I := (ixO o k n).toNat) (by omega) (tw := (BitVec.ofInt 16 50000).ult (odN o k)) (.inl q2')
  refine bif_of (inR_iff.2 ⟨by omega, by omega⟩) (bif_of (and_t (rokP (by omega)) rfl) (bif_f hul ⟨hok, fun gs' hg => ?_⟩))
  obtain ⟨hel, hE, hM, hP⟩ := htk gs' hg
  rw [eix] at hE hM hP
  cases hpc : isPc (gR lf (ixO o k n).toNat).2.2.2.2.2.2.1 (gR lf (ixO o k n).toNat).2.2.2.2.2.2.2.1
  ·refine bif_f rfl (bif_of (ble_of (by omega)) (bif_of (and_t (ble_of okt.1) (and_t (by rw [okt.2]; exact Nat.beq_refl _) (and_t (ble_of (hsm _)) rfl))) (fun cap' rest hr => ?_)))
   obtain ⟨k1, k2⟩ := snoc_pl l1 len1 _ rest cap' (by omega) hr
   exact ⟨rfl, trivial, eqA_of (Od.r _).symm (Od.wn (Nat.le_add_left 3 5)) ⟨rfl, rfl, rfl, rfl, rfl, rfl, rfl, rfl, rfl, rfl, rfl, ⟨rfl, (Od.rc _).symm⟩, bif_of (Od.ww _ _) ⟨⟨rfl, (Oc.rc _).symm⟩, bif_of (Oc.ww _ _) ⟨⟨rfl, rfl⟩, ⟨rfl, rfl⟩, ⟨rfl, rfl⟩, ⟨rfl, rfl⟩, ⟨rfl, rfl⟩, ⟨rfl, rfl⟩, ⟨by omega, by omega⟩, fun hnil => bif_f (ilt_no (by omega)) (bif_of (inI_iff.2 (by omega)) ⟨hP hpc _ k1 k2 none trivial (fun _ _ _ e => by cases e) hnil.symm, eqA_of (Od.r _).symm (Od.wn (Nat.le_add_left 3 3)) ⟨rfl, rfl, rfl, rfl, rfl, ⟨rfl, (Od.rc _).symm⟩, bif_of (Od.ww _ _) ⟨⟨rfl, (Oc.rc _).symm⟩, bif_of (Oc.ww _ _) ⟨⟨rfl, rfl⟩, ⟨rfl, rfl⟩, ⟨rfl, rfl⟩, ⟨rfl, rfl⟩, trivial⟩⟩⟩⟩), fun len' cap'' l' ho hq0 hl => bif_f (ilt_no (by omega)) (bif_of (inI_iff.2 (by omega)) ⟨hP hpc _ k1 k2 (some (len', cap'', l')) ho (fun _ _ _ e => by cases e; exact hq0) hl, eqA_of (Od.r _).symm (Od.wn (Nat.le_add_left 3 4)) ⟨rfl, rfl, rfl, rfl, rfl, ⟨rfl, (Od.rc _).symm⟩, bif_of (Od.ww _ _) ⟨⟨rfl, (Oc.rc _).symm⟩, bif_of (Oc.ww _ _) ⟨⟨rfl, rfl⟩, ⟨rfl, rfl⟩, ⟨rfl, rfl⟩, ⟨rfl, rfl⟩, ⟨rfl, rfl⟩, trivial⟩⟩⟩⟩)⟩⟩⟩⟩
  ·refine bif_t rfl ⟨⟨hg, Nat.le_trans hdl (by decide), hel⟩, fun s' z hz => ?_, fun s' ps hz => ?_⟩
   ·obtain ⟨hz0, hEl⟩ := hE s' z hz
    subst hz0
    refine bif_f rfl ?_
    exact ⟨rfl, trivial, eqA_of (Od.r _).symm (Od.wn (Nat.le_add_left 3 5)) ⟨rfl, rfl, rfl, rfl, rfl, rfl, rfl, rfl, rfl, rfl, rfl, ⟨rfl, (Od.rc _).symm⟩, bif_of (Od.ww _ _) ⟨⟨rfl, (Oc.rc _).symm⟩, bif_of (Oc.ww _ _) ⟨⟨rfl, rfl⟩, ⟨rfl, rfl⟩, ⟨rfl, rfl⟩, ⟨rfl, rfl⟩, ⟨rfl, rfl⟩, ⟨rfl, rfl⟩, ⟨by omega, by omega⟩, fun hnil => bif_f (ilt_no (by omega)) (bif_of (inI_iff.2 (by omega)) ⟨hEl none trivial (fun _ _ _ e => by cases e) hnil.symm, eqA_of (Od.r _).symm (Od.wn (Nat.le_add_left 3 3)) ⟨rfl, rfl, rfl, rfl, rfl, ⟨rfl, (Od.rc _).symm⟩, bif_of (Od.ww _ _) ⟨⟨rfl, (Oc.rc _).symm⟩, bif_of (Oc.ww _ _) ⟨⟨rfl, rfl⟩, ⟨rfl, rfl⟩, ⟨rfl, rfl⟩, ⟨rfl, rfl⟩, trivial⟩⟩⟩⟩), fun len' cap'' l' ho hq0 hl => bif_f (ilt_no (by omega)) (bif_of (inI_iff.2 (by omega)) ⟨hEl (some (len', cap'', l')) ho (fun _ _ _ e => by cases e; exact hq0) hl, eqA_of (Od.r _).symm (Od.wn (Nat.le_add_left 3 4)) ⟨rfl, rfl, rfl, rfl, rfl, ⟨rfl, (Od.rc _).symm⟩, bif_of (Od.ww _ _) ⟨⟨rfl, (Oc.rc _).symm⟩, bif_of (Oc.ww _ _) ⟨⟨rfl, rfl⟩, ⟨rfl, rfl⟩, ⟨rfl, rfl⟩, ⟨rfl, rfl⟩, ⟨rfl, rfl⟩, trivial⟩⟩⟩⟩)⟩⟩⟩⟩
   ·refine bif_of (and_t (ble_of okt.1) (and_t (by rw [okt.2]; exact Nat.beq_refl _) (and_t (ble_of (hsm _)) rfl))) (fun cap' rest hr => ?_)
    obtain ⟨k1, k2⟩ := snoc_pl l1 len1 _ rest cap' (by omega) hr
    exact ⟨rfl, trivial, eqA_of (Od.r _).symm (Od.wn (Nat.le_add_left 3 5)) ⟨rfl, rfl, rfl, rfl, rfl, rfl, rfl, rfl, rfl, rfl, rfl, ⟨rfl, (Od.rc _).symm⟩, bif_of (Od.ww _ _) ⟨⟨rfl, (Oc.rc _).symm⟩, bif_of (Oc.ww _ _) ⟨⟨rfl, rfl⟩, ⟨rfl, rfl⟩, ⟨rfl, rfl⟩, ⟨rfl, rfl⟩, ⟨rfl, rfl⟩, ⟨rfl, rfl⟩, ⟨by omega, by omega⟩, fun hnil => bif_f (ilt_no (by omega)) (bif_of (inI_iff.2 (by omega)) ⟨hM s' ps hz _ k1 k2 none trivial (fun _ _ _ e => by cases e) hnil.symm, eqA_of (Od.r _).symm (Od.wn (Nat.le_add_left 3 3)) ⟨rfl, rfl, rfl, rfl, rfl, ⟨rfl, (Od.rc _).symm⟩, bif_of (Od.ww _ _) ⟨⟨rfl, (Oc.rc _).symm⟩, bif_of (Oc.ww _ _) ⟨⟨rfl, rfl⟩, ⟨rfl, rfl⟩, ⟨rfl, rfl⟩, ⟨rfl, rfl⟩, trivial⟩⟩⟩⟩), fun len' cap'' l' ho hq0 hl => bif_f (ilt_no (by omega)) (bif_of (inI_iff.2 (by omega)) ⟨hM s' ps hz _ k1 k2 (some (len', cap'', l')) ho (fun _ _ _ e => by cases e; exact hq0) hl, eqA_of (Od.r _).symm (Od.wn (Nat.le_add_left 3 4)) ⟨rfl, rfl, rfl, rfl, rfl, ⟨rfl, (Od.rc _).symm⟩, bif_of (Od.ww _ _) ⟨⟨rfl, (Oc.rc _).symm⟩, bif_of (Oc.ww _ _) ⟨⟨rfl, rfl⟩, ⟨rfl, rfl⟩, ⟨rfl, rfl⟩, ⟨rfl, rfl⟩, ⟨rfl, rfl⟩, trivial⟩⟩⟩⟩)⟩⟩⟩⟩
end Go.Proofs.Ytggoncamiafclaa
