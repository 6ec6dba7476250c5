/-
  ip: the law IpWhole: what is kept of the pieces. No statement is proved here.
-/
import Derived.Test.YtggoncamiafclaaJqC
import Derived.Test.YtggoncamiafclaaJqE
namespace Go.Proofs.Ytggoncamiafclaa
open Go.RowKit
set_option linter.unusedVariables false
set_option linter.unusedSimpArgs false
set_option maxRecDepth 100000
theorem opq_d (o : Dt) : Opq o.x o.e := ⟨rfl, fun _ => rfl, fun _ => rfl, fun _ => rfl⟩
theorem Opq.ww {x : SV} {e : Ent} (h : Opq x e) (n m : Nat) : (Cont.wf n e.2 && (e.1 || Cont.wf m e.2)) = true := and_t (h.wc n) (by rw [h.wc m]; exact Bool.or_true _)
structure P8 (lf : List Pr) (n : Nat) (i0 : Int) (tw is : Bool) (r : Pv) (st : S8) : Prop where
 ok : okPl st.l
 pos : ∀ len cap l, st.l = some (len, cap, l) → len ≠ 0
 run : ∃ b : Nat, st.b = (b : Nat) ∧ b ≤ n ∧ acP st.l = kpL lf i0 tw is r b
theorem rokP {b m : Nat} (h : b < m) : rok 0 b 9 PF [] m = true := rok_iff.2 ⟨rfl, by decide, Nat.le_refl _, rfl, by simpa using h⟩
theorem kpL_yes {lf : List Pr} {i0 : Int} {tw is : Bool} {r : Pv} {b : Nat} (h : kpB lf i0 tw is r b = true) : kpL lf i0 tw is r (b + 1) = kpL lf i0 tw is r b ++ [gR lf b] := by
 show kpL lf i0 tw is r b ++ (bif kpB lf i0 tw is r b then [gR lf b] else []) = _
 rw [h]; rfl
theorem kpL_no {lf : List Pr} {i0 : Int} {tw is : Bool} {r : Pv} {b : Nat} (h : kpB lf i0 tw is r b = false) : kpL lf i0 tw is r (b + 1) = kpL lf i0 tw is r b := by
 show kpL lf i0 tw is r b ++ (bif kpB lf i0 tw is r b then [gR lf b] else []) = _
 rw [h]; exact List.append_nil _
theorem kpL_len (lf : List Pr) (i0 : Int) (tw is : Bool) (r : Pv) : ∀ b, (kpL lf i0 tw is r b).length ≤ b
 | 0 => Nat.le_refl _
 | b + 1 => by
  have := kpL_len lf i0 tw is r b
  cases h : kpB lf i0 tw is r b
  ·rw [kpL_no h]; omega
  ·rw [kpL_yes h, List.length_append]
   have e : [gR lf b].length = 1 := rfl
   omega
theorem round8nn (xd xc xo : SV) (eD eC eO : Ent) (s : Sv) (n cap : Nat) (lf : List Pr) (r : Pv) (k i0 : Int) (tw is : Bool) (b : Nat) (hl : n ≤ lf.length) (hn : n ≤ 1000) (Od : Opq xd eD) (Oc : Opq xc eC) (Oo : Opq xo eO) (hp : P8 lf n i0 tw is r ⟨none, (b : Nat)⟩) :
  frK 274 (i8 xd xo none (some (n, cap, lf)) k i0 tw is ⟨none, (b : Nat)⟩) fun fr => vround Try.prog E6w noL 6 8 fr (m8 eD eC eO s none (some (n, cap, lf)) r none) (Kp (mB eD eC eO) 8 274 (sel8 []) (fun st => P8 lf n i0 tw is r st ∧ n - st.b.toNat < n - b) (i8 xd xo none (some (n, cap, lf)) k i0 tw is) (fun st => m8 eD eC eO s none (some (n, cap, lf)) r st.l) (b = n) (o8 xd xo none k none) (m8 eD eC eO s none (some (n, cap, lf)) r none)) := by
 refine of_eq (r8nn xd xo eD eC eO s n cap lf r k i0 tw is b _ _) ?_
 obtain ⟨ok, pos, b', hb', hbn, hac⟩ := hp
 have hb' : (b : Int) = (b' : Nat) := hb'
 obtain rfl : b = b' := by omega
 cases hc : ilt (b : Int) (n : Int)
 ·have := of_nilt hc
  exact ⟨rfl, by omega, eqA_of rfl (Od.wn (Nat.le_add_left 3 4)) (eqA_of rfl (Oo.wn (Nat.le_add_left 3 4)) ⟨rfl, rfl, rfl, rfl, ⟨rfl, rfl⟩, bif_of (Od.wc _) ⟨⟨rfl, rfl⟩, bif_of (Oc.wc _) ⟨⟨rfl, rfl⟩, bif_of (Oo.wc _) ⟨⟨rfl, rfl⟩, ⟨rfl, rfl⟩, ⟨rfl, rfl⟩, ⟨rfl, rfl⟩, trivial⟩⟩⟩⟩)⟩
 ·have hi := of_ilt hc
  have t1 : inR (b : Int) n = true := inR_iff.2 ⟨by omega, by omega⟩
  have t2 : rok 0 b 9 PF [] lf.length = true := rokP (by omega)
  have hI : inI ((b : Int) + 1) = true := inI_iff.2 (by omega)
  have hmu : n - ((b : Int) + 1).toNat < n - b := by omega
  have keep : kpB lf i0 tw is r b = true → r8nnt1 xd xo eD eC eO s n cap lf r k i0 tw is b (fun st => P8 lf n i0 tw is r st ∧ n - st.b.toNat < n - b) (b = n) := fun hk => by
   unfold r8nnt1
   refine bif_of t1 (bif_of (and_t t2 rfl) fun cap' rest hr => bif_of hI ?_)
   obtain ⟨k1, k2⟩ := first_pl _ rest cap' hr
   exact ⟨⟨⟨k1, fun len' cap'' l' e => by cases e; have e1 : (one (gR lf b)).length = 1 := rfl; show (one (gR lf b)).length ≠ 0; omega, ⟨b + 1, by show (b : Int) + 1 = _; omega, by omega, by rw [kpL_yes hk, ← hac]; exact k2⟩⟩, hmu⟩, eqA_of (Od.r _).symm (Od.wn (Nat.le_add_left 3 5)) (eqA_of (Oo.r _).symm (Oo.wn (Nat.le_add_left 3 5)) ⟨rfl, rfl, rfl, rfl, rfl, rfl, rfl, rfl, rfl, rfl, ⟨rfl, (Od.rc _).symm⟩, bif_of (Od.ww _ _) ⟨⟨rfl, (Oc.rc _).symm⟩, bif_of (Oc.ww _ _) ⟨⟨rfl, (Oo.rc _).symm⟩, bif_of (Oo.ww _ _) ⟨⟨rfl, rfl⟩, ⟨rfl, rfl⟩, ⟨rfl, rfl⟩, ⟨rfl, rfl⟩, ⟨rfl, rfl⟩, trivial⟩⟩⟩⟩)⟩
  have drop : kpB lf i0 tw is r b = false → r8nnt2 xd xo eD eC eO s n cap lf r k i0 tw is b (fun st => P8 lf n i0 tw is r st ∧ n - st.b.toNat < n - b) (b = n) := fun hk => by
   unfold r8nnt2
   refine bif_of hI ?_
   exact ⟨⟨⟨ok, pos, ⟨b + 1, by show (b : Int) + 1 = _; omega, by omega, by rw [kpL_no hk]; exact hac⟩⟩, hmu⟩, eqA_of (Od.r _).symm (Od.wn (Nat.le_add_left 3 4)) (eqA_of (Oo.r _).symm (Oo.wn (Nat.le_add_left 3 4)) ⟨rfl, rfl, rfl, rfl, rfl, rfl, rfl, rfl, rfl, rfl, ⟨rfl, (Od.rc _).symm⟩, bif_of (Od.ww _ _) ⟨⟨rfl, (Oc.rc _).symm⟩, bif_of (Oc.ww _ _) ⟨⟨rfl, (Oo.rc _).symm⟩, bif_of (Oo.ww _ _) ⟨⟨rfl, rfl⟩, ⟨rfl, rfl⟩, ⟨rfl, rfl⟩, ⟨rfl, rfl⟩, trivial⟩⟩⟩⟩)⟩
  refine bif_t rfl ?_
  cases his : is
  ·subst his
   refine bif_f rfl ?_
   unfold r8nnt3
   refine bif_t rfl ?_
   cases h1 : ((b : Int) != i0)
   ·refine bif_f rfl ?_
    cases htw : tw
    ·subst htw
     exact bif_f rfl (drop (by show (bif ((b : Nat) : Int) != i0 then true else false) = false; rw [h1]; rfl))
    ·subst htw
     exact bif_t rfl (keep (by show (bif ((b : Nat) : Int) != i0 then true else true) = true; rw [h1]; rfl))
   ·exact bif_t rfl (keep (by show (bif ((b : Nat) : Int) != i0 then true else tw) = true; rw [h1]; rfl))
  ·subst his
   refine bif_t rfl (bif_of t1 (bif_of t2 ?_))
   cases h1 : ((gR lf b).snd.snd.snd.snd.fst != r.snd.snd.snd.snd.fst)
   ·refine bif_f rfl ?_
    unfold r8nnt3
    exact bif_f rfl (drop h1)
   ·exact bif_t rfl (keep h1)
theorem round8ns (xd xc xo : SV) (eD eC eO : Ent) (s : Sv) (n cap : Nat) (lf : List Pr) (r : Pv) (k i0 : Int) (tw is : Bool) (b : Nat) (len2 cap2 : Nat) (l2 : List Pr) (hl : n ≤ lf.length) (hn : n ≤ 1000) (Od : Opq xd eD) (Oc : Opq xc eC) (Oo : Opq xo eO) (hp : P8 lf n i0 tw is r ⟨(some (len2, cap2, l2)), (b : Nat)⟩) :
  frK 274 (i8 xd xo none (some (n, cap, lf)) k i0 tw is ⟨(some (len2, cap2, l2)), (b : Nat)⟩) fun fr => vround Try.prog E6w noL 6 8 fr (m8 eD eC eO s none (some (n, cap, lf)) r (some (len2, cap2, l2))) (Kp (mB eD eC eO) 8 274 (sel8 []) (fun st => P8 lf n i0 tw is r st ∧ n - st.b.toNat < n - b) (i8 xd xo none (some (n, cap, lf)) k i0 tw is) (fun st => m8 eD eC eO s none (some (n, cap, lf)) r st.l) (b = n) (o8 xd xo none k (some (len2, cap2, l2))) (m8 eD eC eO s none (some (n, cap, lf)) r (some (len2, cap2, l2)))) := by
 refine of_eq (r8ns xd xo eD eC eO s n cap lf r k i0 tw is b len2 cap2 l2 _ _) ?_
 obtain ⟨ok, pos, b', hb', hbn, hac⟩ := hp
 have hb' : (b : Int) = (b' : Nat) := hb'
 obtain rfl : b = b' := by omega
 cases hc : ilt (b : Int) (n : Int)
 ·have := of_nilt hc
  exact ⟨rfl, by omega, eqA_of rfl (Od.wn (Nat.le_add_left 3 5)) (eqA_of rfl (Oo.wn (Nat.le_add_left 3 5)) ⟨rfl, rfl, rfl, rfl, ⟨rfl, rfl⟩, bif_of (Od.wc _) ⟨⟨rfl, rfl⟩, bif_of (Oc.wc _) ⟨⟨rfl, rfl⟩, bif_of (Oo.wc _) ⟨⟨rfl, rfl⟩, ⟨rfl, rfl⟩, ⟨rfl, rfl⟩, ⟨rfl, rfl⟩, ⟨rfl, rfl⟩, trivial⟩⟩⟩⟩)⟩
 ·have hi := of_ilt hc
  have t1 : inR (b : Int) n = true := inR_iff.2 ⟨by omega, by omega⟩
  have t2 : rok 0 b 9 PF [] lf.length = true := rokP (by omega)
  have hI : inI ((b : Int) + 1) = true := inI_iff.2 (by omega)
  have hmu : n - ((b : Int) + 1).toNat < n - b := by omega
  have hsm : len2 + (one (gR lf b)).length ≤ 33554432 := by
   have e1 : (one (gR lf b)).length = 1 := rfl
   have e2 : (acP (some (len2, cap2, l2))).length = len2 := by
    show (l2.take len2).length = len2
    rw [List.length_take]; have := ok.1; have := ok.2; omega
   have e3 := kpL_len lf i0 tw is r b
   rw [← hac, e2] at e3
   omega
  have keep : kpB lf i0 tw is r b = true → r8nst1 xd xo eD eC eO s n cap lf r k i0 tw is b len2 cap2 l2 (fun st => P8 lf n i0 tw is r st ∧ n - st.b.toNat < n - b) (b = n) := fun hk => by
   unfold r8nst1
   refine bif_of t1 (bif_of (and_t t2 rfl) (bif_of (and_t (ble_of ok.1) (and_t (by rw [ok.2]; exact Nat.beq_refl _) (and_t (ble_of hsm) rfl))) fun cap' rest hr => bif_of hI ?_))
   obtain ⟨k1, k2⟩ := snoc_pl l2 len2 _ rest cap' (by have := ok.2; have := ok.1; omega) hr
   exact ⟨⟨⟨k1, fun len' cap'' l' e => by cases e; have e1 : (one (gR lf b)).length = 1 := rfl; show len2 + (one (gR lf b)).length ≠ 0; omega, ⟨b + 1, by show (b : Int) + 1 = _; omega, by omega, by rw [kpL_yes hk, ← hac]; exact k2⟩⟩, hmu⟩, eqA_of (Od.r _).symm (Od.wn (Nat.le_add_left 3 5)) (eqA_of (Oo.r _).symm (Oo.wn (Nat.le_add_left 3 5)) ⟨rfl, rfl, rfl, rfl, rfl, rfl, rfl, rfl, rfl, rfl, ⟨rfl, (Od.rc _).symm⟩, bif_of (Od.ww _ _) ⟨⟨rfl, (Oc.rc _).symm⟩, bif_of (Oc.ww _ _) ⟨⟨rfl, (Oo.rc _).symm⟩, bif_of (Oo.ww _ _) ⟨⟨rfl, rfl⟩, ⟨rfl, rfl⟩, ⟨rfl, rfl⟩, ⟨rfl, rfl⟩, ⟨rfl, rfl⟩, trivial⟩⟩⟩⟩)⟩
  have drop : kpB lf i0 tw is r b = false → r8nst2 xd xo eD eC eO s n cap lf r k i0 tw is b len2 cap2 l2 (fun st => P8 lf n i0 tw is r st ∧ n - st.b.toNat < n - b) (b = n) := fun hk => by
   unfold r8nst2
   refine bif_of hI ?_
   exact ⟨⟨⟨ok, pos, ⟨b + 1, by show (b : Int) + 1 = _; omega, by omega, by rw [kpL_no hk]; exact hac⟩⟩, hmu⟩, eqA_of (Od.r _).symm (Od.wn (Nat.le_add_left 3 5)) (eqA_of (Oo.r _).symm (Oo.wn (Nat.le_add_left 3 5)) ⟨rfl, rfl, rfl, rfl, rfl, rfl, rfl, rfl, rfl, rfl, ⟨rfl, (Od.rc _).symm⟩, bif_of (Od.ww _ _) ⟨⟨rfl, (Oc.rc _).symm⟩, bif_of (Oc.ww _ _) ⟨⟨rfl, (Oo.rc _).symm⟩, bif_of (Oo.ww _ _) ⟨⟨rfl, rfl⟩, ⟨rfl, rfl⟩, ⟨rfl, rfl⟩, ⟨rfl, rfl⟩, ⟨rfl, rfl⟩, trivial⟩⟩⟩⟩)⟩
  refine bif_t rfl ?_
  cases his : is
  ·subst his
   refine bif_f rfl ?_
   unfold r8nst3
   refine bif_t rfl ?_
   cases h1 : ((b : Int) != i0)
   ·refine bif_f rfl ?_
    cases htw : tw
    ·subst htw
     exact bif_f rfl (drop (by show (bif ((b : Nat) : Int) != i0 then true else false) = false; rw [h1]; rfl))
    ·subst htw
     exact bif_t rfl (keep (by show (bif ((b : Nat) : Int) != i0 then true else true) = true; rw [h1]; rfl))
   ·exact bif_t rfl (keep (by show (bif ((b : Nat) : Int) != i0 then true else tw) = true; rw [h1]; rfl))
  ·subst his
   refine bif_t rfl (bif_of t1 (bif_of t2 ?_))
   cases h1 : ((gR lf b).snd.snd.snd.snd.fst != r.snd.snd.snd.snd.fst)
   ·refine bif_f rfl ?_
    unfold r8nst3
    exact bif_f rfl (drop h1)
   ·exact bif_t rfl (keep h1)
theorem round8sn (xd xc xo : SV) (eD eC eO : Ent) (s : Sv) (n cap : Nat) (lf : List Pr) (r : Pv) (len1 cap1 : Nat) (l1 : List Pr) (k i0 : Int) (tw is : Bool) (b : Nat) (hl : n ≤ lf.length) (hn : n ≤ 1000) (Od : Opq xd eD) (Oc : Opq xc eC) (Oo : Opq xo eO) (hp : P8 lf n i0 tw is r ⟨none, (b : Nat)⟩) :
  frK 274 (i8 xd xo (some (len1, cap1, l1)) (some (n, cap, lf)) k i0 tw is ⟨none, (b : Nat)⟩) fun fr => vround Try.prog E6w noL 6 8 fr (m8 eD eC eO s (some (len1, cap1, l1)) (some (n, cap, lf)) r none) (Kp (mB eD eC eO) 8 274 (sel8 [7]) (fun st => P8 lf n i0 tw is r st ∧ n - st.b.toNat < n - b) (i8 xd xo (some (len1, cap1, l1)) (some (n, cap, lf)) k i0 tw is) (fun st => m8 eD eC eO s (some (len1, cap1, l1)) (some (n, cap, lf)) r st.l) (b = n) (o8 xd xo (some (len1, cap1, l1)) k none) (m8 eD eC eO s (some (len1, cap1, l1)) (some (n, cap, lf)) r none)) := by
 refine of_eq (r8sn xd xo eD eC eO s n cap lf r len1 cap1 l1 k i0 tw is b _ _) ?_
 obtain ⟨ok, pos, b', hb', hbn, hac⟩ := hp
 have hb' : (b : Int) = (b' : Nat) := hb'
 obtain rfl : b = b' := by omega
 cases hc : ilt (b : Int) (n : Int)
 ·have := of_nilt hc
  exact ⟨rfl, by omega, eqA_of rfl (Od.wn (Nat.le_add_left 3 5)) (eqA_of rfl (Oo.wn (Nat.le_add_left 3 5)) ⟨rfl, rfl, rfl, rfl, ⟨rfl, rfl⟩, bif_of (Od.wc _) ⟨⟨rfl, rfl⟩, bif_of (Oc.wc _) ⟨⟨rfl, rfl⟩, bif_of (Oo.wc _) ⟨⟨rfl, rfl⟩, ⟨rfl, rfl⟩, ⟨rfl, rfl⟩, ⟨rfl, rfl⟩, ⟨rfl, rfl⟩, trivial⟩⟩⟩⟩)⟩
 ·have hi := of_ilt hc
  have t1 : inR (b : Int) n = true := inR_iff.2 ⟨by omega, by omega⟩
  have t2 : rok 0 b 9 PF [] lf.length = true := rokP (by omega)
  have hI : inI ((b : Int) + 1) = true := inI_iff.2 (by omega)
  have hmu : n - ((b : Int) + 1).toNat < n - b := by omega
  have keep : kpB lf i0 tw is r b = true → r8snt1 xd xo eD eC eO s n cap lf r len1 cap1 l1 k i0 tw is b (fun st => P8 lf n i0 tw is r st ∧ n - st.b.toNat < n - b) (b = n) := fun hk => by
   unfold r8snt1
   refine bif_of t1 (bif_of (and_t t2 rfl) fun cap' rest hr => bif_of hI ?_)
   obtain ⟨k1, k2⟩ := first_pl _ rest cap' hr
   exact ⟨⟨⟨k1, fun len' cap'' l' e => by cases e; have e1 : (one (gR lf b)).length = 1 := rfl; show (one (gR lf b)).length ≠ 0; omega, ⟨b + 1, by show (b : Int) + 1 = _; omega, by omega, by rw [kpL_yes hk, ← hac]; exact k2⟩⟩, hmu⟩, eqA_of (Od.r _).symm (Od.wn (Nat.le_add_left 3 6)) (eqA_of (Oo.r _).symm (Oo.wn (Nat.le_add_left 3 6)) ⟨rfl, rfl, rfl, rfl, rfl, rfl, rfl, rfl, rfl, rfl, ⟨rfl, (Od.rc _).symm⟩, bif_of (Od.ww _ _) ⟨⟨rfl, (Oc.rc _).symm⟩, bif_of (Oc.ww _ _) ⟨⟨rfl, (Oo.rc _).symm⟩, bif_of (Oo.ww _ _) ⟨⟨rfl, rfl⟩, ⟨rfl, rfl⟩, ⟨rfl, rfl⟩, ⟨rfl, rfl⟩, ⟨rfl, rfl⟩, ⟨rfl, rfl⟩, trivial⟩⟩⟩⟩)⟩
  have drop : kpB lf i0 tw is r b = false → r8snt2 xd xo eD eC eO s n cap lf r len1 cap1 l1 k i0 tw is b (fun st => P8 lf n i0 tw is r st ∧ n - st.b.toNat < n - b) (b = n) := fun hk => by
   unfold r8snt2
   refine bif_of hI ?_
   exact ⟨⟨⟨ok, pos, ⟨b + 1, by show (b : Int) + 1 = _; omega, by omega, by rw [kpL_no hk]; exact hac⟩⟩, hmu⟩, eqA_of (Od.r _).symm (Od.wn (Nat.le_add_left 3 5)) (eqA_of (Oo.r _).symm (Oo.wn (Nat.le_add_left 3 5)) ⟨rfl, rfl, rfl, rfl, rfl, rfl, rfl, rfl, rfl, rfl, ⟨rfl, (Od.rc _).symm⟩, bif_of (Od.ww _ _) ⟨⟨rfl, (Oc.rc _).symm⟩, bif_of (Oc.ww _ _) ⟨⟨rfl, (Oo.rc _).symm⟩, bif_of (Oo.ww _ _) ⟨⟨rfl, rfl⟩, ⟨rfl, rfl⟩, ⟨rfl, rfl⟩, ⟨rfl, rfl⟩, ⟨rfl, rfl⟩, trivial⟩⟩⟩⟩)⟩
  refine bif_t rfl ?_
  cases his : is
  ·subst his
   refine bif_f rfl ?_
   unfold r8snt3
   refine bif_t rfl ?_
   cases h1 : ((b : Int) != i0)
   ·refine bif_f rfl ?_
    cases htw : tw
    ·subst htw
     exact bif_f rfl (drop (by show (bif ((b : Nat) : Int) != i0 then true else false) = false; rw [h1]; rfl))
    ·subst htw
     exact bif_t rfl (keep (by show (bif ((b : Nat) : Int) != i0 then true else true) = true; rw [h1]; rfl))
   ·exact bif_t rfl (keep (by show (bif ((b : Nat) : Int) != i0 then true else tw) = true; rw [h1]; rfl))
  ·subst his
   refine bif_t rfl (bif_of t1 (bif_of t2 ?_))
   cases h1 : ((gR lf b).snd.snd.snd.snd.fst != r.snd.snd.snd.snd.fst)
   ·refine bif_f rfl ?_
    unfold r8snt3
    exact bif_f rfl (drop h1)
   ·exact bif_t rfl (keep h1)
theorem round8ss (xd xc xo : SV) (eD eC eO : Ent) (s : Sv) (n cap : Nat) (lf : List Pr) (r : Pv) (len1 cap1 : Nat) (l1 : List Pr) (k i0 : Int) (tw is : Bool) (b : Nat) (len2 cap2 : Nat) (l2 : List Pr) (hl : n ≤ lf.length) (hn : n ≤ 1000) (Od : Opq xd eD) (Oc : Opq xc eC) (Oo : Opq xo eO) (hp : P8 lf n i0 tw is r ⟨(some (len2, cap2, l2)), (b : Nat)⟩) :
  frK 274 (i8 xd xo (some (len1, cap1, l1)) (some (n, cap, lf)) k i0 tw is ⟨(some (len2, cap2, l2)), (b : Nat)⟩) fun fr => vround Try.prog E6w noL 6 8 fr (m8 eD eC eO s (some (len1, cap1, l1)) (some (n, cap, lf)) r (some (len2, cap2, l2))) (Kp (mB eD eC eO) 8 274 (sel8 [7]) (fun st => P8 lf n i0 tw is r st ∧ n - st.b.toNat < n - b) (i8 xd xo (some (len1, cap1, l1)) (some (n, cap, lf)) k i0 tw is) (fun st => m8 eD eC eO s (some (len1, cap1, l1)) (some (n, cap, lf)) r st.l) (b = n) (o8 xd xo (some (len1, cap1, l1)) k (some (len2, cap2, l2))) (m8 eD eC eO s (some (len1, cap1, l1)) (some (n, cap, lf)) r (some (len2, cap2, l2)))) := by
 refine of_eq (r8ss xd xo eD eC eO s n cap lf r len1 cap1 l1 k i0 tw is b len2 cap2 l2 _ _) ?_
 obtain ⟨ok, pos, b', hb', hbn, hac⟩ := hp
 have hb' : (b : Int) = (b' : Nat) := hb'
 obtain rfl : b = b' := by omega
 cases hc : ilt (b : Int) (n : Int)
 ·have := of_nilt hc
  exact ⟨rfl, by omega, eqA_of rfl (Od.wn (Nat.le_add_left 3 6)) (eqA_of rfl (Oo.wn (Nat.le_add_left 3 6)) ⟨rfl, rfl, rfl, rfl, ⟨rfl, rfl⟩, bif_of (Od.wc _) ⟨⟨rfl, rfl⟩, bif_of (Oc.wc _) ⟨⟨rfl, rfl⟩, bif_of (Oo.wc _) ⟨⟨rfl, rfl⟩, ⟨rfl, rfl⟩, ⟨rfl, rfl⟩, ⟨rfl, rfl⟩, ⟨rfl, rfl⟩, ⟨rfl, rfl⟩, trivial⟩⟩⟩⟩)⟩
 ·have hi := of_ilt hc
  have t1 : inR (b : Int) n = true := inR_iff.2 ⟨by omega, by omega⟩
  have t2 : rok 0 b 9 PF [] lf.length = true := rokP (by omega)
  have hI : inI ((b : Int) + 1) = true := inI_iff.2 (by omega)
  have hmu : n - ((b : Int) + 1).toNat < n - b := by omega
  have hsm : len2 + (one (gR lf b)).length ≤ 33554432 := by
   have e1 : (one (gR lf b)).length = 1 := rfl
   have e2 : (acP (some (len2, cap2, l2))).length = len2 := by
    show (l2.take len2).length = len2
    rw [List.length_take]; have := ok.1; have := ok.2; omega
   have e3 := kpL_len lf i0 tw is r b
   rw [← hac, e2] at e3
   omega
  have keep : kpB lf i0 tw is r b = true → r8sst1 xd xo eD eC eO s n cap lf r len1 cap1 l1 k i0 tw is b len2 cap2 l2 (fun st => P8 lf n i0 tw is r st ∧ n - st.b.toNat < n - b) (b = n) := fun hk => by
   unfold r8sst1
   refine bif_of t1 (bif_of (and_t t2 rfl) (bif_of (and_t (ble_of ok.1) (and_t (by rw [ok.2]; exact Nat.beq_refl _) (and_t (ble_of hsm) rfl))) fun cap' rest hr => bif_of hI ?_))
   obtain ⟨k1, k2⟩ := snoc_pl l2 len2 _ rest cap' (by have := ok.2; have := ok.1; omega) hr
   exact ⟨⟨⟨k1, fun len' cap'' l' e => by cases e; have e1 : (one (gR lf b)).length = 1 := rfl; show len2 + (one (gR lf b)).length ≠ 0; omega, ⟨b + 1, by show (b : Int) + 1 = _; omega, by omega, by rw [kpL_yes hk, ← hac]; exact k2⟩⟩, hmu⟩, eqA_of (Od.r _).symm (Od.wn (Nat.le_add_left 3 6)) (eqA_of (Oo.r _).symm (Oo.wn (Nat.le_add_left 3 6)) ⟨rfl, rfl, rfl, rfl, rfl, rfl, rfl, rfl, rfl, rfl, ⟨rfl, (Od.rc _).symm⟩, bif_of (Od.ww _ _) ⟨⟨rfl, (Oc.rc _).symm⟩, bif_of (Oc.ww _ _) ⟨⟨rfl, (Oo.rc _).symm⟩, bif_of (Oo.ww _ _) ⟨⟨rfl, rfl⟩, ⟨rfl, rfl⟩, ⟨rfl, rfl⟩, ⟨rfl, rfl⟩, ⟨rfl, rfl⟩, ⟨rfl, rfl⟩, trivial⟩⟩⟩⟩)⟩
  have drop : kpB lf i0 tw is r b = false → r8sst2 xd xo eD eC eO s n cap lf r len1 cap1 l1 k i0 tw is b len2 cap2 l2 (fun st => P8 lf n i0 tw is r st ∧ n - st.b.toNat < n - b) (b = n) := fun hk => by
   unfold r8sst2
   refine bif_of hI ?_
   exact ⟨⟨⟨ok, pos, ⟨b + 1, by show (b : Int) + 1 = _; omega, by omega, by rw [kpL_no hk]; exact hac⟩⟩, hmu⟩, eqA_of (Od.r _).symm (Od.wn (Nat.le_add_left 3 6)) (eqA_of (Oo.r _).symm (Oo.wn (Nat.le_add_left 3 6)) ⟨rfl, rfl, rfl, rfl, rfl, rfl, rfl, rfl, rfl, rfl, ⟨rfl, (Od.rc _).symm⟩, bif_of (Od.ww _ _) ⟨⟨rfl, (Oc.rc _).symm⟩, bif_of (Oc.ww _ _) ⟨⟨rfl, (Oo.rc _).symm⟩, bif_of (Oo.ww _ _) ⟨⟨rfl, rfl⟩, ⟨rfl, rfl⟩, ⟨rfl, rfl⟩, ⟨rfl, rfl⟩, ⟨rfl, rfl⟩, ⟨rfl, rfl⟩, trivial⟩⟩⟩⟩)⟩
  refine bif_t rfl ?_
  cases his : is
  ·subst his
   refine bif_f rfl ?_
   unfold r8sst3
   refine bif_t rfl ?_
   cases h1 : ((b : Int) != i0)
   ·refine bif_f rfl ?_
    cases htw : tw
    ·subst htw
     exact bif_f rfl (drop (by show (bif ((b : Nat) : Int) != i0 then true else false) = false; rw [h1]; rfl))
    ·subst htw
     exact bif_t rfl (keep (by show (bif ((b : Nat) : Int) != i0 then true else true) = true; rw [h1]; rfl))
   ·exact bif_t rfl (keep (by show (bif ((b : Nat) : Int) != i0 then true else tw) = true; rw [h1]; rfl))
  ·subst his
   refine bif_t rfl (bif_of t1 (bif_of t2 ?_))
   cases h1 : ((gR lf b).snd.snd.snd.snd.fst != r.snd.snd.snd.snd.fst)
   ·refine bif_f rfl ?_
    unfold r8sst3
    exact bif_f rfl (drop h1)
   ·exact bif_t rfl (keep h1)
theorem loop8 (xd xc xo : SV) (eD eC eO : Ent) (Od : Opq xd eD) (Oc : Opq xc eC) (Oo : Opq xo eO) : LOk Try.prog G (mB eD eC eO) 6 (L8 eD eC eO xd xo) := by
 refine LT.add_ok (noL_ok _ _ _ _) fun fr M K hh => ?_
 unfold v8L at hh
 split at hh
 ·rename_i t rt n cap lf rl r kp s k i0 tw is _ _ _ _ _ _ _ _
  obtain ⟨-, hh⟩ := hh
  obtain ⟨hle, ⟨hl, hn⟩, hN, hS⟩ := vLeR_ok hh
  have hs : ∀ (st : S8) (hp : P8 lf n i0 tw is r st) (hq : st.b = (n : Nat)), K .normal (mkF 274 (o8 xd xo t k st.l)) (m8 eD eC eO s t (some (n, cap, lf)) r st.l) := fun st hp hq => by
   obtain ⟨l, b⟩ := st
   obtain ⟨ok, pos, b', hb', hbn, hac⟩ := hp
   have hb' : b = (b' : Nat) := hb'
   have hq : b = (n : Nat) := hq
   obtain rfl : b' = n := by omega
   cases l with
   | none =>
    have := hN hac.symm
    rw [frK_eq] at this
    exact this
   | some x =>
    obtain ⟨len', cap', l'⟩ := x
    have := hS len' cap' l' ok (pos _ _ _ rfl) hac
    rw [frK_eq] at this
    exact this
  cases t with
  | none =>
   refine Wp.leR (Nat.zero_le _) hle (loop_pick e6w_ok mixed (Nat.zero_le _) (by kernel_rfl) (i8 xd xo none (some (n, cap, lf)) k i0 tw is) (fun st => m8 eD eC eO s none (some (n, cap, lf)) r st.l) (P8 lf n i0 tw is r) (fun st => n - st.b.toNat) (fun _ => sel8 []) (fun st => st.b = (n : Nat)) (fun st => o8 xd xo none k st.l) (fun st => m8 eD eC eO s none (some (n, cap, lf)) r st.l) ⟨none, 0⟩ ⟨trivial, (fun _ _ _ e => by cases e), 0, rfl, Nat.zero_le _, rfl⟩ (fun _ => noL) (fun _ _ => noL_ok _ _ _ _) (fun st hp => ?_) hle.self hs)
   obtain ⟨l, b⟩ := st
   obtain ⟨b', hb', -, -⟩ := hp.run
   have hb' : b = (b' : Nat) := hb'
   subst hb'
   rw [show (((b' : Nat) : Int) = (n : Nat)) = (b' = n) from propext ⟨fun q => by omega, fun q => by omega⟩]
   match l, hp with
   | none, hp => exact round8nn xd xc xo eD eC eO s n cap lf r k i0 tw is b' hl hn Od Oc Oo hp
   | some (len2, cap2, l2), hp => exact round8ns xd xc xo eD eC eO s n cap lf r k i0 tw is b' len2 cap2 l2 hl hn Od Oc Oo hp
  | some x =>
   obtain ⟨len1, cap1, l1⟩ := x
   refine Wp.leR (Nat.zero_le _) hle (loop_pick e6w_ok mixed (Nat.zero_le _) (by kernel_rfl) (i8 xd xo (some (len1, cap1, l1)) (some (n, cap, lf)) k i0 tw is) (fun st => m8 eD eC eO s (some (len1, cap1, l1)) (some (n, cap, lf)) r st.l) (P8 lf n i0 tw is r) (fun st => n - st.b.toNat) (fun _ => sel8 [7]) (fun st => st.b = (n : Nat)) (fun st => o8 xd xo (some (len1, cap1, l1)) k st.l) (fun st => m8 eD eC eO s (some (len1, cap1, l1)) (some (n, cap, lf)) r st.l) ⟨none, 0⟩ ⟨trivial, (fun _ _ _ e => by cases e), 0, rfl, Nat.zero_le _, rfl⟩ (fun _ => noL) (fun _ _ => noL_ok _ _ _ _) (fun st hp => ?_) hle.self hs)
   obtain ⟨l, b⟩ := st
   obtain ⟨b', hb', -, -⟩ := hp.run
   have hb' : b = (b' : Nat) := hb'
   subst hb'
   rw [show (((b' : Nat) : Int) = (n : Nat)) = (b' = n) from propext ⟨fun q => by omega, fun q => by omega⟩]
   match l, hp with
   | none, hp => exact round8sn xd xc xo eD eC eO s n cap lf r len1 cap1 l1 k i0 tw is b' hl hn Od Oc Oo hp
   | some (len2, cap2, l2), hp => exact round8ss xd xc xo eD eC eO s n cap lf r len1 cap1 l1 k i0 tw is b' len2 cap2 l2 hl hn Od Oc Oo hp
 ·exact hh.elim
end Go.Proofs.Ytggoncamiafclaa
