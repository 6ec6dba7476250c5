/-
  ip: the law IpWhole: its loops. No statement is proved here.
-/
import Derived.Test.YtggoncamiafclaaJqH
import Derived.Test.YtggoncamiafclaaJqI
import Derived.Test.YtggoncamiafclaaJqJ
namespace Go.Proofs.Ytggoncamiafclaa
open Go.RowKit
set_option linter.unusedVariables false
set_option linter.unusedSimpArgs false
set_option maxRecDepth 100000
theorem leK_mk {n : Nat} {K : Prop} (hK : K) : ∀ (fr fr' : List SV), fr'.length = fr.length → (∀ (t : Nat) (x : SV), fr'[t]? = some x → x = .any ∨ (fr[t]? = some x ∧ x.wf n = true)) → leK n fr fr' K
 | [], [], _, _ => hK
 | x :: l, y :: m, h1, h2 => by
  have ih := leK_mk hK l m (by simpa using h1) (fun t z hz => h2 (t + 1) z hz)
  show eqA n x y y (leK n l m K)
  rcases h2 0 y rfl with q | ⟨q1, q2⟩
  ·exact eqA_iff.2 (.inl ⟨q, ih⟩)
  ·exact eqA_of (Option.some.inj q1) q2 ih
 | [], _ :: _, h1, _ => by simp at h1
 | _ :: _, [], h1, _ => by simp at h1
theorem preK_mk {n : Nat} {K : Prop} (hK : K) : ∀ (M M' X : Mm), M = M' ++ X → (∀ (k : Nat) (e : Ent), M'[k]? = some e → e.c.wf n = true) → preK n M M' K
 | M, [], _, _, _ => by cases M <;> exact hK
 | [], y :: m, X, h, _ => by simp at h
 | x :: l, y :: m, X, h, hw => by
  rw [List.cons_append] at h
  obtain ⟨h1, h2⟩ := List.cons.inj h
  obtain ⟨a, c⟩ := x
  obtain ⟨b, d⟩ := y
  cases h1
  exact ⟨⟨rfl, rfl⟩, vsome_iff.2 ⟨hw 0 _ rfl, preK_mk hK l m X h2 (fun k e he => hw (k + 1) e he)⟩⟩
theorem vLe_mk {B : Mm} {fr : List SV} {M : Mm} {n : Nat} {i0 : List (Nat × SV)} {M0 : Mm} {K : Prop} (h : Le B fr M (mkF n i0) M0) (hK : K) : vLe B fr M n i0 M0 K := by
 obtain ⟨X, hX⟩ := h.mem
 refine vsome_iff.2 ⟨Nat.ble_eq_true_of_le h.base, ?_⟩
 rw [frK_eq]
 exact leK_mk (preK_mk hK M M0 X hX h.wf) _ _ h.len h.at'
theorem vLoop_mk {B : Mm} {n : Nat} {i0 : List (Nat × SV)} {M0 : Mm} {o : List (Nat × SV)} {M1 : Mm} {fr : List SV} {M : Mm} {K : Ko} (h : Le B fr M (mkF n i0) M0) (hK : frK n o fun fr1 => K .normal fr1 M1) : vLoop B n i0 M0 o M1 fr M K := vLe_mk h hK
def nBy (d : Dt) : Nat → Int
 | 0 => 0
 | i + 1 => IntKind.i64.wrap (nBy d i + dln d i)
theorem nBy_ok {d : Dt} (hw : ∀ i, i < d.n → (dat d i).length ≤ 140737488355328) : ∀ i, i ≤ 8 → i ≤ d.n → 0 ≤ nBy d i ∧ nBy d i ≤ (i : Nat) * 140737488355328 ∧ ∀ j, j < i → ((dat d j).length : Int) ≤ nBy d i
 | 0, _, _ => ⟨Int.le_refl _, Int.le_refl _, fun j hj => absurd hj (Nat.not_lt_zero _)⟩
 | i + 1, h8, hn => by
  obtain ⟨h1, h2, h3⟩ := nBy_ok hw i (by omega) (by omega)
  have h4 := hw i (by omega)
  have e : nBy d (i + 1) = nBy d i + dln d i := by
   show IntKind.i64.wrap _ = _
   exact wrapI (inI_iff.2 (by unfold dln; omega))
  rw [e]
  unfold dln
  refine ⟨by omega, by omega, fun j hj => ?_⟩
  rcases Nat.lt_or_ge j i with q | q
  ·have := h3 j q; omega
  ·obtain rfl : j = i := by omega
   omega
theorem loop0 (d : Dt) (xc xo : SV) (eC eO : Ent) (hn : d.n ≤ 140737488355328) (hl : d.n ≤ d.l.length) (Oc : Opq xc eC) (Oo : Opq xo eO) : ∀ fr M K, vLoop (mB d.e eC eO) 274 (i0w d.x xc xo 0 0) (mB d.e eC eO) (o0w d.x xc xo (nBy d d.n)) (mB d.e eC eO) fr M K → Wp Try.prog G (mB d.e eC eO) (loopOf Try.prog 6 0) fr M K := by
 refine loop_next e0a_ok mixed (noL_ok _ _ _ _) (Nat.zero_le _) (by kernel_rfl) (fun i => i0w d.x xc xo (nBy d i) i) (fun _ => mB d.e eC eO) (fun i => i ≤ d.n) (fun i => d.n - i) (fun i => i + 1) 0 (Nat.zero_le _) (fun i hp => of_eq (r0w d xc xo eC eO i _ _ _ _) ?_)
 cases hc : ilt (i : Int) (d.n : Int)
 ·have := of_nilt hc
  exact ⟨rfl, rfl, eqA_of rfl (Oc.wn (Nat.le_refl 3)) (eqA_of rfl (Oo.wn (Nat.le_refl 3)) ⟨congrArg (fun m => SV.i (nBy d m)) (by omega), ⟨rfl, rfl⟩, ⟨rfl, rfl⟩, bif_of (Oc.wc _) ⟨⟨rfl, rfl⟩, bif_of (Oo.wc _) trivial⟩⟩)⟩
 ·have hi := of_ilt hc
  refine bif_t rfl (bif_of (inR_iff.2 ⟨by omega, by omega⟩) (bif_of (rok1 _ rfl (by omega)) ?_))
  exact ⟨⟨hi, by show d.n - (i + 1) < d.n - i; omega⟩, rfl, eqA_of rfl (Oc.wn (Nat.le_refl 3)) (eqA_of rfl (Oo.wn (Nat.le_refl 3)) ⟨rfl, congrArg SV.i (wrapI (inI_iff.2 (by omega))), ⟨rfl, rfl⟩, ⟨rfl, rfl⟩, bif_of (Oc.wc _) ⟨⟨rfl, rfl⟩, bif_of (Oo.wc _) trivial⟩⟩)⟩
theorem loop0z (a : Option Addr) (k : Nat) (xc xo : SV) (eC eO : Ent) (Oc : Opq xc eC) (Oo : Opq xo eO) : ∀ fr M K, vLoop (mB zE eC eO) 274 (i0w (.v (.slice a 0 k)) xc xo 0 0) (mB zE eC eO) (o0w (.v (.slice a 0 k)) xc xo 0) (mB zE eC eO) fr M K → Wp Try.prog G (mB zE eC eO) (loopOf Try.prog 6 0) fr M K :=
 loop_next e6w_ok mixed (noL_ok _ _ _ _) (Nat.zero_le _) (by kernel_rfl) (fun _ : Nat => i0w (.v (.slice a 0 k)) xc xo 0 0) (fun _ => mB zE eC eO) (fun _ => True) (fun _ => 0) (fun i => i) 0 trivial (fun i hp => of_eq (r0z a k xc xo eC eO _) ⟨rfl, rfl, eqA_of rfl (Oc.wn (Nat.le_refl 3)) (eqA_of rfl (Oo.wn (Nat.le_refl 3)) ⟨rfl, ⟨rfl, rfl⟩, ⟨rfl, rfl⟩, bif_of (Oc.wc _) ⟨⟨rfl, rfl⟩, bif_of (Oo.wc _) trivial⟩⟩)⟩)
def Q2w (d : Dt) (nC : Nat) (L : List Pr) : Prop := AllC d d.n L ∧ (L.length : Int) ≤ (nC : Nat) + (d.n : Nat)
theorem loop2z (d : Dt) (aC : Option Addr) (kC : Nat) (xo : SV) (eO : Ent) (H : HD d) (O : Opq xo eO) : ∀ fr M K, v2L d.e zE eO d.x (.v (.slice aC 0 kC)) xo (Q2w d 0) fr M K → Wp Try.prog G (mB d.e zE eO) (loopOf Try.prog 6 2) fr M K := by
 intro fr M K hh
 obtain ⟨-, hh⟩ := hh
 obtain ⟨hle, hN, hS⟩ := vLe_ok hh
 refine loop_pick e6w_ok mixed (Nat.zero_le _) (by kernel_rfl) (i2 d.x (.v (.slice aC 0 kC)) xo) (fun st => mP d.e zE eO st.p) (P2w d 0) (fun st => d.n - st.i) (fun st => sel2 st.i) (fun st => st.i = d.n) (fun st => o2 d.x xo st.p) (fun st => mP d.e zE eO st.p) ⟨0, none, 0⟩ ⟨Nat.zero_le _, trivial, ⟨fun _ => [], fun j hj => absurd hj (Nat.not_lt_zero _), rfl⟩, rfl, by show (0 : Int) ≤ (0 : Nat) + ((0 : Nat) : Int); omega⟩ (fun st => L4 d.e zE eO d.x (.v (.slice aC 0 kC)) xo st.i (X4 d 0 st.i) (Q4 d 0 st.i)) (fun st hp => loop4z d aC kC xo eO st.i H O) (fun st hp => ?_) hle (fun st hp hq => ?_)
 ·obtain ⟨i, p, c⟩ := st
  match p, hp with
  | none, hp => exact round2zn d aC kC xo eO i c H O hp
  | some (len, cap, l), hp => exact round2zs d aC kC xo eO i len cap l c H O hp
 ·obtain ⟨i, p, c⟩ := st
  have hq : i = d.n := hq
  subst hq
  obtain ⟨h1, h2, h3, h4, h5⟩ := hp
  have hQ : Q2w d 0 (acP p) := ⟨h3, by rw [show ((acP p).length : Int) = c from h4]; exact h5⟩
  match p, h2, hQ with
  | none, h2, hQ =>
   have := hN hQ
   rw [frK_eq] at this
   exact this
  | some (len, cap, l), h2, hQ =>
   have := hS len cap l h2 hQ
   rw [frK_eq] at this
   exact this
theorem loop2r (d : Dt) (e : Ct) (xo : SV) (eO : Ent) (H : HD d) (hE : e.n ≤ e.l.length) (hE6 : e.n ≤ 60) (O : Opq xo eO) : ∀ fr M K, v2L d.e e.e eO d.x e.x xo (Q2w d e.n) fr M K → Wp Try.prog G (mB d.e e.e eO) (loopOf Try.prog 6 2) fr M K := by
 intro fr M K hh
 obtain ⟨-, hh⟩ := hh
 obtain ⟨hle, hN, hS⟩ := vLe_ok hh
 refine loop_pick e6w_ok mixed (Nat.zero_le _) (by kernel_rfl) (i2 d.x e.x xo) (fun st => mP d.e e.e eO st.p) (P2w d e.n) (fun st => d.n - st.i) (fun st => sel2 st.i) (fun st => st.i = d.n) (fun st => o2 d.x xo st.p) (fun st => mP d.e e.e eO st.p) ⟨0, none, 0⟩ ⟨Nat.zero_le _, trivial, ⟨fun _ => [], fun j hj => absurd hj (Nat.not_lt_zero _), rfl⟩, rfl, by show (0 : Int) ≤ (e.n : Nat) + ((0 : Nat) : Int); omega⟩ (fun st => L4 d.e e.e eO d.x e.x xo st.i (X4 d e.n st.i) (Q4 d e.n st.i)) (fun st hp => loop4r d e xo eO st.i H hE hE6 O) (fun st hp => ?_) hle (fun st hp hq => ?_)
 ·obtain ⟨i, p, c⟩ := st
  match p, hp with
  | none, hp => exact round2rn d e xo eO i c H O hp
  | some (len, cap, l), hp => exact round2rs d e xo eO i len cap l c H O hp
 ·obtain ⟨i, p, c⟩ := st
  have hq : i = d.n := hq
  subst hq
  obtain ⟨h1, h2, h3, h4, h5⟩ := hp
  have hQ : Q2w d e.n (acP p) := ⟨h3, by rw [show ((acP p).length : Int) = c from h4]; exact h5⟩
  match p, h2, hQ with
  | none, h2, hQ =>
   have := hN hQ
   rw [frK_eq] at this
   exact this
  | some (len, cap, l), h2, hQ =>
   have := hS len cap l h2 hQ
   rw [frK_eq] at this
   exact this
theorem loop2o (a : Option Addr) (k : Nat) (xc xo : SV) (eC eO : Ent) (Oc : Opq xc eC) (Oo : Opq xo eO) : ∀ fr M K, v2L zE eC eO (.v (.slice a 0 k)) xc xo (fun L => L = []) fr M K → Wp Try.prog G (mB zE eC eO) (loopOf Try.prog 6 2) fr M K := by
 intro fr M K hh
 obtain ⟨-, hh⟩ := hh
 obtain ⟨hle, hN, -⟩ := vLe_ok hh
 exact loop_next e6w_ok mixed (noL_ok _ _ _ _) (Nat.zero_le _) (by kernel_rfl) (fun _ : Nat => i2 (.v (.slice a 0 k)) xc xo ⟨0, none, 0⟩) (fun _ => mP zE eC eO none) (fun _ => True) (fun _ => 0) (fun i => i) 0 trivial (fun i hp => of_eq (r2o a k xc xo eC eO _) ⟨rfl, rfl, eqA_of rfl (Oo.wn (Nat.le_refl 3)) ⟨rfl, ⟨rfl, rfl⟩, ⟨rfl, rfl⟩, bif_of (Oc.wc _) ⟨⟨rfl, rfl⟩, bif_of (Oo.wc _) trivial⟩⟩⟩) fr M K (vLoop_mk hle (hN rfl))
def X6w (d : Dt) (nO : Nat) (s : Sv) (lf : Option Pl) : Prop := ∃ F : Nat → List Cz, Cuts d F ∧ P6w d F nO ⟨s, lf, none, 0⟩
def Told (d : Dt) (L : List Pr) : Prop := ∃ T : List Nat, T.Nodup ∧ (∀ i, i ∈ T ↔ i < d.n ∧ dat d i ≠ []) ∧ L = T.map (tR d)
def Q6w (d : Dt) (s : Sv) (L : List Pr) : Prop := s.es = [] ∧ Told d L
def q6w (st : S6w) : Prop := match st.lf with
 | none => True
 | some _ => False
def O6w (xd : SV) (st : S6w) : List (Nat × SV) := match st.lf with
 | none => o6 xd st.td
 | some _ => []
def N6w (eD eC eO : Ent) (st : S6w) : Mm := match st.lf with
 | none => m6 eD eC eO st
 | some _ => mB eD eC eO
def L6w (eD eC eO : Ent) (xd xo : SV) (st : S6w) : LT := match st.lf with
 | none => noL
 | some _ => L8 eD eC eO xd xo
theorem loop6z (xd xc : SV) (aO : Option Addr) (kO : Nat) (eD eC : Ent) (d : Dt) (Od : Opq xd eD) (Oc : Opq xc eC) : ∀ fr M K, v6L eD eC zE xd (.v (.slice aO 0 kO)) (X6w d 0) (Q6w d) fr M K → Wp Try.prog G (mB eD eC zE) (loopOf Try.prog 6 6) fr M K := by
 intro fr M K hh
 unfold v6L at hh
 split at hh
 ·rename_i s0 k3 j0 lf0 rl0 _ _
  obtain ⟨-, hh⟩ := hh
  obtain ⟨hle, ⟨F, hC, hX⟩, hN, hS⟩ := vLeR_ok hh
  refine Wp.leR (Nat.zero_le _) hle (loop_pick e6w_ok mixed (Nat.zero_le _) (by kernel_rfl) (i6 xd (.v (.slice aO 0 kO))) (m6 eD eC zE) (P6w d F 0) (fun st => 400 - st.k.toNat) (fun _ => sel6) q6w (O6w xd) (N6w eD eC zE) ⟨s0, lf0, none, 0⟩ hX (L6w eD eC zE xd (.v (.slice aO 0 kO))) (fun st hp => ?_) (fun st hp => ?_) hle.self (fun st hp hq => ?_))
  ·unfold L6w
   split
   ·exact noL_ok _ _ _ _
   ·exact loop8 xd xc (.v (.slice aO 0 kO)) eD eC zE Od Oc (opq_z aO kO)
  ·obtain ⟨s, lf, td, k⟩ := st
   match lf, td, hp with
   | none, none, hp => exact of_eq (r6en xd (.v (.slice aO 0 kO)) eD eC zE s k _ _) ⟨rfl, trivial, eqA_of rfl (Od.wn (Nat.le_add_left 3 2)) ⟨rfl, rfl, ⟨rfl, rfl⟩, bif_of (Od.wc _) ⟨⟨rfl, rfl⟩, bif_of (Oc.wc _) ⟨⟨rfl, rfl⟩, bif_of ((opq_z aO kO).wc _) ⟨⟨rfl, rfl⟩, ⟨rfl, rfl⟩, trivial⟩⟩⟩⟩⟩
   | none, some (len1, cap1, l1), hp => exact of_eq (r6es xd (.v (.slice aO 0 kO)) eD eC zE s len1 cap1 l1 k _ _) ⟨rfl, trivial, eqA_of rfl (Od.wn (Nat.le_add_left 3 3)) ⟨rfl, rfl, ⟨rfl, rfl⟩, bif_of (Od.wc _) ⟨⟨rfl, rfl⟩, bif_of (Oc.wc _) ⟨⟨rfl, rfl⟩, bif_of ((opq_z aO kO).wc _) ⟨⟨rfl, rfl⟩, ⟨rfl, rfl⟩, ⟨rfl, rfl⟩, trivial⟩⟩⟩⟩⟩
   | some (n, cap, lf), none, hp => exact round6zn xd xc aO kO eD eC s n cap lf k hC Od Oc hp
   | some (n, cap, lf), some (len1, cap1, l1), hp => exact round6zs xd xc aO kO eD eC s n cap lf len1 cap1 l1 k hC Od Oc hp
  ·obtain ⟨s, lf, td, k⟩ := st
   match lf, hp, hq with
   | none, hp, hq =>
    obtain ⟨-, -, okt, T, K', hk, hJ, hT, -, -⟩ := hp
    obtain ⟨g1, g2⟩ := j_end hJ hC
    have hQ : Q6w d s (acP td) := ⟨g2, T, hJ.tn, fun i => ⟨fun q => hJ.tt i q, fun q => g1 i q.1 q.2⟩, hT⟩
    match td, okt, hQ with
    | none, okt, hQ =>
     have := hN s hQ
     rw [frK_eq] at this
     exact this
    | some (len1, cap1, l1), okt, hQ =>
     have := hS s len1 cap1 l1 okt hQ
     rw [frK_eq] at this
     exact this
   | some x, hp, hq => exact hq.elim
 ·exact hh.elim
theorem loop6r (xd xc : SV) (o : Ot) (eD eC : Ent) (d : Dt) (hO : o.n ≤ o.l.length) (hO3 : o.n ≤ 300) (Od : Opq xd eD) (Oc : Opq xc eC) : ∀ fr M K, v6L eD eC o.e xd o.x (X6w d o.n) (Q6w d) fr M K → Wp Try.prog G (mB eD eC o.e) (loopOf Try.prog 6 6) fr M K := by
 intro fr M K hh
 unfold v6L at hh
 split at hh
 ·rename_i s0 k3 j0 lf0 rl0 _ _
  obtain ⟨-, hh⟩ := hh
  obtain ⟨hle, ⟨F, hC, hX⟩, hN, hS⟩ := vLeR_ok hh
  refine Wp.leR (Nat.zero_le _) hle (loop_pick e6w_ok mixed (Nat.zero_le _) (by kernel_rfl) (i6 xd o.x) (m6 eD eC o.e) (P6w d F o.n) (fun st => 400 - st.k.toNat) (fun _ => sel6) q6w (O6w xd) (N6w eD eC o.e) ⟨s0, lf0, none, 0⟩ hX (L6w eD eC o.e xd o.x) (fun st hp => ?_) (fun st hp => ?_) hle.self (fun st hp hq => ?_))
  ·unfold L6w
   split
   ·exact noL_ok _ _ _ _
   ·exact loop8 xd xc o.x eD eC o.e Od Oc (opq_o o)
  ·obtain ⟨s, lf, td, k⟩ := st
   match lf, td, hp with
   | none, none, hp => exact of_eq (r6en xd o.x eD eC o.e s k _ _) ⟨rfl, trivial, eqA_of rfl (Od.wn (Nat.le_add_left 3 2)) ⟨rfl, rfl, ⟨rfl, rfl⟩, bif_of (Od.wc _) ⟨⟨rfl, rfl⟩, bif_of (Oc.wc _) ⟨⟨rfl, rfl⟩, bif_of ((opq_o o).wc _) ⟨⟨rfl, rfl⟩, ⟨rfl, rfl⟩, trivial⟩⟩⟩⟩⟩
   | none, some (len1, cap1, l1), hp => exact of_eq (r6es xd o.x eD eC o.e s len1 cap1 l1 k _ _) ⟨rfl, trivial, eqA_of rfl (Od.wn (Nat.le_add_left 3 3)) ⟨rfl, rfl, ⟨rfl, rfl⟩, bif_of (Od.wc _) ⟨⟨rfl, rfl⟩, bif_of (Oc.wc _) ⟨⟨rfl, rfl⟩, bif_of ((opq_o o).wc _) ⟨⟨rfl, rfl⟩, ⟨rfl, rfl⟩, ⟨rfl, rfl⟩, trivial⟩⟩⟩⟩⟩
   | some (n, cap, lf), none, hp => exact round6rn xd xc o eD eC s n cap lf k hC hO hO3 Od Oc hp
   | some (n, cap, lf), some (len1, cap1, l1), hp => exact round6rs xd xc o eD eC s n cap lf len1 cap1 l1 k hC hO hO3 Od Oc hp
  ·obtain ⟨s, lf, td, k⟩ := st
   match lf, hp, hq with
   | none, hp, hq =>
    obtain ⟨-, -, okt, T, K', hk, hJ, hT, -, -⟩ := hp
    obtain ⟨g1, g2⟩ := j_end hJ hC
    have hQ : Q6w d s (acP td) := ⟨g2, T, hJ.tn, fun i => ⟨fun q => hJ.tt i q, fun q => g1 i q.1 q.2⟩, hT⟩
    match td, okt, hQ with
    | none, okt, hQ =>
     have := hN s hQ
     rw [frK_eq] at this
     exact this
    | some (len1, cap1, l1), okt, hQ =>
     have := hS s len1 cap1 l1 okt hQ
     rw [frK_eq] at this
     exact this
   | some x, hp, hq => exact hq.elim
 ·exact hh.elim
theorem eqT_tR {d : Dt} {i j : Nat} (hi : i < 8) (hj : j < 8) : eqT d i (tR d j) = decide (j = i) := by
 unfold eqT tR
 have e : ((BitVec.ofInt 16 (j : Nat)) == (BitVec.ofInt 16 (i : Nat))) = decide (j = i) := by
  rw [Bool.eq_iff_iff, beq_iff_eq, decide_eq_true_iff]
  exact ⟨fun h => id_inj hj hi h, fun h => by rw [h]⟩
 simp only [beq_self_eq_true, Bool.true_and, Bool.and_true, e]
 by_cases q : j = i
 ·subst q; simp
 ·simp [q]
theorem count_one : ∀ {T : List Nat} {i : Nat}, T.Nodup → i ∈ T → T.count i = 1
 | [], _, _, h => by cases h
 | x :: T, i, hn, h => by
  rw [List.nodup_cons] at hn
  by_cases q : x = i
  ·subst q
   rw [List.count_cons_self, List.count_eq_zero.2 hn.1]
  ·rw [List.count_cons_of_ne q]
   exact count_one hn.2 ((List.mem_cons.1 h).resolve_left (Ne.symm q))
theorem count_told {d : Dt} (h8 : d.n ≤ 8) {T : List Nat} (hn : T.Nodup) (ht : ∀ i, i ∈ T ↔ i < d.n ∧ dat d i ≠ []) {i : Nat} (hi : i < d.n) (hd : dat d i ≠ []) : (T.map (tR d)).countP (eqT d i) = 1 := by
 rw [List.countP_map]
 have e : T.countP (eqT d i ∘ tR d) = T.count i := by
  unfold List.count
  refine List.countP_congr fun j hj => ?_
  have hj8 := (ht j).1 hj
  show eqT d i (tR d j) = true ↔ (j == i) = true
  rw [eqT_tR (by omega) (by omega), decide_eq_true_iff, beq_iff_eq]
 rw [e, count_one hn ((ht i).2 ⟨hi, hd⟩)]
def wn (d : Dt) : Nat → Int
 | 0 => 0
 | i + 1 => wn d i + (bif dat d i == [] then 0 else 1)
theorem wn_b (d : Dt) : ∀ i, 0 ≤ wn d i ∧ wn d i ≤ (i : Nat)
 | 0 => ⟨Int.le_refl _, Int.le_refl _⟩
 | i + 1 => by
  have := wn_b d i
  show 0 ≤ wn d i + (bif dat d i == [] then 0 else 1) ∧ wn d i + (bif dat d i == [] then 0 else 1) ≤ _
  cases dat d i == [] <;> simp only [cond_true, cond_false] <;> omega
theorem wn_len (d : Dt) : ∀ i, wn d i = (((List.range i).filter fun j => !(dat d j == [])).length : Int)
 | 0 => rfl
 | i + 1 => by
  rw [List.range_succ, List.filter_append, List.length_append]
  show wn d i + _ = _
  rw [wn_len d i]
  cases h : dat d i == []
  ·rw [List.filter_cons_of_pos (by rw [h]; rfl)]
   simp
  ·rw [List.filter_cons_of_neg (by rw [h]; simp)]
   simp
theorem told_len {d : Dt} {L : List Pr} (h : Told d L) : (L.length : Int) = wn d d.n := by
 obtain ⟨T, hn, ht, rfl⟩ := h
 rw [wn_len, List.length_map]
 have hp : T.Perm ((List.range d.n).filter fun j => !(dat d j == [])) := (List.perm_ext_iff_of_nodup hn (List.nodup_range.sublist List.filter_sublist)).2 fun i => by
  rw [ht, List.mem_filter, List.mem_range]
  simp
 rw [hp.length_eq]
def Q12w (d : Dt) (i : Nat) (td : Option Pl) : Int := ((acP td).countP (eqT d i) : Nat)
def X12w (d : Dt) (i : Nat) (td : Option Pl) : Prop := i < d.n ∧ okPl td ∧ (acP td).length ≤ 8
theorem take_snoc {l : List Pr} {k : Nat} (h : k < l.length) : l.take (k + 1) = l.take k ++ [gR l k] := by
 unfold gR
 rw [List.getD_eq_getElem?_getD, List.getElem?_eq_getElem h]
 exact (List.take_append_getElem h).symm
theorem loop12 (d : Dt) (xc xo : SV) (eC eO : Ent) (i : Nat) (h8 : d.n ≤ 8) (hl : d.n ≤ d.l.length) (Oc : Opq xc eC) (Oo : Opq xo eO) : LOk Try.prog G (mB d.e eC eO) 6 (L12 d.e eC eO d.x i (X12w d i) (Q12w d i)) := by
 refine LT.add_ok (noL_ok _ _ _ _) fun fr M K hh => ?_
 unfold v12L at hh
 split at hh
 ·rename_i td _ s w _ _ _
  obtain ⟨-, hh⟩ := hh
  obtain ⟨hle, hX, hK⟩ := vLe_ok hh
  cases td with
  | none =>
   have e : Q12w d i none = 0 := rfl
   rw [e] at hK
   exact loop_next e6w_ok mixed (noL_ok _ _ _ _) (Nat.zero_le _) (by kernel_rfl) (o := o12 d.x none w i 0) (M1 := mE d.e eC eO s none) (fun _ : Nat => i12 d.x none w i 0 0) (fun _ => mE d.e eC eO s none) (fun _ => True) (fun _ => 0) (fun i => i) 0 trivial (fun k hp => of_eq (r12n d eC eO s w i _) ⟨rfl, rfl, rfl, rfl, rfl, rfl, rfl, ⟨rfl, rfl⟩, ⟨rfl, rfl⟩, bif_of (Oc.wc _) ⟨⟨rfl, rfl⟩, bif_of (Oo.wc _) ⟨⟨rfl, rfl⟩, ⟨rfl, rfl⟩, trivial⟩⟩⟩) fr M K (vLoop_mk hle hK)
  | some x =>
   obtain ⟨len, cap, l⟩ := x
   obtain ⟨hi, ⟨o1, o2⟩, o3⟩ := hX
   have o3 : (l.take len).length ≤ 8 := o3
   rw [List.length_take, Nat.min_eq_left (by omega)] at o3
   have e0 : (((l.take 0).countP (eqT d i) : Nat) : Int) = 0 := rfl
   have hv := vLoop_mk hle hK
   rw [show i12 d.x (some (len, cap, l)) w i 0 0 = (fun k : Nat => i12 d.x (some (len, cap, l)) w i (((l.take k).countP (eqT d i) : Nat) : Int) (k : Nat)) 0 from by simp only [e0]; rfl] at hv
   refine loop_next e6w_ok mixed (noL_ok _ _ _ _) (Nat.zero_le _) (by kernel_rfl) (o := o12 d.x (some (len, cap, l)) w i (Q12w d i (some (len, cap, l)))) (M1 := mE d.e eC eO s (some (len, cap, l))) (fun k : Nat => i12 d.x (some (len, cap, l)) w i (((l.take k).countP (eqT d i) : Nat) : Int) (k : Nat)) (fun _ => mE d.e eC eO s (some (len, cap, l))) (fun k => k ≤ len) (fun k => len - k) (fun k => k + 1) 0 (Nat.zero_le _) (fun k hp => of_eq (r12s d eC eO s len cap l w i _ _ _ k _) ?_) fr M K hv
   have hb := List.countP_le_length (p := eqT d i) (l := l.take k)
   rw [List.length_take] at hb
   have ents : ∀ (f f' ff : Int) (a : Prop), r12st1 d eC eO s len cap l w i f f' ff k a := fun f f' ff a => by
    unfold r12st1
    exact bif_of (Oc.wc _) ⟨⟨rfl, rfl⟩, bif_of (Oo.wc _) ⟨⟨rfl, rfl⟩, ⟨rfl, rfl⟩, ⟨rfl, rfl⟩, trivial⟩⟩
   cases hc : ilt (k : Int) (len : Int)
   ·have := of_nilt hc
    obtain rfl : k = len := by omega
    exact ⟨rfl, rfl, rfl, rfl, rfl, rfl, rfl, ⟨rfl, rfl⟩, ⟨rfl, rfl⟩, ents _ _ _ _⟩
   ·have hk := of_ilt hc
    refine bif_t rfl (bif_of (inR_iff.2 ⟨by omega, by omega⟩) (bif_of (and_t (rokP (by omega)) rfl) (bif_of (inR_iff.2 ⟨by omega, by omega⟩) (bif_of (rok1 _ rfl (by omega)) ?_))))
    have hs := take_snoc (l := l) (k := k) (by omega)
    cases he : eqT d i (gR l k)
    ·refine bif_f rfl (bif_of (inI_iff.2 (by omega)) ⟨⟨hk, by show len - (k + 1) < len - k; omega⟩, rfl, rfl, rfl, rfl, rfl, congrArg SV.i ?_, congrArg SV.i (by omega), ⟨rfl, rfl⟩, ⟨rfl, rfl⟩, ents _ _ _ _⟩)
     rw [hs, List.countP_append, List.countP_cons_of_neg (by rw [he]; simp)]
     simp
    ·refine bif_t rfl (bif_of (inI_iff.2 (by omega)) (bif_of (inI_iff.2 (by omega)) ⟨⟨hk, by show len - (k + 1) < len - k; omega⟩, rfl, rfl, rfl, rfl, rfl, congrArg SV.i ?_, congrArg SV.i (by omega), ⟨rfl, rfl⟩, ⟨rfl, rfl⟩, ents _ _ _ _⟩))
     rw [hs, List.countP_append, List.countP_cons_of_pos he]
     simp
 ·exact hh.elim
def X10w (d : Dt) (td : Option Pl) : Prop := okPl td ∧ Told d (acP td)
def W10w (td : Option Pl) : Int := ((acP td).length : Nat)
theorem told8 {d : Dt} (h8 : d.n ≤ 8) {L : List Pr} (h : Told d L) : L.length ≤ 8 := by
 have h1 := told_len h
 have h2 := (wn_b d d.n).2
 omega
theorem loop10 (d : Dt) (xc xo : SV) (eC eO : Ent) (h8 : d.n ≤ 8) (hl : d.n ≤ d.l.length) (Oc : Opq xc eC) (Oo : Opq xo eO) : ∀ fr M K, v10L d.e eC eO d.x (X10w d) W10w fr M K → Wp Try.prog G (mB d.e eC eO) (loopOf Try.prog 6 10) fr M K := by
 intro fr M K hh
 unfold v10L at hh
 split at hh
 ·rename_i td _ s _ _
  obtain ⟨-, hh⟩ := hh
  obtain ⟨hle, ⟨hok, hT⟩, hK⟩ := vLe_ok hh
  have h88 := told8 h8 hT
  have hlen : W10w td = wn d d.n := told_len hT
  rw [hlen] at hK
  have hone : ∀ i, i < d.n → dat d i ≠ [] → Q12w d i td = 1 := fun i hi hd => by
   obtain ⟨T, h1, h2, h3⟩ := hT
   unfold Q12w
   rw [h3, count_told h8 h1 h2 hi hd]; rfl
  cases td with
  | none =>
   refine loop_nextL e6w_ok mixed (Nat.zero_le _) (by kernel_rfl) (o := o10 none (wn d d.n)) (M1 := mE d.e eC eO s none) (L := fun i => L12 d.e eC eO d.x i (X12w d i) (Q12w d i)) (fun i => loop12 d xc xo eC eO i h8 hl Oc Oo) (fun i : Nat => i10 d.x none (wn d i) i) (fun _ => mE d.e eC eO s none) (fun i => i ≤ d.n) (fun i => d.n - i) (fun i => i + 1) 0 (Nat.zero_le _) (fun i hp => of_eq (r10n d eC eO s _ _ _ i _ _ _) ?_) fr M K (vLoop_mk hle hK)
   have hb := wn_b d i
   cases hc : ilt (i : Int) (d.n : Int)
   ·have := of_nilt hc
    exact ⟨rfl, rfl, rfl, congrArg (fun m => SV.i (wn d m)) (by omega), ⟨rfl, rfl⟩, ⟨rfl, rfl⟩, bif_of (Oc.wc _) ⟨⟨rfl, rfl⟩, bif_of (Oo.wc _) ⟨⟨rfl, rfl⟩, ⟨rfl, rfl⟩, trivial⟩⟩⟩
   ·have hi := of_ilt hc
    refine bif_t rfl (bif_of (inR_iff.2 ⟨by omega, by omega⟩) (bif_of (rok1 _ rfl (by omega)) ?_))
    have hw : wn d (i + 1) = wn d i + (bif dat d i == [] then 0 else 1) := rfl
    have hmu : d.n - (i + 1) < d.n - i := by omega
    cases he : (dat d i == bts { data := #[] })
    ·have he' : (dat d i == []) = false := he
     have hd : dat d i ≠ [] := fun q => by rw [q] at he'; cases he'
     have hq := hone i hi hd
     rw [he'] at hw
     refine bif_f rfl (bif_of (inI_iff.2 (by omega)) ⟨rfl, trivial, rfl, rfl, rfl, rfl, rfl, rfl, rfl, ⟨rfl, rfl⟩, ⟨rfl, rfl⟩, bif_of (Oc.wc _) ⟨⟨rfl, rfl⟩, bif_of (Oo.wc _) ⟨⟨rfl, rfl⟩, ⟨rfl, rfl⟩, ⟨hi, hok, h88⟩, bif_f ?_ (bif_of (inI_iff.2 (by omega)) ⟨⟨hi, hmu⟩, rfl, rfl, rfl, congrArg SV.i hw.symm, congrArg SV.i (by omega), ⟨rfl, rfl⟩, ⟨rfl, rfl⟩, bif_of (Oc.wc _) ⟨⟨rfl, rfl⟩, bif_of (Oo.wc _) ⟨⟨rfl, rfl⟩, ⟨rfl, rfl⟩, trivial⟩⟩⟩)⟩⟩⟩)
     rw [hq]; rfl
    ·have he' : (dat d i == []) = true := he
     rw [he'] at hw
     refine bif_t rfl (bif_of (inI_iff.2 (by omega)) ⟨⟨hi, hmu⟩, rfl, rfl, rfl, congrArg SV.i ?_, congrArg SV.i (by omega), ⟨rfl, rfl⟩, ⟨rfl, rfl⟩, bif_of (Oc.wc _) ⟨⟨rfl, rfl⟩, bif_of (Oo.wc _) ⟨⟨rfl, rfl⟩, ⟨rfl, rfl⟩, trivial⟩⟩⟩)
     rw [hw]
     exact (Int.add_zero _).symm
  | some x =>
   obtain ⟨len, cap, l⟩ := x
   have ents : ∀ (w w' W : Int) (i : Nat) (X : Option Pl → Prop) (Q : Option Pl → Int) (a : Prop), r10st1 d eC eO s len cap l w w' W i X Q a := fun w w' W i X Q a => by
    unfold r10st1
    exact bif_of (Oc.wc _) ⟨⟨rfl, rfl⟩, bif_of (Oo.wc _) ⟨⟨rfl, rfl⟩, ⟨rfl, rfl⟩, ⟨rfl, rfl⟩, trivial⟩⟩
   refine loop_nextL e6w_ok mixed (Nat.zero_le _) (by kernel_rfl) (o := o10 (some (len, cap, l)) (wn d d.n)) (M1 := mE d.e eC eO s (some (len, cap, l))) (L := fun i => L12 d.e eC eO d.x i (X12w d i) (Q12w d i)) (fun i => loop12 d xc xo eC eO i h8 hl Oc Oo) (fun i : Nat => i10 d.x (some (len, cap, l)) (wn d i) i) (fun _ => mE d.e eC eO s (some (len, cap, l))) (fun i => i ≤ d.n) (fun i => d.n - i) (fun i => i + 1) 0 (Nat.zero_le _) (fun i hp => of_eq (r10s d eC eO s len cap l _ _ _ i _ _ _) ?_) fr M K (vLoop_mk hle hK)
   have hb := wn_b d i
   cases hc : ilt (i : Int) (d.n : Int)
   ·have := of_nilt hc
    exact ⟨rfl, rfl, rfl, congrArg (fun m => SV.i (wn d m)) (by omega), ⟨rfl, rfl⟩, ⟨rfl, rfl⟩, ents _ _ _ _ _ _ _⟩
   ·have hi := of_ilt hc
    refine bif_t rfl (bif_of (inR_iff.2 ⟨by omega, by omega⟩) (bif_of (rok1 _ rfl (by omega)) ?_))
    have hw : wn d (i + 1) = wn d i + (bif dat d i == [] then 0 else 1) := rfl
    have hmu : d.n - (i + 1) < d.n - i := by omega
    cases he : (dat d i == bts { data := #[] })
    ·have he' : (dat d i == []) = false := he
     have hd : dat d i ≠ [] := fun q => by rw [q] at he'; cases he'
     have hq := hone i hi hd
     rw [he'] at hw
     refine bif_f rfl (bif_of (inI_iff.2 (by omega)) ⟨rfl, trivial, rfl, rfl, rfl, rfl, rfl, rfl, rfl, ⟨rfl, rfl⟩, ⟨rfl, rfl⟩, bif_of (Oc.wc _) ⟨⟨rfl, rfl⟩, bif_of (Oo.wc _) ⟨⟨rfl, rfl⟩, ⟨rfl, rfl⟩, ⟨rfl, rfl⟩, ⟨hi, hok, h88⟩, bif_f ?_ (bif_of (inI_iff.2 (by omega)) ⟨⟨hi, hmu⟩, rfl, rfl, rfl, congrArg SV.i hw.symm, congrArg SV.i (by omega), ⟨rfl, rfl⟩, ⟨rfl, rfl⟩, ents _ _ _ _ _ _ _⟩)⟩⟩⟩)
     rw [hq]; rfl
    ·have he' : (dat d i == []) = true := he
     rw [he'] at hw
     refine bif_t rfl (bif_of (inI_iff.2 (by omega)) ⟨⟨hi, hmu⟩, rfl, rfl, rfl, congrArg SV.i ?_, congrArg SV.i (by omega), ⟨rfl, rfl⟩, ⟨rfl, rfl⟩, ents _ _ _ _ _ _ _⟩)
     rw [hw]
     exact (Int.add_zero _).symm
 ·exact hh.elim
def dz : Dt := ⟨[], [], 0, 0⟩
theorem told_z {L : List Pr} (h : Told dz L) : L = [] := by
 have h1 := told_len h
 have e : wn dz dz.n = 0 := rfl
 rw [e] at h1
 exact List.eq_nil_of_length_eq_zero (by omega)
theorem loop10o (aD : Option Addr) (kD : Nat) (xc xo : SV) (eC eO : Ent) (Oc : Opq xc eC) (Oo : Opq xo eO) : ∀ fr M K, v10L zE eC eO (.v (.slice aD 0 kD)) (X10w dz) W10w fr M K → Wp Try.prog G (mB zE eC eO) (loopOf Try.prog 6 10) fr M K := by
 intro fr M K hh
 unfold v10L at hh
 split at hh
 ·rename_i td _ s _ _
  obtain ⟨-, hh⟩ := hh
  obtain ⟨hle, ⟨hok, hT⟩, hK⟩ := vLe_ok hh
  have e : W10w td = 0 := by unfold W10w; rw [told_z hT]; rfl
  rw [e] at hK
  cases td with
  | none => exact loop_next e6w_ok mixed (noL_ok _ _ _ _) (Nat.zero_le _) (by kernel_rfl) (o := o10 none 0) (M1 := mE zE eC eO s none) (fun _ : Nat => i10 (.v (.slice aD 0 kD)) none 0 0) (fun _ => mE zE eC eO s none) (fun _ => True) (fun _ => 0) (fun i => i) 0 trivial (fun k hp => of_eq (r10zn aD kD eC eO s _) ⟨rfl, rfl, rfl, rfl, ⟨rfl, rfl⟩, ⟨rfl, rfl⟩, bif_of (Oc.wc _) ⟨⟨rfl, rfl⟩, bif_of (Oo.wc _) ⟨⟨rfl, rfl⟩, ⟨rfl, rfl⟩, trivial⟩⟩⟩) fr M K (vLoop_mk hle hK)
  | some x =>
   obtain ⟨len, cap, l⟩ := x
   exact loop_next e6w_ok mixed (noL_ok _ _ _ _) (Nat.zero_le _) (by kernel_rfl) (o := o10 (some (len, cap, l)) 0) (M1 := mE zE eC eO s (some (len, cap, l))) (fun _ : Nat => i10 (.v (.slice aD 0 kD)) (some (len, cap, l)) 0 0) (fun _ => mE zE eC eO s (some (len, cap, l))) (fun _ => True) (fun _ => 0) (fun i => i) 0 trivial (fun k hp => of_eq (r10zs aD kD eC eO s len cap l _) ⟨rfl, rfl, rfl, rfl, ⟨rfl, rfl⟩, ⟨rfl, rfl⟩, bif_of (Oc.wc _) ⟨⟨rfl, rfl⟩, bif_of (Oo.wc _) ⟨⟨rfl, rfl⟩, ⟨rfl, rfl⟩, ⟨rfl, rfl⟩, trivial⟩⟩⟩) fr M K (vLoop_mk hle hK)
 ·exact hh.elim
theorem start6 {d : Dt} (H : HD d) {L : List Pr} (hA : AllC d d.n L) (h68 : L.length ≤ 68) {lf : Option Pl} (hok : okPl lf) (hpos : ∀ len cap l, lf = some (len, cap, l) → len ≠ 0) (hac : acP lf = L) (nO x : Nat) : X6w d nO ⟨x, 0, [], []⟩ lf := by
 obtain ⟨F, hF, hL⟩ := hA
 have hC : Cuts d F := ⟨H, hF⟩
 refine ⟨F, hC, hok, hpos, trivial, [], 0, rfl, ⟨ok_empty x 0, List.nodup_nil, (fun i hi => (by cases hi)), fun r hr => ?_, fun i hi _ c hc => .inl ?_, (fun e he => (by cases he))⟩, rfl, by rw [show acP (S6w.lf ⟨⟨x, 0, [], []⟩, lf, none, 0⟩) = L from hac]; exact h68, .inl (Nat.zero_le _)⟩
 ·have hr : r ∈ acP lf := hr
  rw [hac, hL] at hr
  obtain ⟨i, hi, hr⟩ := List.mem_flatMap.1 hr
  obtain ⟨c, hc, rfl⟩ := List.mem_map.1 hr
  exact ⟨i, List.mem_range.1 hi, List.not_mem_nil, c, hc, rfl⟩
 ·show _ ∈ acP lf
  rw [hac, hL]
  exact List.mem_flatMap.2 ⟨i, List.mem_range.2 hi, List.mem_map.2 ⟨c, hc, rfl⟩⟩
theorem hd_z : HD dz := ⟨Nat.zero_le _, Nat.le_refl _, fun i hi => absurd hi (Nat.not_lt_zero _)⟩
theorem allC_z : AllC dz dz.n [] := ⟨fun _ => [], fun j hj => absurd hj (Nat.not_lt_zero _), rfl⟩
end Go.Proofs.Ytggoncamiafclaa
