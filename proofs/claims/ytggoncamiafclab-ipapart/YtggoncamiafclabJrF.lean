/-
  ip: the law IpApart: a round of its loop. No statement is proved here.
-/
import Derived.Test.YtggoncamiafclabJrE
namespace Go.Proofs.Ytggoncamiafclab
open Go.RowKit
set_option linter.unusedVariables false
set_option linter.unusedSimpArgs false
set_option maxRecDepth 100000

theorem bif_both {c : Bool} {p q : Prop} (hp : p) (hq : q) : bif c then p else q := by cases c <;> assumption
theorem bif_f {c : Bool} {p q : Prop} (h : c = false) (hq : q) : bif c then p else q := by rw [h]; exact hq
theorem own_ev (x : BitVec 16) : (x &&& ~~~BitVec.ofInt 16 1).getLsbD 0 = false := by
  rw [BitVec.getLsbD_and, show (~~~BitVec.ofInt 16 1).getLsbD 0 = false from by decide, Bool.and_false]
theorem oth_od (x : BitVec 16) : (x ||| BitVec.ofInt 16 1).getLsbD 0 = true := by
  rw [BitVec.getLsbD_or, show (BitVec.ofInt 16 1).getLsbD 0 = true from by decide, Bool.or_true]
theorem Lv.gs {i mb clk : Nat} {es g g' : List SetE} (h : Lv i (stO mb clk es g)) (hk : OkS (stO mb clk es g')) : Lv i (stO mb clk es g') := ⟨hk, h.row⟩
theorem Sim.gx {i mb clk : Nat} {es g g' : List SetE} {y : St} (h : Sim i (stO mb clk es g) y) (hk : OkS (stO mb clk es g')) : Sim i (stO mb clk es g') y := ⟨h.lx.gs hk, h.ly, h.eq, h.ev, h.few⟩
theorem Sim.gy {i mb clk : Nat} {es g g' : List SetE} {x : St} (h : Sim i x (stO mb clk es g)) (hk : OkS (stO mb clk es g')) : Sim i x (stO mb clk es g') := ⟨h.lx, h.ly.gs hk, h.eq, h.ev, h.few⟩
theorem Sim.eta {i : Nat} {x y : St} (h : Sim i x y) : Sim i (stO x.mb x.clk x.es x.gs) (stO y.mb y.clk y.es y.gs) := by rw [st_eta h.lx.ok, st_eta h.ly.ok]; exact h
structure P3 (no nt : Nat) (s : S3) : Prop where
  hk : s.k ≤ no
  hm : s.m ≤ nt
  hi : s.i = s.k + s.m
  sim : Sim s.i s.x s.y
def mu3 (no nt : Nat) (s : S3) : Nat := (no - s.k) + (nt - s.m)
theorem t1_111 (preo : List Value) (lo : List Pk) (no co : Nat) (pret : List Value) (lt : List Pk) (nt ct : Nat) (prer : List Value) (lr : List (Rc OF)) (nr cr : Nat) {k m i mx cx : Nat} {ex gx : List SetE} {my cy : Nat} {ey gy : List SetE} {a : S3 → Prop} (hk : k < no) (hn : no ≤ lo.length) (hb : no ≤ 60) (hi : i ≤ 80) (hw : pW (lo.getD k (rz PF)) ≤ 16384) (hS : Sim i (stO mx cx ex gx) (stO my cy ey gy)) (ha : ∀ s : S3, s.i = i + 1 → s.k = k + 1 → s.m = m → Sim (i + 1) s.x s.y → a s) : rc111t1 preo lo no co pret lt nt ct prer lr nr cr k m i mx cx ex gx my cy ey gy a := by
  unfold rc111t1
  rw [show k + (preo.length - preo.length) / 9 = k by omega]
  have hfx : (ex.filter fun e => !e.u.ule (BitVec.ofInt 64 1)) = ex := hS.lx.fil
  rw [hfx]
  have hfy : (ey.filter fun e => !e.u.ule (BitVec.ofInt 64 1)) = ey := hS.ly.fil
  rw [hfy]
  have hw : (lo.getD k (rz PF)).2.2.2.2.2.2.2.2.1.length ≤ 16384 := hw
  generalize lo.getD k (rz PF) = r at hw ⊢
  obtain ⟨r1, r2, r3, r4, r5, r6, r7, r8, r9, u⟩ := r
  dsimp only at hw ⊢
  have hn' : evN ⟨r1, r2, r3, r5 &&& ~~~BitVec.ofInt 16 1⟩ := own_ev r5
  have h0 : 0 ≤ 8 * ((r8.toNat : Nat) : Int) := by omega
  have b9 : r9.length ≤ 4294967296 := Nat.le_trans hw (by decide)
  have ik : inI ((k : Int) + 1) = true := inI_iff.2 (by omega)
  have ii : inI ((i : Int) + 1) = true := inI_iff.2 (by omega)
  have sx : ∀ e ∈ ex, e.len ≤ 33554430 := fun e he => Nat.le_trans (hS.lx.row e he).2.1 (by omega)
  have sy : ∀ e ∈ ey, e.len ≤ 33554430 := fun e he => Nat.le_trans (hS.ly.row e he).2.1 (by omega)
  refine bif_of (inR_iff.2 ⟨by omega, by omega⟩) (bif_of (and_t (rok_p preo (by omega)) rfl) ⟨hS.lx.ok, fun gs1 hg1 => ?_⟩)
  have hS1 := hS.gx hg1
  cases hp : isPc r7 r8
  · refine bif_of (ble_of b9) ⟨hS1.ly.ok, fun gs2 hg2 => ?_⟩
    refine bif_of (ble_of b9) (bif_f (by simp) (bif_of ik (bif_of ii ⟨ha _ rfl rfl rfl ((hS1.gy hg2).up (Nat.le_succ _)), rfl, rfl, rfl, rfl, rfl, rfl, rfl, rfl, ⟨rfl, rfl⟩, ⟨rfl, rfl⟩, ⟨rfl, rfl⟩, ⟨rfl, rfl⟩, ⟨rfl, rfl⟩, ⟨rfl, rfl⟩, ⟨rfl, rfl⟩, trivial⟩)))
  · refine ⟨⟨hg1, b9, sx⟩, fun s1 z1 hE1 => ⟨hS1.ly.ok, fun gs2 hg2 => ⟨⟨hg2, b9, sy⟩, fun s2 z2 hE2 => ?_, fun s2 ps2 hM2 => ?_⟩⟩, fun s1 ps1 hM1 => ⟨hS1.ly.ok, fun gs2 hg2 => ⟨⟨hg2, b9, sy⟩, fun s2 z2 hE2 => ?_, fun s2 ps2 hM2 => ?_⟩⟩⟩
    · rcases sim_ee hn' h0 (hS1.gy hg2) hE1 hE2 with rfl | ⟨rfl, hs⟩
      · exact bif_both (bif_both (bif_t rfl ⟨rfl, ⟨rfl, rfl⟩, ⟨rfl, rfl⟩, ⟨rfl, rfl⟩, trivial⟩) (bif_t rfl ⟨rfl, ⟨rfl, rfl⟩, ⟨rfl, rfl⟩, ⟨rfl, rfl⟩, trivial⟩)) (bif_t rfl ⟨rfl, ⟨rfl, rfl⟩, ⟨rfl, rfl⟩, ⟨rfl, rfl⟩, trivial⟩)
      · refine bif_f (by simp) ?_
        cases hz : (z1 == 6)
        · exact bif_f rfl (bif_f rfl (bif_of ik (bif_of ii ⟨ha _ rfl rfl rfl hs.eta, rfl, rfl, rfl, rfl, rfl, rfl, rfl, rfl, ⟨rfl, rfl⟩, ⟨rfl, rfl⟩, ⟨rfl, rfl⟩, ⟨rfl, rfl⟩, ⟨rfl, rfl⟩, ⟨rfl, rfl⟩, ⟨rfl, rfl⟩, trivial⟩)))
        · exact bif_t rfl ⟨rfl, ⟨rfl, rfl⟩, ⟨rfl, rfl⟩, ⟨rfl, rfl⟩, trivial⟩
    · obtain rfl := sim_em hn' h0 (hS1.gy hg2) hE1 hM2
      exact bif_both (bif_t rfl ⟨rfl, ⟨rfl, rfl⟩, ⟨rfl, rfl⟩, ⟨rfl, rfl⟩, trivial⟩) (bif_t rfl ⟨rfl, ⟨rfl, rfl⟩, ⟨rfl, rfl⟩, ⟨rfl, rfl⟩, trivial⟩)
    · exact (sim_me hn' h0 (hS1.gy hg2) hM1 hE2).elim
    · obtain ⟨rfl, hs⟩ := sim_mm hn' h0 (hS1.gy hg2) hM1 hM2
      exact bif_f (by simp) (bif_of ik (bif_of ii ⟨ha _ rfl rfl rfl hs.eta, rfl, rfl, rfl, rfl, rfl, rfl, rfl, rfl, ⟨rfl, rfl⟩, ⟨rfl, rfl⟩, ⟨rfl, rfl⟩, ⟨rfl, rfl⟩, ⟨rfl, rfl⟩, ⟨rfl, rfl⟩, ⟨rfl, rfl⟩, trivial⟩))
theorem t2_111 (preo : List Value) (lo : List Pk) (no co : Nat) (pret : List Value) (lt : List Pk) (nt ct : Nat) (prer : List Value) (lr : List (Rc OF)) (nr cr : Nat) {k m i mx cx : Nat} {ex gx : List SetE} {my cy : Nat} {ey gy : List SetE} {a : S3 → Prop} (hk : m < nt) (hn : nt ≤ lt.length) (hb : nt ≤ 20) (hi : i ≤ 80) (hw : pW (lt.getD m (rz PF)) ≤ 16384) (hS : Sim i (stO mx cx ex gx) (stO my cy ey gy)) (ha : ∀ s : S3, s.i = i + 1 → s.k = k → s.m = m + 1 → Sim (i + 1) s.x s.y → a s) : rc111t2 preo lo no co pret lt nt ct prer lr nr cr k m i mx cx ex gx my cy ey gy a := by
  unfold rc111t2
  rw [show m + (pret.length - pret.length) / 9 = m by omega]
  have hfx : (ex.filter fun e => !e.u.ule (BitVec.ofInt 64 1)) = ex := hS.lx.fil
  rw [hfx]
  have hw : (lt.getD m (rz PF)).2.2.2.2.2.2.2.2.1.length ≤ 16384 := hw
  generalize lt.getD m (rz PF) = r at hw ⊢
  obtain ⟨r1, r2, r3, r4, r5, r6, r7, r8, r9, u⟩ := r
  dsimp only at hw ⊢
  have hn' : ¬ evN ⟨r1, r2, r3, r5 ||| BitVec.ofInt 16 1⟩ := fun q => by
    have q : (r5 ||| BitVec.ofInt 16 1).getLsbD 0 = false := q
    rw [oth_od] at q; cases q
  have b9 : r9.length ≤ 4294967296 := Nat.le_trans hw (by decide)
  have ik : inI ((m : Int) + 1) = true := inI_iff.2 (by omega)
  have ii : inI ((i : Int) + 1) = true := inI_iff.2 (by omega)
  have sx : ∀ e ∈ ex, e.len ≤ 33554430 := fun e he => Nat.le_trans (hS.lx.row e he).2.1 (by omega)
  refine bif_of (inR_iff.2 ⟨by omega, by omega⟩) (bif_of (and_t (rok_p pret (by omega)) rfl) ⟨hS.lx.ok, fun gs1 hg1 => ?_⟩)
  have hS1 := hS.gx hg1
  cases hp : isPc r7 r8
  · exact bif_of (ble_of b9) (bif_of ik (bif_of ii ⟨ha _ rfl rfl rfl (hS1.up (Nat.le_succ _)), rfl, rfl, rfl, rfl, rfl, rfl, rfl, rfl, ⟨rfl, rfl⟩, ⟨rfl, rfl⟩, ⟨rfl, rfl⟩, ⟨rfl, rfl⟩, ⟨rfl, rfl⟩, ⟨rfl, rfl⟩, ⟨rfl, rfl⟩, trivial⟩))
  · refine ⟨⟨hg1, b9, sx⟩, fun s1 z1 hE1 => ?_, fun s1 ps1 hM1 => ?_⟩
    · obtain ⟨g1, g2, g3, -⟩ := view_err hE1 hS1.lx
      have hs := hS1.other hn' ⟨g1, g2, g3⟩
      exact bif_of ik (bif_of ii ⟨ha _ rfl rfl rfl hs.eta, rfl, rfl, rfl, rfl, rfl, rfl, rfl, rfl, ⟨rfl, rfl⟩, ⟨rfl, rfl⟩, ⟨rfl, rfl⟩, ⟨rfl, rfl⟩, ⟨rfl, rfl⟩, ⟨rfl, rfl⟩, ⟨rfl, rfl⟩, trivial⟩)
    · obtain ⟨g1, g2, g3, -⟩ := view_made hM1 hS1.lx
      have hs := hS1.other hn' ⟨g1, g2, g3⟩
      exact bif_of ik (bif_of ii ⟨ha _ rfl rfl rfl hs.eta, rfl, rfl, rfl, rfl, rfl, rfl, rfl, rfl, ⟨rfl, rfl⟩, ⟨rfl, rfl⟩, ⟨rfl, rfl⟩, ⟨rfl, rfl⟩, ⟨rfl, rfl⟩, ⟨rfl, rfl⟩, ⟨rfl, rfl⟩, trivial⟩)
theorem round_111 (preo : List Value) (lo : List Pk) (no co : Nat) (pret : List Value) (lt : List Pk) (nt ct : Nat) (prer : List Value) (lr : List (Rc OF)) (nr cr : Nat) (s : S3) (hno : no ≤ lo.length) (hbo : no ≤ 60) (hwo : ∀ j, j < no → pW (lo.getD j (rz PF)) ≤ 16384) (hnt : nt ≤ lt.length) (hbt : nt ≤ 20) (hwt : ∀ j, j < nt → pW (lt.getD j (rz PF)) ≤ 16384) (hnr : nr ≤ lr.length) (hp : P3 no nt s) :
    frK 191 (I3111 preo lo no co pret lt nt ct prer lr nr cr s) fun fr => vround Try.prog E3 noL 3 4 fr (N3111 preo lo no co pret lt nt ct prer lr nr cr s) (Kq (mA111 preo lo no co pret lt nt ct prer lr nr cr) 4 191 (sel111 s.k s.m s.i) (fun s' => P3 no nt s' ∧ mu3 no nt s' < mu3 no nt s) (I3111 preo lo no co pret lt nt ct prer lr nr cr) (N3111 preo lo no co pret lt nt ct prer lr nr cr) [] (mA111 preo lo no co pret lt nt ct prer lr nr cr) [(6, .b true)] (mA111 preo lo no co pret lt nt ct prer lr nr cr)) := by
  obtain ⟨i, k, m, mx, cx, ex, gx, my, cy, ey, gy⟩ := s
  obtain ⟨hk, hm, hi, hS⟩ := hp
  have hk : k ≤ no := hk
  have hm : m ≤ nt := hm
  have hi : i = k + m := hi
  have hS : Sim i (stO mx cx ex gx) (stO my cy ey gy) := hS
  refine of_eq (rc111 preo lo no co pret lt nt ct prer lr nr cr k m i mx cx ex gx my cy ey gy _) ?_
  cases hc : ilt (k : Int) (no : Int)
  · exact ⟨rfl, ⟨rfl, rfl⟩, ⟨rfl, rfl⟩, ⟨rfl, rfl⟩, trivial⟩
  · have hk' := of_ilt hc
    have own : rc111t1 preo lo no co pret lt nt ct prer lr nr cr k m i mx cx ex gx my cy ey gy (fun s' => P3 no nt s' ∧ mu3 no nt s' < (no - k) + (nt - m)) := t1_111 preo lo no co pret lt nt ct prer lr nr cr hk' hno hbo (by omega) (hwo k hk') hS fun s' e1 e2 e3 hs => ⟨⟨by omega, by omega, by omega, by rw [e1]; exact hs⟩, by unfold mu3; omega⟩
    cases hd : ilt (m : Int) (nt : Int)
    · exact own
    · have hm' := of_ilt hd
      have oth : rc111t2 preo lo no co pret lt nt ct prer lr nr cr k m i mx cx ex gx my cy ey gy (fun s' => P3 no nt s' ∧ mu3 no nt s' < (no - k) + (nt - m)) := t2_111 preo lo no co pret lt nt ct prer lr nr cr hm' hnt hbt (by omega) (hwt m hm') hS fun s' e1 e2 e3 hs => ⟨⟨by omega, by omega, by omega, by rw [e1]; exact hs⟩, by unfold mu3; omega⟩
      cases he : ile (nr : Int) (i : Int)
      · have hi' : i < nr := by
          rw [ile_eq] at he
          have := of_decide_eq_false he
          omega
        refine bif_of (inR_iff.2 ⟨by omega, by omega⟩) (bif_of (rok_o prer (by omega)) ?_)
        exact bif_both oth own
      · exact oth
theorem round_110 (preo : List Value) (lo : List Pk) (no co : Nat) (pret : List Value) (lt : List Pk) (nt ct : Nat) (dr : Option Addr) (cr : Nat) (s : S3) (hno : no ≤ lo.length) (hbo : no ≤ 60) (hwo : ∀ j, j < no → pW (lo.getD j (rz PF)) ≤ 16384) (hnt : nt ≤ lt.length) (hbt : nt ≤ 20) (hwt : ∀ j, j < nt → pW (lt.getD j (rz PF)) ≤ 16384) (hp : P3 no nt s) :
    frK 191 (I3110 preo lo no co pret lt nt ct dr cr s) fun fr => vround Try.prog E3 noL 3 4 fr (N3110 preo lo no co pret lt nt ct dr cr s) (Kq (mA110 preo lo no co pret lt nt ct dr cr) 4 191 (sel110 s.k s.m s.i) (fun s' => P3 no nt s' ∧ mu3 no nt s' < mu3 no nt s) (I3110 preo lo no co pret lt nt ct dr cr) (N3110 preo lo no co pret lt nt ct dr cr) [] (mA110 preo lo no co pret lt nt ct dr cr) [(6, .b true)] (mA110 preo lo no co pret lt nt ct dr cr)) := by
  obtain ⟨i, k, m, mx, cx, ex, gx, my, cy, ey, gy⟩ := s
  obtain ⟨hk0, hm, hi0, hS⟩ := hp
  have hk0 : k ≤ no := hk0
  have hm : m ≤ nt := hm
  have hi0 : i = k + m := hi0
  have hS : Sim i (stO mx cx ex gx) (stO my cy ey gy) := hS
  refine of_eq (rc110 preo lo no co pret lt nt ct dr cr k m i mx cx ex gx my cy ey gy _) ?_
  cases hc : ilt (k : Int) (no : Int)
  · exact ⟨rfl, ⟨rfl, rfl⟩, ⟨rfl, rfl⟩, trivial⟩
  · have hk := of_ilt hc
    cases hd : ilt (m : Int) (nt : Int)
    · have ha : ∀ s' : S3, s'.i = i + 1 → s'.k = k + 1 → s'.m = m → Sim (i + 1) s'.x s'.y → (fun s' => P3 no nt s' ∧ mu3 no nt s' < (no - k) + (nt - m)) s' := fun s' e1 e2 e3 hs => ⟨⟨by omega, by omega, by omega, by rw [e1]; exact hs⟩, by unfold mu3; omega⟩
      have hn := hno
      have hi : i ≤ 80 := by omega
      have hw := hwo k hk
      rw [show k + (preo.length - preo.length) / 9 = k by omega]
      have hfx : (ex.filter fun e => !e.u.ule (BitVec.ofInt 64 1)) = ex := hS.lx.fil
      rw [hfx]
      have hfy : (ey.filter fun e => !e.u.ule (BitVec.ofInt 64 1)) = ey := hS.ly.fil
      rw [hfy]
      have hw : (lo.getD k (rz PF)).2.2.2.2.2.2.2.2.1.length ≤ 16384 := hw
      generalize lo.getD k (rz PF) = r at hw ⊢
      obtain ⟨r1, r2, r3, r4, r5, r6, r7, r8, r9, u⟩ := r
      dsimp only at hw ⊢
      have hn' : evN ⟨r1, r2, r3, r5 &&& ~~~BitVec.ofInt 16 1⟩ := own_ev r5
      have h0 : 0 ≤ 8 * ((r8.toNat : Nat) : Int) := by omega
      have b9 : r9.length ≤ 4294967296 := Nat.le_trans hw (by decide)
      have ik : inI ((k : Int) + 1) = true := inI_iff.2 (by omega)
      have ii : inI ((i : Int) + 1) = true := inI_iff.2 (by omega)
      have sx : ∀ e ∈ ex, e.len ≤ 33554430 := fun e he => Nat.le_trans (hS.lx.row e he).2.1 (by omega)
      have sy : ∀ e ∈ ey, e.len ≤ 33554430 := fun e he => Nat.le_trans (hS.ly.row e he).2.1 (by omega)
      refine bif_of (inR_iff.2 ⟨by omega, by omega⟩) (bif_of (and_t (rok_p preo (by omega)) rfl) ⟨hS.lx.ok, fun gs1 hg1 => ?_⟩)
      have hS1 := hS.gx hg1
      cases hp : isPc r7 r8
      · refine bif_of (ble_of b9) ⟨hS1.ly.ok, fun gs2 hg2 => ?_⟩
        refine bif_of (ble_of b9) (bif_f (by simp) (bif_of ik (bif_of ii ⟨ha _ rfl rfl rfl ((hS1.gy hg2).up (Nat.le_succ _)), rfl, rfl, rfl, rfl, rfl, rfl, rfl, rfl, ⟨rfl, rfl⟩, ⟨rfl, rfl⟩, ⟨rfl, rfl⟩, ⟨rfl, rfl⟩, ⟨rfl, rfl⟩, ⟨rfl, rfl⟩, trivial⟩)))
      · refine ⟨⟨hg1, b9, sx⟩, fun s1 z1 hE1 => ⟨hS1.ly.ok, fun gs2 hg2 => ⟨⟨hg2, b9, sy⟩, fun s2 z2 hE2 => ?_, fun s2 ps2 hM2 => ?_⟩⟩, fun s1 ps1 hM1 => ⟨hS1.ly.ok, fun gs2 hg2 => ⟨⟨hg2, b9, sy⟩, fun s2 z2 hE2 => ?_, fun s2 ps2 hM2 => ?_⟩⟩⟩
        · rcases sim_ee hn' h0 (hS1.gy hg2) hE1 hE2 with rfl | ⟨rfl, hs⟩
          · exact bif_both (bif_both (bif_t rfl ⟨rfl, ⟨rfl, rfl⟩, ⟨rfl, rfl⟩, trivial⟩) (bif_t rfl ⟨rfl, ⟨rfl, rfl⟩, ⟨rfl, rfl⟩, trivial⟩)) (bif_t rfl ⟨rfl, ⟨rfl, rfl⟩, ⟨rfl, rfl⟩, trivial⟩)
          · refine bif_f (by simp) ?_
            cases hz : (z1 == 6)
            · exact bif_f rfl (bif_f rfl (bif_of ik (bif_of ii ⟨ha _ rfl rfl rfl hs.eta, rfl, rfl, rfl, rfl, rfl, rfl, rfl, rfl, ⟨rfl, rfl⟩, ⟨rfl, rfl⟩, ⟨rfl, rfl⟩, ⟨rfl, rfl⟩, ⟨rfl, rfl⟩, ⟨rfl, rfl⟩, trivial⟩)))
            · exact bif_t rfl ⟨rfl, ⟨rfl, rfl⟩, ⟨rfl, rfl⟩, trivial⟩
        · obtain rfl := sim_em hn' h0 (hS1.gy hg2) hE1 hM2
          exact bif_both (bif_t rfl ⟨rfl, ⟨rfl, rfl⟩, ⟨rfl, rfl⟩, trivial⟩) (bif_t rfl ⟨rfl, ⟨rfl, rfl⟩, ⟨rfl, rfl⟩, trivial⟩)
        · exact (sim_me hn' h0 (hS1.gy hg2) hM1 hE2).elim
        · obtain ⟨rfl, hs⟩ := sim_mm hn' h0 (hS1.gy hg2) hM1 hM2
          exact bif_f (by simp) (bif_of ik (bif_of ii ⟨ha _ rfl rfl rfl hs.eta, rfl, rfl, rfl, rfl, rfl, rfl, rfl, rfl, ⟨rfl, rfl⟩, ⟨rfl, rfl⟩, ⟨rfl, rfl⟩, ⟨rfl, rfl⟩, ⟨rfl, rfl⟩, ⟨rfl, rfl⟩, trivial⟩))
    · have hm' := of_ilt hd
      have ha : ∀ s' : S3, s'.i = i + 1 → s'.k = k → s'.m = m + 1 → Sim (i + 1) s'.x s'.y → (fun s' => P3 no nt s' ∧ mu3 no nt s' < (no - k) + (nt - m)) s' := fun s' e1 e2 e3 hs => ⟨⟨by omega, by omega, by omega, by rw [e1]; exact hs⟩, by unfold mu3; omega⟩
      have hi : i ≤ 80 := by omega
      have hw := hwt m hm'
      rw [show m + (pret.length - pret.length) / 9 = m by omega]
      have hfx : (ex.filter fun e => !e.u.ule (BitVec.ofInt 64 1)) = ex := hS.lx.fil
      rw [hfx]
      have hw : (lt.getD m (rz PF)).2.2.2.2.2.2.2.2.1.length ≤ 16384 := hw
      generalize lt.getD m (rz PF) = r at hw ⊢
      obtain ⟨r1, r2, r3, r4, r5, r6, r7, r8, r9, u⟩ := r
      dsimp only at hw ⊢
      have hn' : ¬ evN ⟨r1, r2, r3, r5 ||| BitVec.ofInt 16 1⟩ := fun q => by
        have q : (r5 ||| BitVec.ofInt 16 1).getLsbD 0 = false := q
        rw [oth_od] at q; cases q
      have b9 : r9.length ≤ 4294967296 := Nat.le_trans hw (by decide)
      have ik : inI ((m : Int) + 1) = true := inI_iff.2 (by omega)
      have ii : inI ((i : Int) + 1) = true := inI_iff.2 (by omega)
      have sx : ∀ e ∈ ex, e.len ≤ 33554430 := fun e he => Nat.le_trans (hS.lx.row e he).2.1 (by omega)
      refine bif_of (inR_iff.2 ⟨by omega, by omega⟩) (bif_of (and_t (rok_p pret (by omega)) rfl) ⟨hS.lx.ok, fun gs1 hg1 => ?_⟩)
      have hS1 := hS.gx hg1
      cases hp : isPc r7 r8
      · exact bif_of (ble_of b9) (bif_of ik (bif_of ii ⟨ha _ rfl rfl rfl (hS1.up (Nat.le_succ _)), rfl, rfl, rfl, rfl, rfl, rfl, rfl, rfl, ⟨rfl, rfl⟩, ⟨rfl, rfl⟩, ⟨rfl, rfl⟩, ⟨rfl, rfl⟩, ⟨rfl, rfl⟩, ⟨rfl, rfl⟩, trivial⟩))
      · refine ⟨⟨hg1, b9, sx⟩, fun s1 z1 hE1 => ?_, fun s1 ps1 hM1 => ?_⟩
        · obtain ⟨g1, g2, g3, -⟩ := view_err hE1 hS1.lx
          have hs := hS1.other hn' ⟨g1, g2, g3⟩
          exact bif_of ik (bif_of ii ⟨ha _ rfl rfl rfl hs.eta, rfl, rfl, rfl, rfl, rfl, rfl, rfl, rfl, ⟨rfl, rfl⟩, ⟨rfl, rfl⟩, ⟨rfl, rfl⟩, ⟨rfl, rfl⟩, ⟨rfl, rfl⟩, ⟨rfl, rfl⟩, trivial⟩)
        · obtain ⟨g1, g2, g3, -⟩ := view_made hM1 hS1.lx
          have hs := hS1.other hn' ⟨g1, g2, g3⟩
          exact bif_of ik (bif_of ii ⟨ha _ rfl rfl rfl hs.eta, rfl, rfl, rfl, rfl, rfl, rfl, rfl, rfl, ⟨rfl, rfl⟩, ⟨rfl, rfl⟩, ⟨rfl, rfl⟩, ⟨rfl, rfl⟩, ⟨rfl, rfl⟩, ⟨rfl, rfl⟩, trivial⟩)
end Go.Proofs.Ytggoncamiafclab
