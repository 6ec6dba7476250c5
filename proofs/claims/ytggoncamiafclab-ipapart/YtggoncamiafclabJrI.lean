/-
  ip: the law IpApart: a round of its loop. No statement is proved here.
-/
import Derived.Test.YtggoncamiafclabJrF
import Derived.Test.YtggoncamiafclabJrH
namespace Go.Proofs.Ytggoncamiafclab
open Go.RowKit
set_option linter.unusedVariables false
set_option linter.unusedSimpArgs false
set_option maxRecDepth 100000

theorem round_100 (preo : List Value) (lo : List Pk) (no co : Nat) (dt : Option Addr) (ct : Nat) (dr : Option Addr) (cr : Nat) (s : S3) (hno : no ≤ lo.length) (hbo : no ≤ 60) (hwo : ∀ j, j < no → pW (lo.getD j (rz PF)) ≤ 16384) (hp : P3 no 0 s) :
    frK 191 (I3100 preo lo no co dt ct dr cr s) fun fr => vround Try.prog E3 noL 3 4 fr (N3100 preo lo no co dt ct dr cr s) (Kq (mA100 preo lo no co dt ct dr cr) 4 191 (sel100 s.k s.m s.i) (fun s' => P3 no 0 s' ∧ mu3 no 0 s' < mu3 no 0 s) (I3100 preo lo no co dt ct dr cr) (N3100 preo lo no co dt ct dr cr) [] (mA100 preo lo no co dt ct dr cr) [(6, .b true)] (mA100 preo lo no co dt ct dr cr)) := by
  obtain ⟨i, k, m, mx, cx, ex, gx, my, cy, ey, gy⟩ := s
  obtain ⟨hk0, hm, hi0, hS⟩ := hp
  have hk0 : k ≤ no := hk0
  have hm : m ≤ 0 := hm
  have hi0 : i = k + m := hi0
  have hS : Sim i (stO mx cx ex gx) (stO my cy ey gy) := hS
  refine of_eq (rc100 preo lo no co dt ct dr cr k m i mx cx ex gx my cy ey gy _) ?_
  cases hc : ilt (k : Int) (no : Int)
  · exact ⟨rfl, ⟨rfl, rfl⟩, trivial⟩
  · have hk := of_ilt hc
    have ha : ∀ s' : S3, s'.i = i + 1 → s'.k = k + 1 → s'.m = m → Sim (i + 1) s'.x s'.y → (fun s' => P3 no 0 s' ∧ mu3 no 0 s' < (no - k) + (0 - m)) s' := fun s' e1 e2 e3 hs => ⟨⟨by omega, by omega, by omega, by rw [e1]; exact hs⟩, by unfold mu3; omega⟩
    have hn := hno
    have hi : i ≤ 80 := by omega
    have hw := hwo k hk
    rw [show k + (preo.length - preo.length) / 9 = k by omega]
    have hfx : (ex.filter fun e => !e.u.ule (BitVec.ofInt 64 1)) = ex := hS.lx.fil
    rw [hfx]
    have hfy : (ey.filter fun e => !e.u.ule (BitVec.ofInt 64 1)) = ey := hS.ly.fil
    rw [hfy]
    have hw : (lo.getD k (rz PF)).2.2.2.2.2.2.2.2.1.length ≤ 16384 := hw
    generalize lo.getD k (rz PF) = r at hw ⊢
    obtain ⟨r1, r2, r3, r4, r5, r6, r7, r8, r9, u⟩ := r
    dsimp only at hw ⊢
    have hn' : evN ⟨r1, r2, r3, r5 &&& ~~~BitVec.ofInt 16 1⟩ := own_ev r5
    have h0 : 0 ≤ 8 * ((r8.toNat : Nat) : Int) := by omega
    have b9 : r9.length ≤ 4294967296 := Nat.le_trans hw (by decide)
    have ik : inI ((k : Int) + 1) = true := inI_iff.2 (by omega)
    have ii : inI ((i : Int) + 1) = true := inI_iff.2 (by omega)
    have sx : ∀ e ∈ ex, e.len ≤ 33554430 := fun e he => Nat.le_trans (hS.lx.row e he).2.1 (by omega)
    have sy : ∀ e ∈ ey, e.len ≤ 33554430 := fun e he => Nat.le_trans (hS.ly.row e he).2.1 (by omega)
    refine bif_of (inR_iff.2 ⟨by omega, by omega⟩) (bif_of (and_t (rok_p preo (by omega)) rfl) ⟨hS.lx.ok, fun gs1 hg1 => ?_⟩)
    have hS1 := hS.gx hg1
    cases hp : isPc r7 r8
    · refine bif_of (ble_of b9) ⟨hS1.ly.ok, fun gs2 hg2 => ?_⟩
      refine bif_of (ble_of b9) (bif_f (by simp) (bif_of ik (bif_of ii ⟨ha _ rfl rfl rfl ((hS1.gy hg2).up (Nat.le_succ _)), rfl, rfl, rfl, rfl, rfl, rfl, rfl, rfl, ⟨rfl, rfl⟩, ⟨rfl, rfl⟩, ⟨rfl, rfl⟩, ⟨rfl, rfl⟩, ⟨rfl, rfl⟩, trivial⟩)))
    · refine ⟨⟨hg1, b9, sx⟩, fun s1 z1 hE1 => ⟨hS1.ly.ok, fun gs2 hg2 => ⟨⟨hg2, b9, sy⟩, fun s2 z2 hE2 => ?_, fun s2 ps2 hM2 => ?_⟩⟩, fun s1 ps1 hM1 => ⟨hS1.ly.ok, fun gs2 hg2 => ⟨⟨hg2, b9, sy⟩, fun s2 z2 hE2 => ?_, fun s2 ps2 hM2 => ?_⟩⟩⟩
      · rcases sim_ee hn' h0 (hS1.gy hg2) hE1 hE2 with rfl | ⟨rfl, hs⟩
        · exact bif_both (bif_both (bif_t rfl ⟨rfl, ⟨rfl, rfl⟩, trivial⟩) (bif_t rfl ⟨rfl, ⟨rfl, rfl⟩, trivial⟩)) (bif_t rfl ⟨rfl, ⟨rfl, rfl⟩, trivial⟩)
        · refine bif_f (by simp) ?_
          cases hz : (z1 == 6)
          · exact bif_f rfl (bif_f rfl (bif_of ik (bif_of ii ⟨ha _ rfl rfl rfl hs.eta, rfl, rfl, rfl, rfl, rfl, rfl, rfl, rfl, ⟨rfl, rfl⟩, ⟨rfl, rfl⟩, ⟨rfl, rfl⟩, ⟨rfl, rfl⟩, ⟨rfl, rfl⟩, trivial⟩)))
          · exact bif_t rfl ⟨rfl, ⟨rfl, rfl⟩, trivial⟩
      · obtain rfl := sim_em hn' h0 (hS1.gy hg2) hE1 hM2
        exact bif_both (bif_t rfl ⟨rfl, ⟨rfl, rfl⟩, trivial⟩) (bif_t rfl ⟨rfl, ⟨rfl, rfl⟩, trivial⟩)
      · exact (sim_me hn' h0 (hS1.gy hg2) hM1 hE2).elim
      · obtain ⟨rfl, hs⟩ := sim_mm hn' h0 (hS1.gy hg2) hM1 hM2
        exact bif_f (by simp) (bif_of ik (bif_of ii ⟨ha _ rfl rfl rfl hs.eta, rfl, rfl, rfl, rfl, rfl, rfl, rfl, rfl, ⟨rfl, rfl⟩, ⟨rfl, rfl⟩, ⟨rfl, rfl⟩, ⟨rfl, rfl⟩, ⟨rfl, rfl⟩, trivial⟩))
theorem round_101 (preo : List Value) (lo : List Pk) (no co : Nat) (dt : Option Addr) (ct : Nat) (prer : List Value) (lr : List (Rc OF)) (nr cr : Nat) (s : S3) (hno : no ≤ lo.length) (hbo : no ≤ 60) (hwo : ∀ j, j < no → pW (lo.getD j (rz PF)) ≤ 16384) (hp : P3 no 0 s) :
    frK 191 (I3101 preo lo no co dt ct prer lr nr cr s) fun fr => vround Try.prog E3 noL 3 4 fr (N3101 preo lo no co dt ct prer lr nr cr s) (Kq (mA101 preo lo no co dt ct prer lr nr cr) 4 191 (sel101 s.k s.m s.i) (fun s' => P3 no 0 s' ∧ mu3 no 0 s' < mu3 no 0 s) (I3101 preo lo no co dt ct prer lr nr cr) (N3101 preo lo no co dt ct prer lr nr cr) [] (mA101 preo lo no co dt ct prer lr nr cr) [(6, .b true)] (mA101 preo lo no co dt ct prer lr nr cr)) := by
  obtain ⟨i, k, m, mx, cx, ex, gx, my, cy, ey, gy⟩ := s
  obtain ⟨hk0, hm, hi0, hS⟩ := hp
  have hk0 : k ≤ no := hk0
  have hm : m ≤ 0 := hm
  have hi0 : i = k + m := hi0
  have hS : Sim i (stO mx cx ex gx) (stO my cy ey gy) := hS
  refine of_eq (rc101 preo lo no co dt ct prer lr nr cr k m i mx cx ex gx my cy ey gy _) ?_
  cases hc : ilt (k : Int) (no : Int)
  · exact ⟨rfl, ⟨rfl, rfl⟩, ⟨rfl, rfl⟩, trivial⟩
  · have hk := of_ilt hc
    have ha : ∀ s' : S3, s'.i = i + 1 → s'.k = k + 1 → s'.m = m → Sim (i + 1) s'.x s'.y → (fun s' => P3 no 0 s' ∧ mu3 no 0 s' < (no - k) + (0 - m)) s' := fun s' e1 e2 e3 hs => ⟨⟨by omega, by omega, by omega, by rw [e1]; exact hs⟩, by unfold mu3; omega⟩
    have hn := hno
    have hi : i ≤ 80 := by omega
    have hw := hwo k hk
    rw [show k + (preo.length - preo.length) / 9 = k by omega]
    have hfx : (ex.filter fun e => !e.u.ule (BitVec.ofInt 64 1)) = ex := hS.lx.fil
    rw [hfx]
    have hfy : (ey.filter fun e => !e.u.ule (BitVec.ofInt 64 1)) = ey := hS.ly.fil
    rw [hfy]
    have hw : (lo.getD k (rz PF)).2.2.2.2.2.2.2.2.1.length ≤ 16384 := hw
    generalize lo.getD k (rz PF) = r at hw ⊢
    obtain ⟨r1, r2, r3, r4, r5, r6, r7, r8, r9, u⟩ := r
    dsimp only at hw ⊢
    have hn' : evN ⟨r1, r2, r3, r5 &&& ~~~BitVec.ofInt 16 1⟩ := own_ev r5
    have h0 : 0 ≤ 8 * ((r8.toNat : Nat) : Int) := by omega
    have b9 : r9.length ≤ 4294967296 := Nat.le_trans hw (by decide)
    have ik : inI ((k : Int) + 1) = true := inI_iff.2 (by omega)
    have ii : inI ((i : Int) + 1) = true := inI_iff.2 (by omega)
    have sx : ∀ e ∈ ex, e.len ≤ 33554430 := fun e he => Nat.le_trans (hS.lx.row e he).2.1 (by omega)
    have sy : ∀ e ∈ ey, e.len ≤ 33554430 := fun e he => Nat.le_trans (hS.ly.row e he).2.1 (by omega)
    refine bif_of (inR_iff.2 ⟨by omega, by omega⟩) (bif_of (and_t (rok_p preo (by omega)) rfl) ⟨hS.lx.ok, fun gs1 hg1 => ?_⟩)
    have hS1 := hS.gx hg1
    cases hp : isPc r7 r8
    · refine bif_of (ble_of b9) ⟨hS1.ly.ok, fun gs2 hg2 => ?_⟩
      refine bif_of (ble_of b9) (bif_f (by simp) (bif_of ik (bif_of ii ⟨ha _ rfl rfl rfl ((hS1.gy hg2).up (Nat.le_succ _)), rfl, rfl, rfl, rfl, rfl, rfl, rfl, rfl, ⟨rfl, rfl⟩, ⟨rfl, rfl⟩, ⟨rfl, rfl⟩, ⟨rfl, rfl⟩, ⟨rfl, rfl⟩, ⟨rfl, rfl⟩, trivial⟩)))
    · refine ⟨⟨hg1, b9, sx⟩, fun s1 z1 hE1 => ⟨hS1.ly.ok, fun gs2 hg2 => ⟨⟨hg2, b9, sy⟩, fun s2 z2 hE2 => ?_, fun s2 ps2 hM2 => ?_⟩⟩, fun s1 ps1 hM1 => ⟨hS1.ly.ok, fun gs2 hg2 => ⟨⟨hg2, b9, sy⟩, fun s2 z2 hE2 => ?_, fun s2 ps2 hM2 => ?_⟩⟩⟩
      · rcases sim_ee hn' h0 (hS1.gy hg2) hE1 hE2 with rfl | ⟨rfl, hs⟩
        · exact bif_both (bif_both (bif_t rfl ⟨rfl, ⟨rfl, rfl⟩, ⟨rfl, rfl⟩, trivial⟩) (bif_t rfl ⟨rfl, ⟨rfl, rfl⟩, ⟨rfl, rfl⟩, trivial⟩)) (bif_t rfl ⟨rfl, ⟨rfl, rfl⟩, ⟨rfl, rfl⟩, trivial⟩)
        · refine bif_f (by simp) ?_
          cases hz : (z1 == 6)
          · exact bif_f rfl (bif_f rfl (bif_of ik (bif_of ii ⟨ha _ rfl rfl rfl hs.eta, rfl, rfl, rfl, rfl, rfl, rfl, rfl, rfl, ⟨rfl, rfl⟩, ⟨rfl, rfl⟩, ⟨rfl, rfl⟩, ⟨rfl, rfl⟩, ⟨rfl, rfl⟩, ⟨rfl, rfl⟩, trivial⟩)))
          · exact bif_t rfl ⟨rfl, ⟨rfl, rfl⟩, ⟨rfl, rfl⟩, trivial⟩
      · obtain rfl := sim_em hn' h0 (hS1.gy hg2) hE1 hM2
        exact bif_both (bif_t rfl ⟨rfl, ⟨rfl, rfl⟩, ⟨rfl, rfl⟩, trivial⟩) (bif_t rfl ⟨rfl, ⟨rfl, rfl⟩, ⟨rfl, rfl⟩, trivial⟩)
      · exact (sim_me hn' h0 (hS1.gy hg2) hM1 hE2).elim
      · obtain ⟨rfl, hs⟩ := sim_mm hn' h0 (hS1.gy hg2) hM1 hM2
        exact bif_f (by simp) (bif_of ik (bif_of ii ⟨ha _ rfl rfl rfl hs.eta, rfl, rfl, rfl, rfl, rfl, rfl, rfl, rfl, ⟨rfl, rfl⟩, ⟨rfl, rfl⟩, ⟨rfl, rfl⟩, ⟨rfl, rfl⟩, ⟨rfl, rfl⟩, ⟨rfl, rfl⟩, trivial⟩))
end Go.Proofs.Ytggoncamiafclab
