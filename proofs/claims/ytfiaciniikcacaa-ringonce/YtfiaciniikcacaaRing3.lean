/-
  The walks of what Add of package ring asks of buffers: may they be a chain. No statement is proved here.
-/
import Derived.Test.YtfiaciniikcacaaRing2
namespace Go.Proofs.Ytfiaciniikcacaa
open Go.RowKit Go.BigFrame
set_option linter.unusedVariables false
set_option linter.unusedSimpArgs false
set_option maxRecDepth 1000000
set_option maxHeartbeats 4000000

/-- A buffer: its place, its length, does the device write it? -/
structure Bf where
  A : Nat
  L : Nat
  I : Bool
structure BufAt (w : World) (b o : Nat) (x : Bf) : Prop where
  c0 : w.cell? ⟨b, o, none⟩ = some (.int .u32 (x.A : Nat))
  c1 : w.cell? ⟨b, o + 1, none⟩ = some (.int .u32 (x.L : Nat))
  c2 : w.cell? ⟨b, o + 2, none⟩ = some (.bool x.I)
  hA : x.A < 4294967296
  hL : x.L < 4294967296
theorem BufAt.fr {S : List Nat} {w w' : World} {b o : Nat} {x : Bf} (h : BufAt w b o x) (hF : Fr S w w') (hb : b ∉ S) : BufAt w' b o x := ⟨hF.cell h.c0 hb, hF.cell h.c1 hb, hF.cell h.c2 hb, h.hA, h.hL⟩
/-- The buffers that a slice holds. -/
def Bufs (w : World) (v : Value) (xs : List Bf) : Prop :=
  (∃ p c, v = .slice p 0 c ∧ xs = []) ∨ ∃ b o cap, v = .slice (some ⟨b, o, none⟩) xs.length cap ∧ xs.length ≤ maxLen ∧ ∀ i (h : i < xs.length), BufAt w b (o + i * 3) xs[i]
/-- Does a row of buffers go on, behind one that is In or not? -/
def goB : Bool → List Bf → Bool
  | _, [] => true
  | n, x :: xs => !(decide (x.L < 1) || (n && !x.I)) && goB x.I xs
def mayB (xs : List Bf) : Bool := decide (1 ≤ xs.length ∧ xs.length ≤ 8) && goB false xs

theorem mayBe_any (v : Value) (xs : List Bf) (w : World) (hB : Bufs w v xs) : Calls Try.prog 35 #[v] w fun e w' => e = .returned (.bool (mayB xs)) ∧ Fr [] w w' := by
  rcases hB with ⟨p, c, rfl, rfl⟩ | ⟨b, o, cap, rfl, hm, hB⟩
  · go_enter Try.func35, Try.ntmps35
    go_wp2
    go_ret
    exact ⟨rfl, Fr.refl _ _⟩
  · unfold maxLen at hm
    by_cases h1 : 1 ≤ xs.length ∧ xs.length ≤ 8
    · have d1 : decide ((xs.length : Int) < 1) = false := by simp; omega
      have d2 : decide ((8 : Int) < (xs.length : Int)) = false := by simp; omega
      have HE := hid (show mayB xs = goB false xs by unfold mayB; simp [h1])
      have HB := hid hB
      clear hB
      go_enter Try.func35, Try.ntmps35
      go_wp2_with fail
      go_loopg [3, 16] xs.length (fun gk s q wr => ∃ (i : Nat) (n : Bool), i ≤ xs.length ∧ gk = xs.length - i ∧ q = .int .i64 i ∧ s = .bool n ∧ Hid (goB false xs = goB n (xs.drop i) ∧ Fr [] w wr))
      case atStart => exact ⟨0, false, Nat.zero_le _, rfl, rfl, rfl, hid ⟨rfl, Fr.refl _ _⟩⟩
      case round =>
        obtain ⟨i, n, hi, hgk, rfl, rfl, K0⟩ := hrel
        by_cases hlt : i < xs.length
        · have hlt' : (i : Int) < (xs.length : Int) := by omega
          have r := (HB.out i hlt).fr K0.out.2 (by simp)
          have r0 := r.c0
          have r1 := r.c1
          have r2 := r.c2
          have rL := r.hL
          have HG := hid (show goB n (xs.drop i) = (!(decide (xs[i].L < 1) || (n && !xs[i].I)) && goB xs[i].I (xs.drop (i + 1))) by rw [List.drop_eq_getElem_cons hlt]; rfl)
          clear r
          generalize xs[i] = x at *
          obtain ⟨xA, xL, xI⟩ := x
          simp only at *
          by_cases hL : xL < 1
          · have e1 : decide ((xL : Int) < 1) = true := by simp; omega
            have e2 : decide (xL < 1) = true := by simp; omega
            go_wp2
            go_ret
            exact ⟨by rw [HE.out, K0.out.1, HG.out, e2]; rfl, K0.out.2.alloc _⟩
          · have e1 : decide ((xL : Int) < 1) = false := by simp; omega
            have e2 : decide (xL < 1) = false := by simp; omega
            have HL := hid e2
            clear e2
            by_cases hq : n = true ∧ xI = false
            · obtain ⟨rfl, rfl⟩ := hq
              go_wp2
              go_ret
              exact ⟨by rw [HE.out, K0.out.1, HG.out]; simp, K0.out.2.alloc _⟩
            · have HQ := hid (show (n && !xI) = false by cases n <;> cases xI <;> simp_all)
              have HN := hid (show goB false xs = goB xI (xs.drop (i + 1)) by rw [K0.out.1, HG.out, HL.out, HQ.out]; rfl)
              have hqb : (!n || xI) = true := by cases n <;> cases xI <;> simp_all
              cases n <;> cases xI
              all_goals first
                | exact absurd ⟨rfl, rfl⟩ hq
                | (clear hq hqb HG
                   go_wp2
                   go_roundg (xs.length - (i + 1))
                   case measure => omega
                   case rel => exact ⟨i + 1, _, by omega, rfl, by go_num, rfl, hid ⟨HN.out, K0.out.2.alloc _⟩⟩)
        · obtain rfl : i = xs.length := by omega
          go_wp2
          go_ret
          exact ⟨by rw [HE.out, K0.out.1]; simp [goB], K0.out.2⟩
    · have HE := hid (show mayB xs = false by unfold mayB; simp only [h1, decide_false, Bool.false_and])
      clear hB
      by_cases h2 : xs.length < 1
      · have d1 : decide ((xs.length : Int) < 1) = true := by simp; omega
        go_enter Try.func35, Try.ntmps35
        go_wp2
        go_ret
        exact ⟨by rw [HE.out]; rfl, Fr.refl _ _⟩
      · have d1 : decide ((xs.length : Int) < 1) = false := by simp; omega
        have d2 : decide ((8 : Int) < (xs.length : Int)) = true := by simp; omega
        go_enter Try.func35, Try.ntmps35
        go_wp2
        go_ret
        exact ⟨by rw [HE.out]; rfl, Fr.refl _ _⟩

end Go.Proofs.Ytfiaciniikcacaa
