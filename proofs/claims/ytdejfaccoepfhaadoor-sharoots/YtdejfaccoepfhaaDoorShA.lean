/-
  sha: turned words, and the words of a block; the document's next word. No statement is proved here.
-/
import Derived.Test.YtdejfaccoepfhaaDoorVcT
namespace Go.Proofs.YtdejfaccoepfhaaDoor
open Go.RowKit
set_option linter.unusedVariables false
set_option linter.unusedSimpArgs false
set_option maxRecDepth 100000

/-- The words to begin with, and the constants. -/
def H0 : List (BitVec 64) := [0x6a09e667f3bcc908, 0xbb67ae8584caa73b, 0x3c6ef372fe94f82b, 0xa54ff53a5f1d36f1, 0x510e527fade682d1, 0x9b05688c2b3e6c1f, 0x1f83d9abfb41bd6b, 0x5be0cd19137e2179]
def K80 : List (BitVec 64) := [0x428a2f98d728ae22, 0x7137449123ef65cd, 0xb5c0fbcfec4d3b2f, 0xe9b5dba58189dbbc, 0x3956c25bf348b538, 0x59f111f1b605d019, 0x923f82a4af194f9b, 0xab1c5ed5da6d8118, 0xd807aa98a3030242, 0x12835b0145706fbe, 0x243185be4ee4b28c, 0x550c7dc3d5ffb4e2, 0x72be5d74f27b896f, 0x80deb1fe3b1696b1, 0x9bdc06a725c71235, 0xc19bf174cf692694, 0xe49b69c19ef14ad2, 0xefbe4786384f25e3, 0x0fc19dc68b8cd5b5, 0x240ca1cc77ac9c65, 0x2de92c6f592b0275, 0x4a7484aa6ea6e483, 0x5cb0a9dcbd41fbd4, 0x76f988da831153b5, 0x983e5152ee66dfab, 0xa831c66d2db43210, 0xb00327c898fb213f, 0xbf597fc7beef0ee4, 0xc6e00bf33da88fc2, 0xd5a79147930aa725, 0x06ca6351e003826f, 0x142929670a0e6e70, 0x27b70a8546d22ffc, 0x2e1b21385c26c926, 0x4d2c6dfc5ac42aed, 0x53380d139d95b3df, 0x650a73548baf63de, 0x766a0abb3c77b2a8, 0x81c2c92e47edaee6, 0x92722c851482353b, 0xa2bfe8a14cf10364, 0xa81a664bbc423001, 0xc24b8b70d0f89791, 0xc76c51a30654be30, 0xd192e819d6ef5218, 0xd69906245565a910, 0xf40e35855771202a, 0x106aa07032bbd1b8, 0x19a4c116b8d2d0c8, 0x1e376c085141ab53, 0x2748774cdf8eeb99, 0x34b0bcb5e19b48a8, 0x391c0cb3c5c95a63, 0x4ed8aa4ae3418acb, 0x5b9cca4f7763e373, 0x682e6ff3d6b2b8a3, 0x748f82ee5defb2fc, 0x78a5636f43172f60, 0x84c87814a1f0ab72, 0x8cc702081a6439ec, 0x90befffa23631e28, 0xa4506cebde82bde9, 0xbef9a3f7b2c67915, 0xc67178f2e372532b, 0xca273eceea26619c, 0xd186b8c721c0c207, 0xeada7dd6cde0eb1e, 0xf57d4f7fee6ed178, 0x06f067aa72176fba, 0x0a637dc5a2c898a6, 0x113f9804bef90dae, 0x1b710b35131c471b, 0x28db77f523047d84, 0x32caab7b40c72493, 0x3c9ebe0a15c9bebc, 0x431d67c49c100d4c, 0x4cc5d4becb3e42b6, 0x597f299cfc657e2a, 0x5fcb6fab3ad6faec, 0x6c44198c4a475817]
/-- The two package variables. -/
def G : Mm := [⟨false, .a64 H0⟩, ⟨false, .a64 K80⟩]
theorem mixed : Tryd.prog.follows .mixedOrders = true := by kernel_rfl
def E0 : Env := ⟨G, noT, noC⟩
theorem e0_ok : EnvOk Tryd.prog E0 := ⟨noT_ok _ _, noC_ok _ _⟩
/-- A word, turned to the right by n, as the document does. -/
def rr (x n : BitVec 64) : BitVec 64 := (x >>> n.toNat) ||| (x <<< (64#64 - n).toNat)
def cRight : List SV → List Cont → Option (Bool × SV)
  | [.w64 x, .w64 n], _ => some (true, .w64 (rr x n))
  | _, _ => none
theorem vc25 (x n : BitVec 64) (K : SV → Mm → Prop) : (vf Tryd.prog E0 noL 25 [.w64 x, .w64 n] G K) = (K (SV.w64 (x >>> n.toNat ||| x <<< (BitVec.ofInt 64 64 - n).toNat)) G) := by kernel_rfl
theorem right_ok : POk Tryd.prog G 25 cRight := by
  intro args acs r h β M w hR hw ha
  unfold cRight at h
  split at h
  · simp only [Option.some.injEq, Prod.mk.injEq, true_and] at h
    subst h
    refine pure0 (vf_ok e0_ok mixed (noL_ok _ _ _ _) (of_eq (vc25 _ _ _) ?_)) rfl rfl hR
    rfl
  · cases h
/-- .. and to the left by k, as the library does. -/
def rl (x : BitVec 64) (k : Int) : BitVec 64 := (x <<< (BitVec.ofInt 64 k &&& 63).toNat) ||| (x >>> (64#64 - (BitVec.ofInt 64 k &&& 63)).toNat)
def cRotl : List SV → List Cont → Option (Bool × SV)
  | [.w64 x, .i k], _ => some (true, .w64 (rl x k))
  | _, _ => none
theorem vc21 (x : BitVec 64) (k : Int) (K : SV → Mm → Prop) : (vf Tryd.prog E0 noL 21 [.w64 x, .i k] G K) = (K (SV.w64 (x <<< (BitVec.ofInt 64 k &&& BitVec.ofInt 64 63).toNat ||| x >>> (BitVec.ofInt 64 64 - (BitVec.ofInt 64 k &&& BitVec.ofInt 64 63)).toNat)) G) := by kernel_rfl
theorem rotl_ok : POk Tryd.prog G 21 cRotl := by
  intro args acs r h β M w hR hw ha
  unfold cRotl at h
  split at h
  · simp only [Option.some.injEq, Prod.mk.injEq, true_and] at h
    subst h
    refine pure0 (vf_ok e0_ok mixed (noL_ok _ _ _ _) (of_eq (vc21 _ _ _) ?_)) rfl rfl hR
    rfl
  · cases h
def T1 : PT := (noT.add 25 cRight).add 21 cRotl
def E1 : Env := ⟨G, T1, noC⟩
theorem e1_ok : EnvOk Tryd.prog E1 := ⟨PT.add_ok (PT.add_ok (noT_ok _ _) right_ok) rotl_ok, noC_ok _ _⟩
/-- A word, turned by each of a row of numbers, exclusive or. -/
def tw (x : BitVec 64) (l : List Int) : BitVec 64 := l.foldl (fun a n => a ^^^ rl x (-n)) 0
def B20 (l : List Int) : Mm := [⟨false, .a64 H0⟩, ⟨false, .a64 K80⟩, ⟨false, .ints l⟩]
def i20 (x : BitVec 64) (l : List Int) (j : Nat) : List (Nat × SV) := [(0, .w64 x), (4, .w64 (tw x (l.take j))), (7, .sl 2 0 l.length l.length), (8, .i (l.length : Nat)), (9, .i (j : Nat))]
def L20 (x : BitVec 64) (l : List Int) : LT := noL.add 0 (vLoop (B20 l) 21 (i20 x l 0) (B20 l) [(4, .w64 (tw x l))] (B20 l))
theorem vc20 (x : BitVec 64) (l : List Int) (K : SV → Mm → Prop) : (vf Tryd.prog E1 (L20 x l) 20 [.w64 x, .sl 2 0 l.length l.length] (B20 l) K) = (loopOf Tryd.prog 20 0 = loopOf Tryd.prog 20 0 ∧ SV.w64 x = SV.w64 x ∧ SV.w64 (BitVec.ofInt 64 0) = SV.w64 (tw x (List.take 0 l)) ∧ SV.sl 2 0 l.length l.length = SV.sl 2 0 l.length l.length ∧ SV.i (↑l.length : Int) = SV.i (↑l.length : Int) ∧ SV.i 0 = SV.i (↑0 : Int) ∧ (false = false ∧ Cont.a64 H0 = Cont.a64 H0) ∧ (false = false ∧ Cont.a64 K80 = Cont.a64 K80) ∧ (false = false ∧ Cont.ints l = Cont.ints l) ∧ K (SV.w64 (tw x l)) (B20 l)) := by kernel_rfl
theorem vr20 (x : BitVec 64) (l : List Int) (j : Nat) (a : Prop) : (frK 21 (i20 x l j) fun fr => vround Tryd.prog E1 noL 20 0 fr (B20 l) (Kn (B20 l) 0 21 a (i20 x l (j + 1)) (B20 l) [(4, .w64 (tw x l))] (B20 l))) = (bif ilt (↑j : Int) (↑l.length : Int) then bif inR (↑j : Int) l.length then bif j.blt l.length then bif inI (-l.getD j 0) then bif inI ((↑j : Int) + 1) then a ∧ SV.w64 x = SV.w64 x ∧ SV.w64 (tw x (List.take j l) ^^^ rl x (-l.getD j 0)) = SV.w64 (tw x (List.take (j + 1) l)) ∧ SV.sl 2 0 l.length l.length = SV.sl 2 0 l.length l.length ∧ SV.i (↑l.length : Int) = SV.i (↑l.length : Int) ∧ SV.i ((↑j : Int) + 1) = SV.i (↑(j + 1) : Int) ∧ (false = false ∧ Cont.a64 H0 = Cont.a64 H0) ∧ (false = false ∧ Cont.a64 K80 = Cont.a64 K80) ∧ (false = false ∧ Cont.ints l = Cont.ints l) ∧ True else False else False else False else False else 0 = 0 ∧ SV.w64 (tw x (List.take j l)) = SV.w64 (tw x l) ∧ (false = false ∧ Cont.a64 H0 = Cont.a64 H0) ∧ (false = false ∧ Cont.a64 K80 = Cont.a64 K80) ∧ (false = false ∧ Cont.ints l = Cont.ints l) ∧ True) := by kernel_rfl
theorem ints_ren (l : List Int) (σ : Nat → Nat) : (Cont.ints l).ren σ = .ints l := rfl
theorem tw_succ (x : BitVec 64) (l : List Int) (j : Nat) (h : j < l.length) : tw x (l.take (j + 1)) = tw x (l.take j) ^^^ rl x (-l.getD j 0) := by
  unfold tw
  rw [List.take_add_one, getD_get 0 h, Option.toList_some, List.foldl_append]
  rfl
theorem inR_nat {j n : Nat} (h : j < n) : inR (j : Int) n = true := inR_iff.2 ⟨by omega, by omega⟩
theorem blt_of {a b : Nat} (h : a < b) : Nat.blt a b = true := by simpa [Nat.blt_eq] using h
theorem loop20 (x : BitVec 64) (l : List Int) (hl : l.length < 1000) (hn : ∀ n ∈ l, inI (-n) = true) : LOk Tryd.prog G (B20 l) 20 (L20 x l) := by
  refine LT.add_ok (noL_ok _ _ _ _) (loop_next e1_ok mixed (noL_ok _ _ _ _) (by show 2 ≤ 3; decide) (by kernel_rfl) (i20 x l) (fun _ => B20 l) (fun j => j ≤ l.length) (fun j => l.length - j) (fun j => j + 1) 0 (Nat.zero_le _) fun j hj => of_eq (vr20 x l j _) ?_)
  cases hc : ilt (j : Int) (l.length : Int)
  · have hj2 : j = l.length := by rw [ilt_eq] at hc; have := of_decide_eq_false hc; omega
    subst hj2
    simp
  · have hj2 : j < l.length := by rw [ilt_eq] at hc; have := of_decide_eq_true hc; omega
    have hm : l.getD j 0 ∈ l := by rw [List.getD_eq_getElem?_getD, List.getElem?_eq_getElem hj2]; exact List.getElem_mem hj2
    refine bif_of (inR_nat hj2) (bif_of (blt_of hj2) (bif_of (hn _ hm) (bif_of (inI_iff.2 (by omega)) ?_)))
    rw [tw_succ x l j hj2]
    refine ⟨⟨by omega, by omega⟩, ?_⟩
    simp
def cTurned : List SV → List Cont → Option (Bool × SV)
  | [.w64 x, .sl k off len cap], [_, .ints l] => some (Nat.beq off 0 && (Nat.beq len l.length && (Nat.beq cap l.length && (Nat.blt l.length 1000 && l.all fun n => inI (-n)))), .w64 (tw x l))
  | _, _ => none
theorem turned_ok : POk Tryd.prog G 20 cTurned := by
  intro args acs r h β M w hR hw ha
  unfold cTurned at h
  split at h
  · rename_i x k off len cap c0 l
    simp only [Option.some.injEq, Prod.mk.injEq, Bool.and_eq_true] at h
    obtain ⟨⟨h1, h2, h3, h4, h5⟩, rfl⟩ := h
    obtain rfl := Nat.eq_of_beq_eq_true h1
    obtain rfl := Nat.eq_of_beq_eq_true h2
    obtain rfl := Nat.eq_of_beq_eq_true h3
    simp only [List.map_cons, List.map_nil, List.cons.injEq, and_true] at ha
    refine pure1 (args0 := [.w64 x, .sl 2 0 l.length l.length]) (c := .ints l) (k := k) (vf_ok (M := B20 l) e1_ok mixed (loop20 x l (blt_lt h4) (List.all_eq_true.1 h5)) (of_eq (vc20 x l _) ?_)) rfl rfl rfl rfl rfl (ints_ren l) hR (tgt_some ha.2.symm rfl)
    simp [tw]
  · cases h
end Go.Proofs.YtdejfaccoepfhaaDoor
