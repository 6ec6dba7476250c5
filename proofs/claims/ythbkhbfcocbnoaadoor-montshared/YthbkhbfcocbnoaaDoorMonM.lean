/-
  MontKeys: its walk. No statement is proved here.
-/
import Derived.Test.YthbkhbfcocbnoaaDoorMonL
namespace Go.Proofs.YthbkhbfcocbnoaaDoor
open Go.RowKit Go.Lib Go.BigFrame
set_option linter.unusedVariables false
set_option linter.unusedSimpArgs false
set_option maxRecDepth 1000000
set_option maxHeartbeats 400000

theorem BX.fr {V V' : World} {b : Nat} {f : Nat → Int} (h : BX V b f) (hF : Fr [] V V') : BX V' b f := by
  have hb := hF.block b h.1 (by simp)
  refine ⟨Nat.lt_of_lt_of_le h.1 hF.size, fun j hj => ⟨?_, ?_⟩⟩
  · rw [← (h.2 j hj).1]
    unfold World.cell?
    simp only [hb]
  · rw [← (h.2 j hj).2]
    unfold World.frozen?
    simp only [hb]
/-- What Shared tells of a number. -/
def tell (v : Nat) : Value := if v = 0 then .tuple #[.string ByteArray.empty, .int .i64 80] else .tuple #[.string (by32 v), .int .i64 0]
theorem tell_open (v : Nat) : ∃ (t : ByteArray) (e : Int), tell v = .tuple #[.string t, .int .i64 e] := by
  unfold tell
  split
  · exact ⟨_, _, rfl⟩
  · exact ⟨_, _, rfl⟩
theorem shared_tell (s p : ByteArray) (hs : s.size = 32) (hp : p.size = 32) (w : World) (hP : PV w) : Calls Tryd.prog 7 #[.string s, .string p] w fun e w' => e = .returned (tell (ladN (kn s) (kp p))) ∧ Fr [] w w' := by
  have := shared_32 s p hs hp w hP
  rw [shv_eq] at this
  exact this
theorem rd_31 (s : ByteArray) : rd s 32 = rd s 31 + byt s 31 * 256 ^ 31 := rfl
theorem e31 : (256 : Nat) ^ 31 = 452312848583266388373324160190187140051835877600158453279131187530910662656 := by decide
theorem mod_top (r b : Nat) (h : r < 452312848583266388373324160190187140051835877600158453279131187530910662656) : (r + b * 452312848583266388373324160190187140051835877600158453279131187530910662656) % 57896044618658097711785492504343953926634992332820282019728792003956564819968 = r + b % 128 * 452312848583266388373324160190187140051835877600158453279131187530910662656 := by omega
/-- A public key as a number, by its bytes. -/
theorem kp_bytes (p : ByteArray) : rd p 32 % 57896044618658097711785492504343953926634992332820282019728792003956564819968 = rd p 31 + byt p 31 % 128 * 452312848583266388373324160190187140051835877600158453279131187530910662656 := by
  have h := rd_lt p 31
  rw [e31] at h
  rw [rd_31, e31]
  exact mod_top _ _ h
/-- A public key whose bytes are those of another, but for the highest bit, is the same key. -/
theorem kp_same (p q : ByteArray) (h : ∀ j, j < 31 → byt p j = byt q j) (h31 : byt p 31 % 128 = byt q 31 % 128) : kp p = kp q := by
  unfold kp
  rw [kp_bytes, kp_bytes, rd_same p q 31 h, h31]
def f1 (p : ByteArray) (j : Nat) : Int := if j = 31 then bits .xor .u8 ((byt p 31 : Nat) : Int) 128 else ((byt p j : Nat) : Int)
def f2 (p : ByteArray) (j : Nat) : Int := if j = 31 then bits .and .u8 (bits .xor .u8 ((byt p 31 : Nat) : Int) 128) 127 else if j = 31 then bits .xor .u8 ((byt p 31 : Nat) : Int) 128 else ((byt p j : Nat) : Int)
def g1 (k : ByteArray) (y : Nat) (j : Nat) : Int := if j = 31 then bits .xor .u8 ((byt k 31 : Nat) : Int) (bits .and .u8 ((y : Nat) : Int) 192) else if j = 0 then bits .xor .u8 ((byt k 0 : Nat) : Int) (bits .and .u8 ((y : Nat) : Int) 7) else ((byt k j : Nat) : Int)
theorem x128 : ∀ x : Fin 256, (bits .xor .u8 ((x.1 : Nat) : Int) 128).toNat % 256 % 128 = x.1 % 128 := by decide +kernel
theorem x127 : ∀ x : Fin 256, (bits .and .u8 (bits .xor .u8 ((x.1 : Nat) : Int) 128) 127).toNat % 256 = x.1 % 128 := by decide +kernel
theorem y7 : ∀ y : Fin 256, bits .and .u8 ((y.1 : Nat) : Int) 7 = ((y.1 % 8 : Nat) : Int) := by decide +kernel
theorem y192 : ∀ y : Fin 256, bits .and .u8 ((y.1 : Nat) : Int) 192 = ((y.1 / 64 * 64 : Nat) : Int) := by decide +kernel
theorem x7 : ∀ (x : Fin 256) (y : Fin 8), bits .andNot .u8 (((bits .xor .u8 ((x.1 : Nat) : Int) ((y.1 : Nat) : Int)).toNat % 256 : Nat) : Int) 7 = bits .andNot .u8 ((x.1 : Nat) : Int) 7 := by decide +kernel
theorem x192 : ∀ (x : Fin 256) (y : Fin 4), bits .or .u8 (bits .andNot .u8 (((bits .xor .u8 ((x.1 : Nat) : Int) ((y.1 * 64 : Nat) : Int)).toNat % 256 : Nat) : Int) 128) 64 = bits .or .u8 (bits .andNot .u8 ((x.1 : Nat) : Int) 128) 64 := by decide +kernel
theorem byt_f (f : Nat → Int) (p : ByteArray) (hf : ∀ j, j < 31 → f j = ((byt p j : Nat) : Int)) : ∀ j, j < 31 → byt (sbi f) j = byt p j := fun j hj => by
  rw [byt_sbi _ _ (by omega), hf j hj]
  have := byt_lt p j
  show (byt p j : Nat) % 256 = _
  omega
theorem kp_f1 (p : ByteArray) : kp (sbi (f1 p)) = kp p := by
  refine kp_same _ _ (byt_f _ _ fun j hj => by unfold f1; rw [if_neg (by omega)]) ?_
  rw [byt_sbi _ _ (by omega)]
  unfold f1
  rw [if_pos rfl]
  exact x128 ⟨byt p 31, byt_lt p 31⟩
theorem of_f2 (p : ByteArray) : of (sbi (f2 p)) = kp p := by
  have h31 : byt (sbi (f2 p)) 31 = byt p 31 % 128 := by
    rw [byt_sbi _ _ (by omega)]
    unfold f2
    rw [if_pos rfl]
    exact x127 ⟨byt p 31, byt_lt p 31⟩
  unfold of kp
  rw [kp_bytes, rd_31, e31, rd_same _ p 31 (byt_f _ _ fun j hj => by unfold f2; rw [if_neg (by omega), if_neg (by omega)]), h31]
theorem g_31 (x y : Nat) (hx : x < 256) (hy : y < 256) : bits .or .u8 (bits .andNot .u8 (((bits .xor .u8 ((x : Nat) : Int) (bits .and .u8 ((y : Nat) : Int) 192)).toNat % 256 : Nat) : Int) 128) 64 = bits .or .u8 (bits .andNot .u8 ((x : Nat) : Int) 128) 64 := by
  have h1 : bits .and .u8 ((y : Nat) : Int) 192 = ((y / 64 * 64 : Nat) : Int) := y192 ⟨y, hy⟩
  rw [h1]
  exact x192 ⟨x, hx⟩ ⟨y / 64, by omega⟩
theorem g_0 (x y : Nat) (hx : x < 256) (hy : y < 256) : bits .andNot .u8 (((bits .xor .u8 ((x : Nat) : Int) (bits .and .u8 ((y : Nat) : Int) 7)).toNat % 256 : Nat) : Int) 7 = bits .andNot .u8 ((x : Nat) : Int) 7 := by
  have h1 : bits .and .u8 ((y : Nat) : Int) 7 = ((y % 8 : Nat) : Int) := y7 ⟨y, hy⟩
  rw [h1]
  exact x7 ⟨x, hx⟩ ⟨y % 8, by omega⟩
theorem cl_g1 (k : ByteArray) (y : Nat) (hy : y < 256) (j : Nat) (hj : j < 32) : cl (sbi (g1 k y)) j = cl k j := by
  unfold cl
  by_cases h31 : j = 31
  · rw [if_pos h31, if_pos h31, byt_sbi _ 31 (by omega)]
    have e : g1 k y 31 = bits .xor .u8 ((byt k 31 : Nat) : Int) (bits .and .u8 ((y : Nat) : Int) 192) := by unfold g1; rw [if_pos rfl]
    rw [e]
    exact g_31 _ _ (byt_lt k 31) hy
  · rw [if_neg h31, if_neg h31]
    by_cases h0 : j = 0
    · rw [if_pos h0, if_pos h0, byt_sbi _ 0 (by omega)]
      have e : g1 k y 0 = bits .xor .u8 ((byt k 0 : Nat) : Int) (bits .and .u8 ((y : Nat) : Int) 7) := by unfold g1; rw [if_neg (by omega), if_pos rfl]
      rw [e]
      exact g_0 _ _ (byt_lt k 0) hy
    · rw [if_neg h0, if_neg h0, byt_sbi _ _ hj]
      have e : g1 k y j = ((byt k j : Nat) : Int) := by unfold g1; rw [if_neg h31, if_neg h0]
      rw [e]
      have := byt_lt k j
      rw [Int.toNat_natCast]
      omega
theorem kn_g1 (k : ByteArray) (y : Nat) (hy : y < 256) : kn (sbi (g1 k y)) = kn k := by
  unfold kn
  refine rd_same _ _ 32 fun j hj => ?_
  rw [byt_sbi _ _ hj, byt_sbi _ _ hj, cl_g1 k y hy j hj]
end Go.Proofs.YthbkhbfcocbnoaaDoor
