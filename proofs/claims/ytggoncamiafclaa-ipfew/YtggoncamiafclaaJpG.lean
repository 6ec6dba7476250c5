/-
  ip: the law IpFew answers true. No statement is proved here.
-/
import Derived.Test.YtggoncamiafclaaJpF
namespace Go.Proofs.Ytggoncamiafclaa
open Go.RowKit
set_option linter.unusedVariables false
set_option linter.unusedSimpArgs false
set_option maxRecDepth 100000

theorem loop7 (pre : List Value) (l : List Sr) (len cap : Nat) (lf : BitVec 16) (q : Int) (f : BitVec 64) (H : H7 l len lf q f) : LOk Try.prog G (mH pre l) 7 (L7 pre l len cap lf q f (P7 q f len)) := by
  refine LT.add_ok (noL_ok _ _ _ _) fun fr M K hh => ?_
  unfold v7L at hh
  split at hh
  · rename_i mb clk es gs _
    obtain ⟨hle, ⟨hk, he⟩, hK⟩ := vLe_ok hh
    have he : es = [] := List.eq_nil_of_length_eq_zero (Nat.eq_of_beq_eq_true he)
    have h1 := H.h1
    refine loop_pick e7_ok mixed (by show 0 ≤ 1; decide) (by kernel_rfl) (I7 pre len cap lf q) (Ms7 pre l q f) (P7 q f len) (fun st => len - st.i) (fun st => sel7 st.i) (fun st => st.i = len) (fun st => o7 lf st.now) (Ms7 pre l q f) ⟨0, 0, mb, clk, es, gs⟩ ⟨Nat.zero_le _, by show (0 : BitVec 64).toNat ≤ 15 * 0; decide, ⟨hk, by subst he; show (0 : Int) ≤ q; omega, fun e hm => by subst he; cases hm⟩⟩ (fun _ => noL) (fun _ _ => noL_ok _ _ _ _) (fun st hp => ?_) hle (fun st hp hq => ?_)
    · obtain ⟨i, now, mb, clk, es, gs⟩ := st
      exact round7 pre l len cap lf q f now i mb clk es gs H hp
    · obtain ⟨i, now, mb, clk, es, gs⟩ := st
      have hq : i = len := hq
      subst hq
      have := hK now mb clk es gs hp
      rw [frK_eq] at this
      exact this
  · exact hh.elim
abbrev q7 (most : BitVec 8) : Int := ((most.toNat : Nat) : Int).tmod 8 + 1
abbrev f7 (lf : BitVec 16) : BitVec 64 := BitVec.setWidth 64 lf + BitVec.ofInt 64 1
theorem q7_b (most : BitVec 8) : 1 ≤ q7 most ∧ q7 most ≤ 8 := by
  have h1 := Int.tmod_nonneg 8 (show (0 : Int) ≤ ((most.toNat : Nat) : Int) by omega)
  have h2 := Int.tmod_lt_of_pos ((most.toNat : Nat) : Int) (show (0 : Int) < 8 by decide)
  unfold q7
  omega
theorem f7_n (lf : BitVec 16) : (f7 lf).toNat = lf.toNat + 1 := by
  have h := lf.isLt
  have e1 : (BitVec.ofInt 64 1).toNat = 1 := by decide
  unfold f7
  rw [BitVec.toNat_add, BitVec.toNat_setWidth, e1, Nat.mod_eq_of_lt (a := lf.toNat) (by omega), Nat.mod_eq_of_lt (by omega)]
theorem f7_lo (lf : BitVec 16) : (f7 lf).ult (BitVec.ofInt 64 1) = false := by
  have e1 : (BitVec.ofInt 64 1).toNat = 1 := by decide
  rw [BitVec.ult, f7_n, e1, decide_eq_false_iff_not]; omega
theorem f7_hi (lf : BitVec 16) : (BitVec.ofInt 64 4294967296).ult (f7 lf) = false := by
  have h := lf.isLt
  have e1 : (BitVec.ofInt 64 4294967296).toNat = 4294967296 := by decide
  rw [BitVec.ult, f7_n, e1, decide_eq_false_iff_not]; omega
theorem gone7 {q : Int} {now : BitVec 64} {lf : BitVec 16} {i : Nat} {s : St} (h : Few q (f7 lf).toNat now.toNat i s) (hn : now.toNat ≤ 1500) : (s.es.filter fun e => !e.u.ule (now + BitVec.setWidth 64 lf + BitVec.ofInt 64 1)) = [] := by
  refine List.filter_eq_nil_iff.2 fun e he => ?_
  have h1 := (h.row e he).1
  have h2 : (now + BitVec.setWidth 64 lf + BitVec.ofInt 64 1).toNat = now.toNat + (f7 lf).toNat := by
    have h3 := lf.isLt
    have h4 := f7_n lf
    rw [BitVec.add_assoc]
    show (now + f7 lf).toNat = _
    rw [BitVec.toNat_add, Nat.mod_eq_of_lt (by omega)]
  have : e.u.ule (now + BitVec.setWidth 64 lf + BitVec.ofInt 64 1) = true := by
    rw [BitVec.ule, h2]; exact decide_eq_true h1
  rw [this]; simp
theorem last_ule {now : BitVec 64} {lf : BitVec 16} (hn : now.toNat ≤ 1500) : (BitVec.ofInt 64 4611686018427387904).ule (now + BitVec.setWidth 64 lf + BitVec.ofInt 64 1) = false := by
  have e : (BitVec.ofInt 64 4611686018427387904).toNat = 4611686018427387904 := by decide
  have h3 := lf.isLt
  have h4 := f7_n lf
  rw [BitVec.ule, decide_eq_false_iff_not, BitVec.add_assoc, e]
  have : (now + f7 lf).toNat = now.toNat + (f7 lf).toNat := by rw [BitVec.toNat_add, Nat.mod_eq_of_lt (by omega)]
  show ¬ _ ≤ (now + f7 lf).toNat
  omega
theorem law7_ok (pre : List Value) (l : List Sr) (len cap : Nat) (most : BitVec 8) (lf : BitVec 16) (hl : len ≤ l.length) (hb : len ≤ 140737488355328) (ho : okSc l = true) : Spec Try.prog G 7 [.w8 most, .w16 lf, .rs 0 pre.length 0 10 len cap] (mH pre l) (fun r _ => r = .b true) := by
  have a0 : (pre.length.beq pre.length && (len.ble l.length && (len.ble 140737488355328 && okSc l))) = true := and_t (Nat.beq_refl _) (and_t (ble_of hl) (and_t (ble_of hb) ho))
  cases hv : hvB l len
  · obtain ⟨g1, g2⟩ := hv_no hv
    obtain ⟨q1, q2⟩ := q7_b most
    have q1' : 1 ≤ ((most.toNat : Nat) : Int).tmod 8 + 1 := q1
    have q2' : ((most.toNat : Nat) : Int).tmod 8 + 1 ≤ 8 := q2
    refine vf_ok e7_ok mixed (loop7 pre l len cap lf (q7 most) (f7 lf) ⟨f7_n lf, g1, hl, g2, q1, q2⟩) (of_eq (v7 pre l len cap most lf _ _ _ _) (bif_of a0 (bif_f hv (bif_of (inI_iff.2 (by omega)) (bif_f (ilt_no (by omega)) (bif_f (f7_lo lf) (bif_f (f7_hi lf) fun x => ⟨rfl, rfl, rfl, rfl, rfl, rfl, rfl, ⟨rfl, rfl⟩, ⟨rfl, rfl⟩, ⟨rfl, rfl⟩, ⟨ok_empty x 0, rfl⟩, fun now mb clk es gs hQ => ?_⟩)))))))
    obtain ⟨-, hn, hf⟩ := hQ
    have hn : now.toNat ≤ 15 * len := hn
    have hn : now.toNat ≤ 1500 := by omega
    refine bif_f (beq_eq_false_iff_ne.2 (by omega)) (bif_f (last_ule hn) ⟨hf.ok, fun gs' hg => ?_⟩)
    have hg0 := gone7 hf hn
    have hg0 : (es.filter fun e => !e.u.ule (now + BitVec.setWidth 64 lf + BitVec.ofInt 64 1)) = [] := hg0
    rw [hg0]
    refine bif_t ?_ rfl
    show ((bif _ == 0 then 0 else ((0 : Nat) : Int)) == 0) = true
    rw [wt_eq q1]; rfl
  · exact vf_ok e7_ok mixed (noL_ok _ _ _ _) (of_eq (v7h pre l len cap most lf _) (bif_of a0 (bif_t hv rfl)))
def M7z (q : Int) (f : BitVec 64) (mb : Nat) (es : List SetE) : Mm := [⟨true, .res (stO mb 0 es [])⟩, ⟨true, .row [.i q, .w64 f, .mp 0]⟩]
def i7z (d : Option Addr) (c : Nat) (lf : BitVec 16) : List (Nat × SV) := [(1, .w16 lf), (2, .v (.slice d 0 c)), (8, .ptr 1 0), (10, .w64 0), (11, .i 0)]
def o7z (lf : BitVec 16) : List (Nat × SV) := [(1, .w16 lf), (8, .ptr 1 0), (10, .w64 0)]
def rdZ (M : Mm) : Option Nat := match (M[0]? : Option Ent) with
  | some ⟨_, .res ⟨mb, _, _, false, none, _⟩⟩ => some mb
  | _ => none
def v7Lz (d : Option Addr) (c : Nat) (lf : BitVec 16) (q : Int) (f : BitVec 64) (es : List SetE) (fr : List SV) (M : Mm) (K : Ko) : Prop := match rdZ M with
  | some mb => vLoop G 128 (i7z d c lf) (M7z q f mb []) (o7z lf) (M7z q f mb es) fr M K
  | _ => False
def L7z (d : Option Addr) (c : Nat) (lf : BitVec 16) (q : Int) (f : BitVec 64) (es : List SetE) : LT := noL.add 0 (v7Lz d c lf q f es)
theorem r7z (d : Option Addr) (c : Nat) (lf : BitVec 16) (q : Int) (f : BitVec 64) (mb : Nat) (a : Prop) : (frK 128 (i7z d c lf) fun fr => vround Try.prog E7 noL 7 0 fr (M7z q f mb []) (Kn G 0 128 a (i7z d c lf) (M7z q f mb []) (o7z lf) (M7z q f mb []))) = (0 = 0 ∧ SV.w16 lf = SV.w16 lf ∧ SV.ptr 1 0 = SV.ptr 1 0 ∧ SV.w64 0 = SV.w64 0 ∧ (true = true ∧ Cont.res (stO mb 0 [] []) = Cont.res (stO mb 0 [] [])) ∧ (true = true ∧ Cont.row [SV.i q, SV.w64 f, SV.mp 0] = Cont.row [SV.i q, SV.w64 f, SV.mp 0]) ∧ True) := by kernel_rfl
theorem v7z (d : Option Addr) (c : Nat) (most : BitVec 8) (lf : BitVec 16) (q : Int) (f : BitVec 64) (es : List SetE) (K : SV → Mm → Prop) : (vf Try.prog E7 (L7z d c lf q f es) 7 [.w8 most, .w16 lf, .v (.slice d 0 c)] G K) = (bif inI ((↑most.toNat : Int).tmod 8 + 1) then bif bif false then true else ilt 32 ((↑most.toNat : Int).tmod 8 + 1) then K (SV.b false) G else bif bif false then true else (BitVec.setWidth 64 lf + BitVec.ofInt 64 1).ult (BitVec.ofInt 64 1) then K (SV.b false) G else bif bif false then true else (BitVec.ofInt 64 4294967296).ult (BitVec.setWidth 64 lf + BitVec.ofInt 64 1) then K (SV.b false) G else ∀ (x : Nat), loopOf Try.prog 7 0 = loopOf Try.prog 7 0 ∧ SV.w16 lf = SV.w16 lf ∧ SV.v (Value.slice d 0 c) = SV.v (Value.slice d 0 c) ∧ SV.ptr (0 + 1) 0 = SV.ptr 1 0 ∧ SV.w64 (BitVec.ofInt 64 0) = SV.w64 0 ∧ SV.i 0 = SV.i 0 ∧ (true = true ∧ Cont.res { mb := x, clk := 0, es := [], was := false, it := none, gs := [] } = Cont.res (stO x 0 [] [])) ∧ (true = true ∧ Cont.row [SV.i ((↑most.toNat : Int).tmod 8 + 1), SV.w64 (BitVec.setWidth 64 lf + BitVec.ofInt 64 1), SV.mp 0] = Cont.row [SV.i q, SV.w64 f, SV.mp 0]) ∧ bif bif false then true else q == 0 then K (SV.b false) [{ rw := true, c := Cont.res { mb := x, clk := 0, es := es, was := false, it := none, gs := [] } }, { rw := true, c := Cont.row [SV.i q, SV.w64 f, SV.mp 0] }, { rw := true, c := Cont.row [SV.w32 0, SV.w32 0, SV.w8 0, SV.w8 0, SV.w16 0, SV.b false, SV.b false, SV.w16 0, SV.s []] }] else bif (BitVec.ofInt 64 4611686018427387904).ule (0 + BitVec.setWidth 64 lf + BitVec.ofInt 64 1) then K (SV.b false) [{ rw := true, c := Cont.res { mb := x, clk := 0, es := es, was := false, it := none, gs := [] } }, { rw := true, c := Cont.row [SV.i q, SV.w64 f, SV.mp 0] }, { rw := true, c := Cont.row [SV.w32 0, SV.w32 0, SV.w8 0, SV.w8 0, SV.w16 0, SV.b false, SV.b false, SV.w16 0, SV.s []] }] else OkS (stO x 0 es []) ∧ ∀ (gs' : List SetE), OkS (stO x 0 (List.filter (fun e => !e.u.ule (0 + BitVec.setWidth 64 lf + BitVec.ofInt 64 1)) es) gs') → bif bif true then (bif q == 0 then 0 else (↑(List.filter (fun e => !e.u.ule (0 + BitVec.setWidth 64 lf + BitVec.ofInt 64 1)) es).length : Int)) == 0 else false then K (SV.b (bif true then true else false)) [{ rw := true, c := Cont.res { mb := x, clk := 0, es := List.filter (fun e => !e.u.ule (0 + BitVec.setWidth 64 lf + BitVec.ofInt 64 1)) es, was := false, it := none, gs := gs' } }, { rw := true, c := Cont.row [SV.i q, SV.w64 f, SV.mp 0] }, { rw := true, c := Cont.row [SV.w32 0, SV.w32 0, SV.w8 0, SV.w8 0, SV.w16 0, SV.b false, SV.b false, SV.w16 0, SV.s (bts { data := #[120] })] }] else K (SV.b false) [{ rw := true, c := Cont.res { mb := x, clk := 0, es := List.filter (fun e => !e.u.ule (0 + BitVec.setWidth 64 lf + BitVec.ofInt 64 1)) es, was := false, it := none, gs := gs' } }, { rw := true, c := Cont.row [SV.i q, SV.w64 f, SV.mp 0] }, { rw := true, c := Cont.row [SV.w32 0, SV.w32 0, SV.w8 0, SV.w8 0, SV.w16 0, SV.b false, SV.b false, SV.w16 0, SV.s (bts { data := #[120] })] }] else False) := by kernel_rfl
theorem loop7z (d : Option Addr) (c : Nat) (lf : BitVec 16) (q : Int) (f : BitVec 64) : LOk Try.prog G G 7 (L7z d c lf q f []) := by
  refine LT.add_ok (noL_ok _ _ _ _) fun fr M K hh => ?_
  unfold v7Lz at hh
  split at hh
  · rename_i mb _
    exact loop_next e7_ok mixed (noL_ok _ _ _ _) (Nat.le_refl _) (by kernel_rfl) (fun _ : Nat => i7z d c lf) (fun _ => M7z q f mb []) (fun _ => True) (fun _ => 0) (fun i => i) 0 trivial (o := o7z lf) (M1 := M7z q f mb []) (fun i hp => of_eq (r7z d c lf q f mb _) ⟨rfl, rfl, rfl, rfl, ⟨rfl, rfl⟩, ⟨rfl, rfl⟩, trivial⟩) fr M K hh
  · exact hh.elim
theorem law7z (d : Option Addr) (c : Nat) (most : BitVec 8) (lf : BitVec 16) : Spec Try.prog G 7 [.w8 most, .w16 lf, .v (.slice d 0 c)] G (fun r _ => r = .b true) := by
  obtain ⟨q1, q2⟩ := q7_b most
  have q1' : 1 ≤ ((most.toNat : Nat) : Int).tmod 8 + 1 := q1
  have q2' : ((most.toNat : Nat) : Int).tmod 8 + 1 ≤ 8 := q2
  refine vf_ok e7_ok mixed (loop7z d c lf (q7 most) (f7 lf)) (of_eq (v7z d c most lf _ _ _ _) (bif_of (inI_iff.2 (by omega)) (bif_f (ilt_no (by omega)) (bif_f (f7_lo lf) (bif_f (f7_hi lf) fun x => ⟨rfl, rfl, rfl, rfl, rfl, rfl, ⟨rfl, rfl⟩, ⟨rfl, rfl⟩, ?_⟩)))))
  refine bif_f (beq_eq_false_iff_ne.2 (by omega)) (bif_f (last_ule (now := 0) (by decide)) ⟨ok_empty x 0, fun gs' hg => ?_⟩)
  refine bif_t ?_ rfl
  show ((bif _ == 0 then 0 else ((0 : Nat) : Int)) == 0) = true
  rw [wt_eq q1]; rfl
end Go.Proofs.Ytggoncamiafclaa
