/-
  seg: the bytes of a segment: the document's answer is the same. No statement is proved here.
-/
import Derived.Test.YtmeipcgkhgagpaaSgH
namespace Go.Proofs.Ytmeipcgkhgagpaa
open Go.RowKit
set_option linter.unusedVariables false
set_option linter.unusedSimpArgs false
set_option maxRecDepth 100000

theorem ef_ok : EnvOk Try.prog (EF m2 m4 sgS) := { T := PT.add_ok (PT.add_ok t0_ok num_ok) segSumD_ok, C := noC_ok _ _ }
theorem bts0 : (bts { data := #[] }).length = 0 := rfl
theorem bts3 (a b c : UInt8) : (bts { data := #[a, b, c] }).length = 3 := rfl
theorem by_doc (g : Sg) (s d : BitVec 32) (O : Tx) (hO : O = optT g.m g.h g.c) (hn : O.length = 0 ∨ O.length = 4 ∨ O.length = 8) :
    m2 (BitVec.setWidth 64 g.a) ++ m2 (BitVec.setWidth 64 g.b) ++ m4 (BitVec.setWidth 64 g.q) ++ m4 (BitVec.setWidth 64 g.k) ++ List.take 2 (List.drop 0 [(BitVec.ofInt 8 (20 + ((O.length : Nat) : Int)) / BitVec.ofInt 8 4) <<< 4, g.f]) ++ m2 (BitVec.setWidth 64 g.w) ++ m2 (BitVec.setWidth 64 (sgS (m2 (BitVec.setWidth 64 g.a) ++ m2 (BitVec.setWidth 64 g.b) ++ m4 (BitVec.setWidth 64 g.q) ++ m4 (BitVec.setWidth 64 g.k) ++ List.take 2 (List.drop 0 [(BitVec.ofInt 8 (20 + ((O.length : Nat) : Int)) / BitVec.ofInt 8 4) <<< 4, g.f]) ++ m2 (BitVec.setWidth 64 g.w) ++ bts { data := #[0, 0] } ++ (bts { data := #[0, 0] } ++ O ++ g.l)) s d)) ++ (bts { data := #[0, 0] } ++ O ++ g.l) = byT g s d := by
  have e1 : (BitVec.ofInt 8 (20 + ((O.length : Nat) : Int)) / BitVec.ofInt 8 4) <<< 4 = BitVec.ofInt 8 (4 * (20 + ((O.length : Nat) : Int))) := by
    rcases hn with h | h | h <;> rw [h] <;> rfl
  rw [e1, m2_t2, m2_t2, m2_t2, m2_t2, m4_t4, m4_t4]
  unfold byT rawT hdT
  rw [← hO]
  rfl
theorem bif_t {c : Bool} {p q : Prop} (h : c = true) (hp : p) : bif c then p else q := by rw [h]; exact hp
theorem bif_f {c : Bool} {p q : Prop} (h : c = false) (hq : q) : bif c then p else q := by rw [h]; exact hq
theorem b_tf (b : Bool) : b = true ∨ b = false := by cases b <;> simp
theorem en_arg {g : Sg} {s d : BitVec 32} (h : mayB g.f g.m g.h g.c = false) : SV.tup [.s (bts { data := #[] }), .i 2] = SV.tup [.s (enR g s d), .i (enE g)] := by unfold enR enE; rw [h]; rfl
theorem en_long {g : Sg} {s d : BitVec 32} (h : mayB g.f g.m g.h g.c = true) (hl : ilt 1460 ((g.l.length : Nat) : Int) = true) : SV.tup [.s (bts { data := #[] }), .i 4] = SV.tup [.s (enR g s d), .i (enE g)] := by unfold enR enE; rw [h, hl]; rfl
theorem en_by {g : Sg} {s d : BitVec 32} (h : mayB g.f g.m g.h g.c = true) (hl : ilt 1460 ((g.l.length : Nat) : Int) = false) : SV.tup [.s (byT g s d), .i 0] = SV.tup [.s (enR g s d), .i (enE g)] := by unfold enR enE; rw [h, hl]; rfl
set_option maxHeartbeats 1000000 in
theorem encodeD_ok : POk Try.prog G 9 (cEn enE enR) := by
  intro args acs r hh β M w hR hw ha
  unfold cEn at hh
  split at hh
  · rename_i a b q k f ww m h c l s d
    simp only [Option.some.injEq, Prod.mk.injEq, true_and] at hh
    refine pokE (E := EF m2 m4 sgS) rfl ef_ok (noL_ok _ _ _ _) (v9 m2 m4 sgS a b q k f ww m h c l s d _) ?_ rfl (by rw [← hh]; rfl) hR
    have key := by_doc ⟨a, b, q, k, f, ww, m, h, c, l⟩ s d
    have eA : mayB f m h c = false → SV.tup [.s (bts { data := #[] }), .i 2] = r := fun e => by rw [← hh]; exact en_arg e
    have eL : mayB f m h c = true → ilt 1460 ((l.length : Nat) : Int) = true → SV.tup [.s (bts { data := #[] }), .i 4] = r := fun e e2 => by rw [← hh]; exact en_long e e2
    have eO : mayB f m h c = true → ilt 1460 ((l.length : Nat) : Int) = false → SV.tup [.s (byT ⟨a, b, q, k, f, ww, m, h, c, l⟩ s d), .i 0] = r := fun e e2 => by rw [← hh]; exact en_by e e2
    clear hh
    dsimp only at key
    have opt_t : ∀ x : Bool, (m != BitVec.ofInt 16 0) = true → h = x → optT m h c = [BitVec.ofInt 8 2, BitVec.ofInt 8 4] ++ t2 m ++ (bif x then [BitVec.ofInt 8 1, BitVec.ofInt 8 3, BitVec.ofInt 8 3, c] else []) := fun x hx hy => by unfold optT; rw [hx, hy]; rfl
    have opt_f : ∀ x : Bool, (m != BitVec.ofInt 16 0) = false → h = x → optT m h c = (bif x then [BitVec.ofInt 8 1, BitVec.ofInt 8 3, BitVec.ofInt 8 3, c] else []) := fun x hx hy => by unfold optT; rw [hx, hy]; rfl
    have T1 : mayB f m h c = true → v9t1 m2 m4 sgS a b q k f ww m h c l s d (fun r' => r' = r) := fun hB => by
      unfold v9t1
      rcases b_tf (ilt 1460 ((l.length : Nat) : Int)) with hl | hl
      · exact bif_t hl (eL hB hl)
      refine bif_f hl ?_
      have hl0 := of_nilt hl
      rcases b_tf (m != BitVec.ofInt 16 0) with hm | hm
      · refine bif_t hm ?_
        refine bif_of (ile_of (by rw [m2_len]; omega)) ?_
        rcases b_tf h with hx | hx
        · refine bif_t hx ?_
          repeat refine bif_of (by first | exact inI_iff.2 (by (try simp only [List.length_append, List.length_cons, List.length_nil, m2_len, m4_len, bts2, bts0, bts3, List.drop_zero, List.take_succ_cons, List.take_zero]); omega) | exact ile_of (by (try simp only [List.length_append, List.length_cons, List.length_nil, m2_len, m4_len, bts2, bts0, bts3, List.drop_zero, List.take_succ_cons, List.take_zero]); omega) | exact ble_of (by (try simp only [List.length_append, List.length_cons, List.length_nil, m2_len, m4_len, bts2, bts0, bts3, List.drop_zero, List.take_succ_cons, List.take_zero]); omega) | exact inR_iff.2 (by (try simp only [List.length_append, List.length_cons, List.length_nil, m2_len, m4_len, bts2, bts0, bts3, List.drop_zero, List.take_succ_cons, List.take_zero]); omega) | exact and_t (ile_of (by (try simp only [List.length_append, List.length_cons, List.length_nil, m2_len, m4_len, bts2, bts0, bts3, List.drop_zero, List.take_succ_cons, List.take_zero]); omega)) (ile_of (by (try simp only [List.length_append, List.length_cons, List.length_nil, m2_len, m4_len, bts2, bts0, bts3, List.drop_zero, List.take_succ_cons, List.take_zero]); omega))) ?_
          refine Eq.trans (congrArg (fun x => SV.tup [.s x, .i 0]) (key _ ?_ ?_)) (eO hB hl)
          · rw [opt_t _ hm hx, m2_t2]; rfl
          · exact Or.inr (Or.inr rfl)
        · refine bif_f hx ?_
          repeat refine bif_of (by first | exact inI_iff.2 (by (try simp only [List.length_append, List.length_cons, List.length_nil, m2_len, m4_len, bts2, bts0, bts3, List.drop_zero, List.take_succ_cons, List.take_zero]); omega) | exact ile_of (by (try simp only [List.length_append, List.length_cons, List.length_nil, m2_len, m4_len, bts2, bts0, bts3, List.drop_zero, List.take_succ_cons, List.take_zero]); omega) | exact ble_of (by (try simp only [List.length_append, List.length_cons, List.length_nil, m2_len, m4_len, bts2, bts0, bts3, List.drop_zero, List.take_succ_cons, List.take_zero]); omega) | exact inR_iff.2 (by (try simp only [List.length_append, List.length_cons, List.length_nil, m2_len, m4_len, bts2, bts0, bts3, List.drop_zero, List.take_succ_cons, List.take_zero]); omega) | exact and_t (ile_of (by (try simp only [List.length_append, List.length_cons, List.length_nil, m2_len, m4_len, bts2, bts0, bts3, List.drop_zero, List.take_succ_cons, List.take_zero]); omega)) (ile_of (by (try simp only [List.length_append, List.length_cons, List.length_nil, m2_len, m4_len, bts2, bts0, bts3, List.drop_zero, List.take_succ_cons, List.take_zero]); omega))) ?_
          refine Eq.trans (congrArg (fun x => SV.tup [.s x, .i 0]) (key _ ?_ ?_)) (eO hB hl)
          · rw [opt_t _ hm hx, m2_t2]; rfl
          · exact Or.inr (Or.inl rfl)
      · refine bif_f hm ?_
        rcases b_tf h with hx | hx
        · refine bif_t hx ?_
          repeat refine bif_of (by first | exact inI_iff.2 (by (try simp only [List.length_append, List.length_cons, List.length_nil, m2_len, m4_len, bts2, bts0, bts3, List.drop_zero, List.take_succ_cons, List.take_zero]); omega) | exact ile_of (by (try simp only [List.length_append, List.length_cons, List.length_nil, m2_len, m4_len, bts2, bts0, bts3, List.drop_zero, List.take_succ_cons, List.take_zero]); omega) | exact ble_of (by (try simp only [List.length_append, List.length_cons, List.length_nil, m2_len, m4_len, bts2, bts0, bts3, List.drop_zero, List.take_succ_cons, List.take_zero]); omega) | exact inR_iff.2 (by (try simp only [List.length_append, List.length_cons, List.length_nil, m2_len, m4_len, bts2, bts0, bts3, List.drop_zero, List.take_succ_cons, List.take_zero]); omega) | exact and_t (ile_of (by (try simp only [List.length_append, List.length_cons, List.length_nil, m2_len, m4_len, bts2, bts0, bts3, List.drop_zero, List.take_succ_cons, List.take_zero]); omega)) (ile_of (by (try simp only [List.length_append, List.length_cons, List.length_nil, m2_len, m4_len, bts2, bts0, bts3, List.drop_zero, List.take_succ_cons, List.take_zero]); omega))) ?_
          refine Eq.trans (congrArg (fun x => SV.tup [.s x, .i 0]) (key _ ?_ ?_)) (eO hB hl)
          · rw [opt_f _ hm hx]; rfl
          · exact Or.inr (Or.inl rfl)
        · refine bif_f hx ?_
          repeat refine bif_of (by first | exact inI_iff.2 (by (try simp only [List.length_append, List.length_cons, List.length_nil, m2_len, m4_len, bts2, bts0, bts3, List.drop_zero, List.take_succ_cons, List.take_zero]); omega) | exact ile_of (by (try simp only [List.length_append, List.length_cons, List.length_nil, m2_len, m4_len, bts2, bts0, bts3, List.drop_zero, List.take_succ_cons, List.take_zero]); omega) | exact ble_of (by (try simp only [List.length_append, List.length_cons, List.length_nil, m2_len, m4_len, bts2, bts0, bts3, List.drop_zero, List.take_succ_cons, List.take_zero]); omega) | exact inR_iff.2 (by (try simp only [List.length_append, List.length_cons, List.length_nil, m2_len, m4_len, bts2, bts0, bts3, List.drop_zero, List.take_succ_cons, List.take_zero]); omega) | exact and_t (ile_of (by (try simp only [List.length_append, List.length_cons, List.length_nil, m2_len, m4_len, bts2, bts0, bts3, List.drop_zero, List.take_succ_cons, List.take_zero]); omega)) (ile_of (by (try simp only [List.length_append, List.length_cons, List.length_nil, m2_len, m4_len, bts2, bts0, bts3, List.drop_zero, List.take_succ_cons, List.take_zero]); omega))) ?_
          refine Eq.trans (congrArg (fun x => SV.tup [.s x, .i 0]) (key (bts { data := #[] }) ?_ ?_)) (eO hB hl)
          · rw [opt_f _ hm hx]; rfl
          · exact Or.inl rfl
    rcases b_tf ((BitVec.ofInt 8 14).ult c) with h1 | h1
    · exact bif_t h1 (eA (by unfold mayB; rw [h1]; rfl))
    refine bif_f h1 ?_
    have T2 : (c != BitVec.ofInt 8 0 && !h) = false → v9t2 m2 m4 sgS a b q k f ww m h c l s d (fun r' => r' = r) := fun hch => by
      have hB : mayB f m h c = (bif (m != BitVec.ofInt 16 0 || h) && (f &&& BitVec.ofInt 8 2 == BitVec.ofInt 8 0) then false else true) := by unfold mayB; rw [h1, hch]; rfl
      unfold v9t2
      rcases b_tf (m != BitVec.ofInt 16 0) with hm | hm
      · refine bif_t hm ?_
        rcases b_tf (f &&& BitVec.ofInt 8 2 == BitVec.ofInt 8 0) with hf | hf
        · exact bif_t hf (eA (by rw [hB, hm, hf]; rfl))
        · exact bif_f hf (T1 (by rw [hB, hm, hf]; rfl))
      · refine bif_f hm ?_
        rcases b_tf h with hx | hx
        · refine bif_t hx ?_
          rcases b_tf (f &&& BitVec.ofInt 8 2 == BitVec.ofInt 8 0) with hf | hf
          · exact bif_t hf (eA (by rw [hB, hm, hx, hf]; rfl))
          · exact bif_f hf (T1 (by rw [hB, hm, hx, hf]; rfl))
        · exact bif_f hx (T1 (by rw [hB, hm, hx]; rfl))
    rcases b_tf (c != BitVec.ofInt 8 0) with hc | hc
    · refine bif_t hc ?_
      rcases b_tf h with hx | hx
      · exact bif_f (by rw [hx]; rfl) (T2 (by rw [hc, hx]; rfl))
      · exact bif_t (by rw [hx]; rfl) (eA (by unfold mayB; rw [h1, hc, hx]; rfl))
    · exact bif_f hc (T2 (by rw [hc]; rfl))
  · cases hh
end Go.Proofs.Ytmeipcgkhgagpaa
