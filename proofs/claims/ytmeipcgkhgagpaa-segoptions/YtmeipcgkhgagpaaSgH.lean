/-
  seg: sums, options, lengths, the bytes of a segment: the program's answers. No statement is proved here.
-/
import Derived.Test.YtmeipcgkhgagpaaSgG
namespace Go.Proofs.Ytmeipcgkhgagpaa
open Go.RowKit
set_option linter.unusedVariables false
set_option linter.unusedSimpArgs false
set_option maxRecDepth 100000

theorem t2_len (x : BitVec 16) : (t2 x).length = 2 := rfl
theorem t4_len (x : BitVec 32) : (t4 t2 x).length = 4 := rfl
theorem m2_len (x : BitVec 64) : (m2 x).length = 2 := rfl
theorem m4_len (x : BitVec 64) : (m4 x).length = 4 := rfl
theorem bts2 (a b : UInt8) : (bts { data := #[a, b] }).length = 2 := rfl
-- sums
def psT (n : BitVec 16) (s d : BitVec 32) : Tx := t4 t2 s ++ t4 t2 d ++ t2 (BitVec.ofInt 16 6) ++ t2 n
def sgS (l : Tx) (s d : BitVec 32) : BitVec 16 := sumX (psT (BitVec.ofInt 16 ((l.length : Nat) : Int)) s d ++ l)
theorem ps_len (n : BitVec 16) (s d : BitVec 32) : (psT n s d).length = 12 := rfl
abbrev EPt : Env := EP t2 (t4 t2) sumX
abbrev ERt : Env := ER m2 m4 sumX
theorem ep_ok : EnvOk Try.prog EPt := { T := PT.add_ok (PT.add_ok (PT.add_ok t0_ok two_ok) four_ok) sum_ok, C := noC_ok _ _ }
theorem er_ok : EnvOk Try.prog ERt := { T := PT.add_ok (PT.add_ok t0_ok num_ok) sumD_ok, C := noC_ok _ _ }
theorem m2_t2 (x : BitVec 16) : m2 (x.setWidth 64) = t2 x := by
  have := x.isLt
  unfold m2 t2
  have e1 : ((x.setWidth 64) >>> 8).setWidth 8 = (x >>> 8).setWidth 8 := by
    apply BitVec.eq_of_toNat_eq
    simp only [BitVec.toNat_setWidth, BitVec.toNat_ushiftRight, Nat.shiftRight_eq_div_pow]
    omega
  have e2 : (x.setWidth 64).setWidth 8 = x.setWidth 8 := by
    apply BitVec.eq_of_toNat_eq
    simp only [BitVec.toNat_setWidth]
    omega
  rw [e1, e2]
theorem m2_int (z : Int) : m2 (BitVec.ofInt 64 z) = t2 (BitVec.ofInt 16 z) := by
  unfold m2 t2
  have e0 : (BitVec.ofInt 16 z).toNat = (BitVec.ofInt 64 z).toNat % 65536 := by
    simp only [BitVec.toNat_ofInt]
    omega
  have e1 : ((BitVec.ofInt 64 z) >>> 8).setWidth 8 = ((BitVec.ofInt 16 z) >>> 8).setWidth 8 := by
    apply BitVec.eq_of_toNat_eq
    simp only [BitVec.toNat_setWidth, BitVec.toNat_ushiftRight, Nat.shiftRight_eq_div_pow, e0]
    omega
  have e2 : (BitVec.ofInt 64 z).setWidth 8 = (BitVec.ofInt 16 z).setWidth 8 := by
    apply BitVec.eq_of_toNat_eq
    simp only [BitVec.toNat_setWidth, e0]
    omega
  rw [e1, e2]
theorem m4_t4 (x : BitVec 32) : m4 (x.setWidth 64) = t4 t2 x := by
  have := x.isLt
  have e : ∀ {a b c d a' b' c' d' : BitVec 8}, a = a' → b = b' → c = c' → d = d' → [a, b, c, d] = [a', b', c', d'] := fun h1 h2 h3 h4 => by rw [h1, h2, h3, h4]
  show [_, _, _, _] = [_, _, _, _]
  refine e ?_ ?_ ?_ ?_
  all_goals
    apply BitVec.eq_of_toNat_eq
    simp only [BitVec.toNat_setWidth, BitVec.toNat_ushiftRight, Nat.shiftRight_eq_div_pow]
    omega
theorem segSum_ok : POk Try.prog G 14 (cSg sgS) := by
  intro args acs r hh β M w hR hw ha
  unfold cSg at hh
  split at hh
  · rename_i l s d
    simp only [Option.some.injEq, Prod.mk.injEq] at hh
    obtain ⟨hl, rfl⟩ := hh
    have hl := Nat.le_of_ble_eq_true hl
    refine pokE (E := EPt) rfl ep_ok (noL_ok _ _ _ _) (v14 t2 (t4 t2) sumX l s d _) ?_ rfl rfl hR
    repeat refine bif_of (by first | exact inI_iff.2 (by (try simp only [List.length_append, List.length_cons, List.length_nil, t2_len, t4_len]); omega) | exact ile_of (by (try simp only [List.length_append, List.length_cons, List.length_nil, t2_len, t4_len]); omega) | exact ble_of (by (try simp only [List.length_append, List.length_cons, List.length_nil, t2_len, t4_len]); omega) | exact inR_iff.2 (by (try simp only [List.length_append, List.length_cons, List.length_nil, t2_len, t4_len]); omega) | exact and_t (ile_of (by (try simp only [List.length_append, List.length_cons, List.length_nil, t2_len, t4_len]); omega)) (ile_of (by (try simp only [List.length_append, List.length_cons, List.length_nil, t2_len, t4_len]); omega))) ?_
    rfl
  · cases hh
theorem segSumD_ok : POk Try.prog G 15 (cSg sgS) := by
  intro args acs r hh β M w hR hw ha
  unfold cSg at hh
  split at hh
  · rename_i l s d
    simp only [Option.some.injEq, Prod.mk.injEq] at hh
    obtain ⟨hl, rfl⟩ := hh
    have hl := Nat.le_of_ble_eq_true hl
    refine pokE (E := ERt) rfl er_ok (noL_ok _ _ _ _) (v15 m2 m4 sumX l s d _) ?_ rfl rfl hR
    repeat refine bif_of (by first | exact inI_iff.2 (by (try simp only [List.length_append, List.length_cons, List.length_nil, m2_len, m4_len, bts2]); omega) | exact ile_of (by (try simp only [List.length_append, List.length_cons, List.length_nil, m2_len, m4_len, bts2]); omega) | exact ble_of (by (try simp only [List.length_append, List.length_cons, List.length_nil, m2_len, m4_len, bts2]); omega) | exact inR_iff.2 (by (try simp only [List.length_append, List.length_cons, List.length_nil, m2_len, m4_len, bts2]); omega) | exact and_t (ile_of (by (try simp only [List.length_append, List.length_cons, List.length_nil, m2_len, m4_len, bts2]); omega)) (ile_of (by (try simp only [List.length_append, List.length_cons, List.length_nil, m2_len, m4_len, bts2]); omega))) ?_
    rw [m2_int, m4_t4, m4_t4]
    rfl
  · cases hh
-- options
def optT (m : BitVec 16) (h : Bool) (c : BitVec 8) : Tx := (bif m != BitVec.ofInt 16 0 then [BitVec.ofInt 8 2, BitVec.ofInt 8 4] ++ t2 m else []) ++ (bif h then [BitVec.ofInt 8 1, BitVec.ofInt 8 3, BitVec.ofInt 8 3, c] else [])
theorem optT_len (m : BitVec 16) (h : Bool) (c : BitVec 8) : (optT m h c).length ≤ 8 := by
  unfold optT
  cases m != BitVec.ofInt 16 0 <;> cases h <;> simp only [cond_true, cond_false, List.length_append, List.length_cons, List.length_nil, t2_len] <;> omega
theorem optionsOf_ok : POk Try.prog G 27 (cOp optT) := by
  intro args acs r hh β M w hR hw ha
  unfold cOp at hh
  split at hh
  · rename_i a b q k f ww m h c l
    simp only [Option.some.injEq, Prod.mk.injEq, true_and] at hh
    subst hh
    refine pokE (E := EPt) rfl ep_ok (noL_ok _ _ _ _) (v27 t2 (t4 t2) sumX a b q k f ww m h c l _) ?_ rfl rfl hR
    unfold optT
    cases m != BitVec.ofInt 16 0 <;> cases h <;> rfl
  · cases hh
def mayB (f : BitVec 8) (m : BitVec 16) (h : Bool) (c : BitVec 8) : Bool := bif (BitVec.ofInt 8 14).ult c then false else bif c != BitVec.ofInt 8 0 && !h then false else bif (m != BitVec.ofInt 16 0 || h) && (f &&& BitVec.ofInt 8 2 == BitVec.ofInt 8 0) then false else true
theorem mayBe_ok : POk Try.prog G 16 (cMay mayB) := by
  intro args acs r hh β M w hR hw ha
  unfold cMay at hh
  split at hh
  · rename_i a b q k f ww m h c l
    simp only [Option.some.injEq, Prod.mk.injEq, true_and] at hh
    subst hh
    refine pokE (E := E0) rfl e0_ok (noL_ok _ _ _ _) (v16 a b q k f ww m h c l _) ?_ rfl rfl hR
    unfold mayB
    simp only [bne]
    cases (BitVec.ofInt 8 14).ult c <;> cases c == BitVec.ofInt 8 0 <;> cases f &&& BitVec.ofInt 8 2 == BitVec.ofInt 8 0 <;> cases m == BitVec.ofInt 16 0 <;> cases h <;> rfl
  · cases hh
-- lengths
def lenS (f : BitVec 8) (l : Tx) : BitVec 32 := bif f &&& BitVec.ofInt 8 2 != BitVec.ofInt 8 0 then (bif f &&& BitVec.ofInt 8 1 != BitVec.ofInt 8 0 then BitVec.ofInt 32 ((l.length : Nat) : Int) + BitVec.ofInt 32 1 + BitVec.ofInt 32 1 else BitVec.ofInt 32 ((l.length : Nat) : Int) + BitVec.ofInt 32 1) else (bif f &&& BitVec.ofInt 8 1 != BitVec.ofInt 8 0 then BitVec.ofInt 32 ((l.length : Nat) : Int) + BitVec.ofInt 32 1 else BitVec.ofInt 32 ((l.length : Nat) : Int))
def cLn (F : BitVec 8 → Tx → BitVec 32) : List SV → List Cont → Option (Bool × SV)
  | [.agg [.w16 _, .w16 _, .w32 _, .w32 _, .w8 f, .w16 _, .w16 _, .b _, .w8 _, .s l]], _ => some (true, .w32 (F f l))
  | _, _ => none
theorem lenD_ok : POk Try.prog G 13 (cLn lenS) := by
  intro args acs r hh β M w hR hw ha
  unfold cLn at hh
  split at hh
  · rename_i a b q k f ww m h c l
    simp only [Option.some.injEq, Prod.mk.injEq, true_and] at hh
    subst hh
    refine pokE (E := E0) rfl e0_ok (noL_ok _ _ _ _) (v13 a b q k f ww m h c l _) ?_ rfl rfl hR
    unfold lenS
    cases f &&& BitVec.ofInt 8 2 != BitVec.ofInt 8 0 <;> cases f &&& BitVec.ofInt 8 1 != BitVec.ofInt 8 0 <;> rfl
  · cases hh
theorem len_ok : POk Try.prog G 12 (cLn lenS) := by
  intro args acs r hh β M w hR hw ha
  unfold cLn at hh
  split at hh
  · rename_i a b q k f ww m h c l
    simp only [Option.some.injEq, Prod.mk.injEq, true_and] at hh
    subst hh
    refine pokE (E := E0) rfl e0_ok (L := L12 Try.prog) (LT.un_ok e0_ok mixed (noL_ok _ _ _ _) (noL_ok _ _ _ _) (by kernel_rfl) 3) (v12 a b q k f ww m h c l _) ⟨rfl, ?_⟩ rfl rfl hR
    unfold lenS
    show (bif f &&& BitVec.ofInt 8 2 != BitVec.ofInt 8 0 then (bif f &&& BitVec.ofInt 8 1 != BitVec.ofInt 8 0 then _ else _) else (bif f &&& BitVec.ofInt 8 1 != BitVec.ofInt 8 0 then _ else _))
    cases f &&& BitVec.ofInt 8 2 != BitVec.ofInt 8 0 <;> cases f &&& BitVec.ofInt 8 1 != BitVec.ofInt 8 0 <;> rfl
  · cases hh
-- a segment's bytes
def hdT (a b : BitVec 16) (q k : BitVec 32) (f : BitVec 8) (w : BitVec 16) (o : Tx) : Tx := t2 a ++ t2 b ++ t4 t2 q ++ t4 t2 k ++ [BitVec.ofInt 8 (4 * (20 + ((o.length : Nat) : Int))), f] ++ t2 w
theorem hd_len (a b : BitVec 16) (q k : BitVec 32) (f : BitVec 8) (w : BitVec 16) (o : Tx) : (hdT a b q k f w o).length = 16 := rfl
def rawT (g : Sg) : Tx := hdT g.a g.b g.q g.k g.f g.w (optT g.m g.h g.c) ++ [0, 0] ++ ([0, 0] ++ optT g.m g.h g.c ++ g.l)
def byT (g : Sg) (s d : BitVec 32) : Tx := hdT g.a g.b g.q g.k g.f g.w (optT g.m g.h g.c) ++ t2 (sgS (rawT g) s d) ++ ([0, 0] ++ optT g.m g.h g.c ++ g.l)
theorem raw_len (g : Sg) : (rawT g).length = 20 + (optT g.m g.h g.c).length + g.l.length := by
  unfold rawT
  simp only [List.length_append, List.length_cons, List.length_nil, hd_len]; omega
theorem by_len (g : Sg) (s d : BitVec 32) : (byT g s d).length = 20 + (optT g.m g.h g.c).length + g.l.length := by
  unfold byT
  simp only [List.length_append, List.length_cons, List.length_nil, hd_len, t2_len]; omega
theorem eb_ok : EnvOk Try.prog (EB t2 (t4 t2) optT) := { T := PT.add_ok (PT.add_ok (PT.add_ok t0_ok two_ok) four_ok) optionsOf_ok, C := noC_ok _ _ }
theorem bytesOf_ok : POk Try.prog G 17 (cBy rawT) := by
  intro args acs r hh β M w hR hw ha
  unfold cBy at hh
  split at hh
  · rename_i a b q k f ww m h c l
    simp only [Option.some.injEq, Prod.mk.injEq] at hh
    obtain ⟨hl, rfl⟩ := hh
    have hl := Nat.le_of_ble_eq_true hl
    have ho := optT_len m h c
    refine pokE (E := EB t2 (t4 t2) optT) rfl eb_ok (noL_ok _ _ _ _) (v17 t2 (t4 t2) optT a b q k f ww m h c l _) ?_ rfl rfl hR
    repeat refine bif_of (by first | exact inI_iff.2 (by (try simp only [List.length_append, List.length_cons, List.length_nil, t2_len, t4_len, List.drop_zero, List.take_succ_cons, List.take_zero]); omega) | exact ile_of (by (try simp only [List.length_append, List.length_cons, List.length_nil, t2_len, t4_len, List.drop_zero, List.take_succ_cons, List.take_zero]); omega) | exact ble_of (by (try simp only [List.length_append, List.length_cons, List.length_nil, t2_len, t4_len, List.drop_zero, List.take_succ_cons, List.take_zero]); omega) | exact inR_iff.2 (by (try simp only [List.length_append, List.length_cons, List.length_nil, t2_len, t4_len, List.drop_zero, List.take_succ_cons, List.take_zero]); omega) | exact and_t (ile_of (by (try simp only [List.length_append, List.length_cons, List.length_nil, t2_len, t4_len, List.drop_zero, List.take_succ_cons, List.take_zero]); omega)) (ile_of (by (try simp only [List.length_append, List.length_cons, List.length_nil, t2_len, t4_len, List.drop_zero, List.take_succ_cons, List.take_zero]); omega))) ?_
    show SV.s _ = SV.s _
    congr 1
  · cases hh
def enE (g : Sg) : Int := bif mayB g.f g.m g.h g.c then (bif ilt 1460 ((g.l.length : Nat) : Int) then 4 else 0) else 2
def enR (g : Sg) (s d : BitVec 32) : Tx := bif mayB g.f g.m g.h g.c then (bif ilt 1460 ((g.l.length : Nat) : Int) then [] else byT g s d) else []
def cEn (E : Sg → Int) (F : Sg → BitVec 32 → BitVec 32 → Tx) : List SV → List Cont → Option (Bool × SV)
  | [.agg [.w16 a, .w16 b, .w32 q, .w32 k, .w8 f, .w16 w, .w16 m, .b h, .w8 c, .s l], .w32 s, .w32 d], _ => some (true, .tup [.s (F ⟨a, b, q, k, f, w, m, h, c, l⟩ s d), .i (E ⟨a, b, q, k, f, w, m, h, c, l⟩)])
  | _, _ => none
theorem ee_ok : EnvOk Try.prog (EE t2 mayB rawT sgS) := { T := PT.add_ok (PT.add_ok (PT.add_ok (PT.add_ok t0_ok two_ok) mayBe_ok) bytesOf_ok) segSum_ok, C := noC_ok _ _ }
theorem encode_ok : POk Try.prog G 8 (cEn enE enR) := by
  intro args acs r hh β M w hR hw ha
  unfold cEn at hh
  split at hh
  · rename_i a b q k f ww m h c l s d
    simp only [Option.some.injEq, Prod.mk.injEq, true_and] at hh
    subst hh
    refine pokE (E := EE t2 mayB rawT sgS) rfl ee_ok (noL_ok _ _ _ _) (v8 t2 mayB rawT sgS a b q k f ww m h c l s d _) ?_ rfl rfl hR
    unfold enR enE
    dsimp only
    cases mayB f m h c
    · rfl
    cases hl : ilt 1460 ((l.length : Nat) : Int)
    · have hl := of_nilt hl
      have ho := optT_len m h c
      have hr := raw_len ⟨a, b, q, k, f, ww, m, h, c, l⟩
      dsimp only at hr
      generalize hY : rawT ⟨a, b, q, k, f, ww, m, h, c, l⟩ = Y at hr ⊢
      have e1 : (List.drop 0 (List.take 16 Y)).length = 16 := by rw [List.drop_zero, List.length_take]; omega
      have e2 : (List.drop 18 (List.take Y.length Y)).length = Y.length - 18 := by rw [List.take_length, List.length_drop]
      refine bif_of (ble_of (by omega)) (bif_of (ile_of (by omega)) (bif_of (ble_of (by omega)) (bif_of (ile_of (by rw [e1, t2_len]; omega)) (bif_of (and_t (ile_of (by omega)) (ile_of (by omega))) (bif_of (ile_of (by rw [e2, List.length_append, e1, t2_len]; omega)) ?_)))))
      refine congrArg (fun x => SV.tup [.s x, .i 0]) ?_
      show _ = byT _ s d
      unfold byT
      rw [hY]
      subst hY
      have e3 : List.drop 0 (List.take 16 (rawT ⟨a, b, q, k, f, ww, m, h, c, l⟩)) = hdT a b q k f ww (optT m h c) := by
        rw [List.drop_zero]
        unfold rawT
        rw [List.append_assoc]
        exact List.take_left' (hd_len ..)
      have e4 : List.drop 18 (List.take (rawT ⟨a, b, q, k, f, ww, m, h, c, l⟩).length (rawT ⟨a, b, q, k, f, ww, m, h, c, l⟩)) = [0, 0] ++ optT m h c ++ l := by
        rw [List.take_length]
        unfold rawT
        exact List.drop_left' (by simp only [List.length_append, List.length_cons, List.length_nil, hd_len])
      rw [e3, e4]
    · rfl
  · cases hh
end Go.Proofs.Ytmeipcgkhgagpaa
