/-
  aead: the tag. No statement is proved here.
-/
import Derived.Test.YtgjhkfafmmkimaaDoorAfH
import Derived.Test.YtgjhkfafmmkimaaDoorPoE
namespace Go.Proofs.YtgjhkfafmmkimaaDoor
open Go.RowKit
set_option linter.unusedVariables false
set_option linter.unusedSimpArgs false
set_option maxRecDepth 100000

def F12 (R E : Tx → Ds) (A T : Ds → Ds → Ds) (L : Ds → Ds) (W : Ds → Tx) (X : Tx → Tx) : Env := ⟨G, (((((noT.add 37 (cRd5 R)).add 41 (cEnd5 E)).add 40 (cPls A)).add 42 (cPls T)).add 43 (cSet L)).add 44 (cWr W), (noC.add 38 (cClp X)).add 39 cChunk⟩
theorem f12_ok : EnvOk Tryd.prog (F12 rdn enD pls tms lst wrD clP) := ⟨PT.add_ok (PT.add_ok (PT.add_ok (PT.add_ok (PT.add_ok (PT.add_ok (noT_ok _ _) readP_ok) ended_ok) plus_ok) timesP_ok) least_ok) write_ok, CT.add_ok (CT.add_ok (noC_ok _ _) clamped_ok) chunk_ok⟩
def A1c (c : Code) : Code := sL c
def A2c (c : Code) : Code := sL (sR c)
def A3c (c : Code) : Code := sL (sR (sR c))
def A4c (c : Code) : Code := sL (sL (sR (sR (sR c))))
def rfc (c : Code) : Code := bI (sR (sL (sR (sR (sR c)))))
def asc (c : Code) : Code := fA (rfc c)
def boc (c : Code) : Code := fB (rfc c)
def ezc (c : Code) : Code := sL (sR (sR (sR (sR c))))
def M25 (l C S : Tx) (r a : Ds) (len cap c : Nat) : Mm := [⟨false, .ints MX⟩, ⟨false, .a8 l⟩, ⟨true, .a8 C⟩, ⟨true, .a64 r⟩, ⟨true, .a64 a⟩, ⟨true, .a8 S⟩, ⟨true, .row [.sl 5 0 len cap]⟩, ⟨true, .row [.i (c : Nat)]⟩]
def i25 (off cap : Nat) : List (Nat × SV) := [(0, .sl 1 off 32 cap), (5, .ptr 3 0), (6, .ptr 4 0), (13, .fn 50 [.ptr 6 0, .ptr 7 0])]
theorem vp25 (R E : Tx → Ds) (A T : Ds → Ds → Ds) (L : Ds → Ds) (W : Ds → Tx) (X : Tx → Tx) (l s : Tx) (off cap : Nat) (K : List SV → Mm → Prop) : (padK [.sl 1 off 32 cap, .s s] 28 fun fr => vcode Tryd.prog (F12 R E A T L W X) noW (vdraw Tryd.prog (F12 R E A T L W X)) (A1c (bdOf Tryd.prog 25)) fr (Br l) fun e fr1 M1 => match e with | .normal => (vcode Tryd.prog (F12 R E A T L W X) noW (vdraw Tryd.prog (F12 R E A T L W X)) (A2c (bdOf Tryd.prog 25)) fr1 M1 fun e fr2 M2 => match e with | .normal => (vcode Tryd.prog (F12 R E A T L W X) noW (vdraw Tryd.prog (F12 R E A T L W X)) (A3c (bdOf Tryd.prog 25)) fr2 M2 fun e fr3 M3 => match e with | .normal => (vcode Tryd.prog (F12 R E A T L W X) noW (vdraw Tryd.prog (F12 R E A T L W X)) (A4c (bdOf Tryd.prog 25)) fr3 M3 fun e fr4 M4 => match e with | .normal => K fr4 M4 | _ => False) | _ => False) | _ => False) | _ => False) = (bif (off + (16 : Nat)).ble (List.length l) && Nat.ble (16 : Nat) cap then ∀ (cap' : Nat) (rest : List (BitVec (8 : Nat))), (16 : Nat) + rest.length = cap' → bif Nat.ble (16 : Nat) (List.length (X (List.take (16 : Nat) (List.drop off l)) ++ rest)) && true then bif (List.length (R (List.take (16 : Nat) (List.drop (0 : Nat) (X (List.take (16 : Nat) (List.drop off l)) ++ rest))))).beq (5 : Nat) && (List.length (R (List.take (16 : Nat) (List.drop (0 : Nat) (X (List.take (16 : Nat) (List.drop off l)) ++ rest))))).beq (5 : Nat) then ∀ (cap_1 : Nat) (x : List (BitVec (8 : Nat))), List.length s ≤ cap_1 → x = s ++ List.replicate (cap_1 - List.length s) (0 : BitVec (8 : Nat)) → K [SV.sl (1 : Nat) off (32 : Nat) cap, SV.s s, SV.any, SV.any, SV.s (bts { data := #[] }), SV.ptr ((0 : Nat) + (1 : Nat) + (1 : Nat) + (1 : Nat)) (0 : Nat), SV.ptr ((0 : Nat) + (1 : Nat) + (1 : Nat) + (1 : Nat) + (1 : Nat)) (0 : Nat), SV.any, SV.sl (1 : Nat) off (32 : Nat) cap, SV.sl (List.length (Br l)) (0 : Nat) (16 : Nat) cap', SV.a64 (R (List.take (16 : Nat) (List.drop (0 : Nat) (X (List.take (16 : Nat) (List.drop off l)) ++ rest)))), SV.s s, SV.sl ((0 : Nat) + (1 : Nat) + (1 : Nat) + (1 : Nat) + (1 : Nat) + (1 : Nat)) (0 : Nat) (List.length s) cap_1, SV.fn (50 : Nat) [SV.ptr ((0 : Nat) + (1 : Nat) + (1 : Nat) + (1 : Nat) + (1 : Nat) + (1 : Nat) + (1 : Nat)) (0 : Nat), SV.ptr ((0 : Nat) + (1 : Nat) + (1 : Nat) + (1 : Nat) + (1 : Nat) + (1 : Nat) + (1 : Nat) + (1 : Nat)) (0 : Nat)], SV.any, SV.any, SV.any, SV.any, SV.any, SV.any, SV.any, SV.any, SV.any, SV.any, SV.any, SV.any, SV.any, SV.any] [{ rw := false, c := Cont.ints MX }, { rw := false, c := Cont.a8 l }, { rw := true, c := Cont.a8 (X (List.take (16 : Nat) (List.drop off l)) ++ rest) }, { rw := true, c := Cont.a64 (R (List.take (16 : Nat) (List.drop (0 : Nat) (X (List.take (16 : Nat) (List.drop off l)) ++ rest)))) }, { rw := true, c := Cont.a64 (List.replicate (5 : Nat) (0 : BitVec (64 : Nat))) }, { rw := true, c := Cont.a8 x }, { rw := true, c := Cont.row [SV.sl ((0 : Nat) + (1 : Nat) + (1 : Nat) + (1 : Nat) + (1 : Nat) + (1 : Nat)) (0 : Nat) (List.length s) cap_1] }, { rw := true, c := Cont.row [SV.i (16 : Int)] }] else False else False else False) := by kernel_rfl
theorem vr25 (R E : Tx → Ds) (A T : Ds → Ds → Ds) (L : Ds → Ds) (W : Ds → Tx) (X : Tx → Tx) (l C S : Tx) (r a : Ds) (off cap len capS i m : Nat) (sel : List SV → Mm → Option (Ds × List Nat)) (q : Ds → Prop) : (frK 28 (i25 off cap) fun fr => setK fr 14 (.sl 5 i m m) fun fr => vcode Tryd.prog (F12 R E A T L W X) noW (vdraw Tryd.prog (F12 R E A T L W X)) (asc (bdOf Tryd.prog 25)) fr (M25 l C S r a len capS 16) fun e fr1 M1 => match e with | .normal => vcode Tryd.prog (F12 R E A T L W X) noW (vdraw Tryd.prog (F12 R E A T L W X)) (boc (bdOf Tryd.prog 25)) fr1 M1 (Kround 1 8 0 (fun _ M => match M with | _ :: _ :: _ :: _ :: ⟨_, .a64 a⟩ :: _ => some (a, []) | _ => none) q (fun _ => False) (fun a => M25 l C S r a len capS 16)) | _ => False) = (bif (List.length a).beq (5 : Nat) then bif (i + m).ble (List.length S) && m.ble (16 : Nat) then bif (List.length a).beq (5 : Nat) && (List.length (E (List.take m (List.drop i S)))).beq (5 : Nat) then bif (List.length r).beq (5 : Nat) then bif (List.length (A a (E (List.take m (List.drop i S))))).beq (5 : Nat) && (List.length r).beq (5 : Nat) then bif (List.length (T (A a (E (List.take m (List.drop i S)))) r)).beq (List.length a) && (List.length (T (A a (E (List.take m (List.drop i S)))) r)).beq (5 : Nat) then q (T (A a (E (List.take m (List.drop i S)))) r) ∧ (false = false ∧ Cont.ints MX = Cont.ren (sig (8 : Nat) []) (Cont.ints MX)) ∧ (false = false ∧ Cont.a8 l = Cont.ren (sig (8 : Nat) []) (Cont.a8 l)) ∧ (true = true ∧ Cont.a8 C = Cont.ren (sig (8 : Nat) []) (Cont.a8 C)) ∧ (true = true ∧ Cont.a64 r = Cont.ren (sig (8 : Nat) []) (Cont.a64 r)) ∧ (true = true ∧ Cont.a64 (T (A a (E (List.take m (List.drop i S)))) r) = Cont.ren (sig (8 : Nat) []) (Cont.a64 (T (A a (E (List.take m (List.drop i S)))) r))) ∧ (true = true ∧ Cont.a8 S = Cont.ren (sig (8 : Nat) []) (Cont.a8 S)) ∧ (true = true ∧ Cont.row [SV.sl (5 : Nat) (0 : Nat) len capS] = Cont.ren (sig (8 : Nat) []) (Cont.row [SV.sl (5 : Nat) (0 : Nat) len capS])) ∧ (true = true ∧ Cont.row [SV.i (↑(16 : Nat) : Int)] = Cont.ren (sig (8 : Nat) []) (Cont.row [SV.i (↑(16 : Nat) : Int)])) ∧ True else False else False else False else False else False else False) := by kernel_rfl
theorem vz25 (R E : Tx → Ds) (A T : Ds → Ds → Ds) (L : Ds → Ds) (W : Ds → Tx) (X : Tx → Tx) (l C S : Tx) (r a : Ds) (off cap len capS : Nat) (r0 : SV) : (frK 28 (i25 off cap) fun fr => vcode Tryd.prog (F12 R E A T L W X) noW (vdraw Tryd.prog (F12 R E A T L W X)) (ezc (bdOf Tryd.prog 25)) fr (M25 l C S r a len capS 16) fun e fr M => match e with | .normal => forceK (ev fr (.tmp 4)) fun y => y = r0 | _ => False) = (bif (List.length a).beq (5 : Nat) then bif (List.length a).beq (5 : Nat) then bif ile (↑(32 : Nat) : Int) (↑cap : Int) && ilt (16 : Int) (↑cap : Int) then bif ((16 : Nat) + off + (16 : Nat)).ble (List.length l) && true then bif (List.length (L a)).beq (5 : Nat) && (List.length (R (List.take (16 : Nat) (List.drop ((16 : Nat) + off) l)))).beq (5 : Nat) then bif (List.length (A (L a) (R (List.take (16 : Nat) (List.drop ((16 : Nat) + off) l))))).beq (5 : Nat) then SV.s (W (A (L a) (R (List.take (16 : Nat) (List.drop ((16 : Nat) + off) l))))) = r0 else False else False else False else False else False else False) := by kernel_rfl
structure T25 where
  cap' : Nat
  capS : Nat
  rest : Tx
  S : Tx
def t25 (s : Tx) (θ : T25) : Prop := 16 + θ.rest.length = θ.cap' ∧ s.length ≤ θ.capS ∧ θ.S = s ++ List.replicate (θ.capS - s.length) 0
def sel25 (_ : Ds) (_ : List SV) (M : Mm) : Option (Ds × List Nat) := match M with
  | _ :: _ :: _ :: _ :: ⟨_, .a64 a⟩ :: _ => some (a, [])
  | _ => none
theorem piece_is (s : Tx) (n k m : Nat) (hm : m = min 16 (s.length - 16 * k)) : ((s ++ List.replicate n (0 : BitVec 8)).drop (16 * k)).take m = chk s k := by
  unfold chk
  rcases Nat.lt_or_ge s.length (16 * k) with q | q
  · have : m = 0 := by omega
    rw [this, List.take_zero, List.drop_eq_nil_of_le (by omega), List.take_nil]
  · rw [List.drop_append_of_le_length q, List.take_append_of_le_length (by rw [List.length_drop]; omega)]
    have e : (s.drop (16 * k)).length = s.length - 16 * k := List.length_drop ..
    rcases Nat.le_total 16 (s.length - 16 * k) with h | h
    · rw [show m = 16 by omega]
    · rw [show m = s.length - 16 * k by omega, List.take_of_length_le (by omega), List.take_of_length_le (by omega)]
theorem ro_br (l : Tx) : ∀ (k : Nat) (e : Ent), (Br l)[k]? = some e → e.rw = false := fun k e he => by
  match k, he with
  | 0, he => obtain rfl := Option.some.inj he; rfl
  | 1, he => obtain rfl := Option.some.inj he; rfl
  | k + 2, he => cases he
theorem tagOf_spec (l s : Tx) (off cap : Nat) (h1 : off + 32 ≤ l.length) (h2 : 32 ≤ cap) (hs : s.length ≤ 1099511627776) : Spec Tryd.prog G 25 [.sl 1 off 32 cap, .s s] (Br l) (fun r M => r = .s (tgP ((l.drop off).take 32) s) ∧ M = Br l) := by
  have hk16 : ((l.drop off).take 16).length = 16 := by rw [List.length_take, List.length_drop]; omega
  have ek : ((l.drop off).take 32).take 16 = (l.drop off).take 16 := by rw [List.take_take]; rfl
  have ed : ((l.drop off).take 32).drop 16 = (l.drop (16 + off)).take 16 := by rw [List.drop_take, List.drop_drop, Nat.add_comm off 16]
  have hcl : (clP ((l.drop off).take 16)).length = 16 := (clP_len _).trans hk16
  refine range_funA (E := F12 rdn enD pls tms lst wrD clP) f12_ok mixed (f := 25) (gf := 50) (n := 28) (bid := 0) (pt := 14) (rt := 4) (nB := 8) (fn := Tryd.f25) (A1 := A1c (bdOf Tryd.prog 25)) (A2 := A2c (bdOf Tryd.prog 25)) (A3 := A3c (bdOf Tryd.prog 25)) (A4 := A4c (bdOf Tryd.prog 25)) (Z := ezc (bdOf Tryd.prog 25)) (assign := asc (bdOf Tryd.prog 25)) (body := boc (bdOf Tryd.prog 25)) (g := .tmp 13) (t25 s) (fun _ => nK s.length 16) (fun θ a => M25 l (clP ((l.drop off).take 16) ++ θ.rest) θ.S (rdn (clP ((l.drop off).take 16))) a s.length θ.capS 16) (fun _ k a => a = agP (rdn (clP ((l.drop off).take 16))) s k) sel25 (fun _ _ _ _ => noW) (fun _ => pcK s.length 16) (fun _ => i25 off cap) (caps := [.ptr 6 0, .ptr 7 0]) (M0 := Br l) (fun θ => Mv s.length θ.capS 16) (fun _ => Z5) (.s (tgP ((l.drop off).take 32) s))
    Tryd.func25 (by kernel_rfl) (by kernel_rfl) (by kernel_rfl) (ro_br l) (by show 1 ≤ 8; decide) (fun _ _ => rfl) (fun _ _ => Nat.le_refl _) (fun _ => rfl) (fun _ => rfl) (fun _ _ => rfl) (fun _ _ _ _ _ _ _ _ _ _ _ _ _ h => h.elim)
    (of_eq (vp25 rdn enD pls tms lst wrD clP l s off cap _) ?_) (fun _ => rfl) rfl (fun args w => enter_run (c := bdOf Tryd.prog 50) Tryd.func50 (by kernel_rfl) (by kernel_rfl) args w)
    (fun θ hT β0 => chunk_seq s.length θ.capS 16 (by decide) (by decide) hT.2.1 hs β0) (fun θ hT β0 β i W hR hag => ?_) (fun θ hT k a hkN hp => ?_) (fun θ hT a hp => ?_) rfl
  · refine bif_of (by rw [Nat.ble_eq_true_of_le (by omega), Nat.ble_eq_true_of_le (by omega)]; rfl) fun cap' rest hc => ?_
    rw [List.drop_zero, take_left' _ _ _ hcl, rdn_len]
    refine bif_of (by rw [Nat.ble_eq_true_of_le (by rw [List.length_append, hcl]; omega)]; rfl) (bif_of rfl fun capS S h3 h4 => ?_)
    exact ⟨⟨cap', capS, rest, S⟩, ⟨hc, h3, h4⟩, ⟨rfl, rfl, rfl, rfl, ⟨rfl, rfl⟩, ⟨rfl, rfl⟩, ⟨rfl, rfl⟩, ⟨rfl, rfl⟩, ⟨rfl, rfl⟩, ⟨rfl, rfl⟩, ⟨rfl, rfl⟩, ⟨rfl, rfl⟩, trivial⟩, rfl⟩
  · refine rel_view2 hR (fun k => k) (by show 1 ≤ 8; decide) (fun k hk => ?_) (fun g hg => by rw [← hag g (by have : g < 1 := hg; omega)]; exact hR.glob g hg) (fun k hk => (hag k hk).symm) (fun k e he hk => ?_)
    · match k, hk with
      | 0, _ => rfl
    · match k, he, hk with
      | 1, he, _ => obtain rfl := Option.some.inj he; exact ⟨rfl, rfl, fun h => nomatch h⟩
      | 2, he, _ => obtain rfl := Option.some.inj he; exact ⟨rfl, rfl, fun h => nomatch h⟩
      | 3, he, _ => obtain rfl := Option.some.inj he; exact ⟨rfl, rfl, fun h => nomatch h⟩
      | 4, he, _ => obtain rfl := Option.some.inj he; exact ⟨rfl, rfl, fun h => nomatch h⟩
      | 5, he, _ => obtain rfl := Option.some.inj he; exact ⟨rfl, rfl, fun h => nomatch h⟩
      | 6, he, _ => obtain rfl := Option.some.inj he; exact ⟨rfl, rfl, fun _ => ⟨true, rfl⟩⟩
      | 7, he, _ => obtain rfl := Option.some.inj he; exact ⟨rfl, rfl, fun _ => ⟨true, rfl⟩⟩
      | k + 8, he, _ => cases he
  · obtain ⟨c1, c2, c3⟩ := hT
    subst hp
    have hi := nK_lt (by decide) hkN
    have h := of_eq (vr25 rdn enD pls tms lst wrD clP l (clP ((l.drop off).take 16) ++ θ.rest) θ.S (rdn (clP ((l.drop off).take 16))) (agP (rdn (clP ((l.drop off).take 16))) s k) off cap s.length θ.capS (16 * k) (min 16 (s.length - 16 * k)) (fun _ _ => none) (fun a => a = agP (rdn (clP ((l.drop off).take 16))) s (k + 1))) ?_
    · rw [frK_eq, setK_eq] at h; exact h
    have ep : (θ.S.drop (16 * k)).take (min 16 (s.length - 16 * k)) = chk s k := by rw [c3]; exact piece_is s _ k _ rfl
    have hSl : θ.S.length = θ.capS := by rw [c3, List.length_append, List.length_replicate]; omega
    rw [ep, tms_len, pls_len, agP_len, rdn_len, show (enD (chk s k)).length = 5 from rdn_len _]
    refine bif_of rfl (bif_of ?_ (bif_of rfl (bif_of rfl (bif_of rfl (bif_of rfl ⟨rfl, ⟨rfl, rfl⟩, ⟨rfl, rfl⟩, ⟨rfl, rfl⟩, ⟨rfl, rfl⟩, ⟨rfl, rfl⟩, ⟨rfl, rfl⟩, ⟨rfl, rfl⟩, ⟨rfl, rfl⟩, trivial⟩)))))
    rw [Nat.ble_eq_true_of_le (by omega), Nat.ble_eq_true_of_le (by omega)]; rfl
  · subst hp
    have h := of_eq (vz25 rdn enD pls tms lst wrD clP l (clP ((l.drop off).take 16) ++ θ.rest) θ.S (rdn (clP ((l.drop off).take 16))) (agP (rdn (clP ((l.drop off).take 16))) s (nK s.length 16)) off cap s.length θ.capS (.s (tgP ((l.drop off).take 32) s))) ?_
    · simp only [frK_eq, forceK_eq] at h
      exact h
    rw [pls_len, lst_len, agP_len, rdn_len]
    refine bif_of rfl (bif_of rfl (bif_of ?_ (bif_of ?_ (bif_of rfl (bif_of rfl ?_)))))
    · rw [Bool.and_eq_true, ile_eq, ilt_eq]; exact ⟨decide_eq_true (by omega), decide_eq_true (by omega)⟩
    · rw [Nat.ble_eq_true_of_le (by omega)]; rfl
    · unfold tgP
      rw [ek, ed]
      rfl
theorem Spec.weak {P : Program} {G : Mm} {f : Nat} {args : List SV} {M : Mm} {K K' : SV → Mm → Prop} (h : Spec P G f args M K) (hK : ∀ r M, K r M → K' r M) : Spec P G f args M K' := fun β w hR hw => (h β w hR hw).mono fun v w' hh => by
  obtain ⟨β1, M1, r, a, b, c, d⟩ := hh
  exact ⟨β1, M1, r, a, b, c, hK _ _ d⟩
def cTagOf (T : Tx → Tx → Tx) : List SV → List Cont → Option (Bool × SV)
  | [.sl k off len cap, .s s], [.a8 l, _] => some (Nat.beq len 32 && (Nat.ble (off + 32) l.length && (Nat.ble 32 cap && Nat.ble s.length 1099511627776)), .s (T ((l.drop off).take 32) s))
  | _, _ => none
theorem tagOf_ok : POk Tryd.prog G 25 (cTagOf tgP) := by
  intro args acs r h β M w hR hw ha
  unfold cTagOf at h
  split at h
  · rename_i k off len cap s l x
    simp only [Option.some.injEq, Prod.mk.injEq, Bool.and_eq_true] at h
    obtain ⟨⟨h0, h1, h2, h3⟩, rfl⟩ := h
    obtain rfl := Nat.eq_of_beq_eq_true h0
    have h1 := Nat.le_of_ble_eq_true h1
    have h2 := Nat.le_of_ble_eq_true h2
    have h3 := Nat.le_of_ble_eq_true h3
    simp only [List.map_cons, List.map_nil, List.cons.injEq, and_true] at ha
    exact pure1 (args0 := [.sl 1 off 32 cap, .s s]) (c := .a8 l) (k := k) (Spec.weak (tagOf_spec l s off cap h1 h2 h3) fun r M h => h.1) rfl rfl rfl rfl rfl (fun _ => rfl) hR (tgt_some ha.1.symm rfl)
  · cases h
end Go.Proofs.YtgjhkfafmmkimaaDoor
