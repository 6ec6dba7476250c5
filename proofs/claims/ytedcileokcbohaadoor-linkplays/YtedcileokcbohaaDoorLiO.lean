/-
  link: Take. No statement is proved here.
-/
import Derived.Test.YtedcileokcbohaaDoorLiL
namespace Go.Proofs.YtedcileokcbohaaDoor
open Go.RowKit
set_option linter.unusedVariables false
set_option linter.unusedSimpArgs false
set_option maxRecDepth 100000

def tkOk (own : BitVec 32) (op : BitVec 16) (m : Tx) (fa : BitVec 32) (to : Tx) (n : BitVec 64) : Bool := !(MC.ule n) && (arpOk isM op m to && othR own fa m)
def tkAns (own : BitVec 32) (op : BitVec 16) (m : Tx) (fa : BitVec 32) (to : Tx) (ta : BitVec 32) (n : BitVec 64) : Bool := tkOk own op m fa to n && (ta == own && op == BitVec.ofInt 16 1)
/-- What is answered, or nothing. -/
def tkA (mac : Tx) (own : BitVec 32) (m : Tx) (fa : BitVec 32) (b : Bool) : SV := .agg [.w16 (bif b then BitVec.ofInt 16 2 else 0), .s (bif b then mac else []), .w32 (bif b then own else 0), .s (bif b then m else []), .w32 (bif b then fa else 0)]
def tkE (own : BitVec 32) (op : BitVec 16) (m : Tx) (fa : BitVec 32) (to : Tx) (n : BitVec 64) : Int := bif tkOk own op m fa to n then 0 else 2
def tkL (q : Int) (f : BitVec 64) (own : BitVec 32) (m : Tx) (fa ta : BitVec 32) (n : BitVec 64) (L : List Nr) : List Nr := bif ta == own then keepL q f fa m n L else bif isL fa L then keepL q f fa m n L else L
/-- Who is near behind it, at the program's. -/
def tkLp (q : Int) (f : BitVec 64) (own : BitVec 32) (op : BitVec 16) (m : Tx) (fa : BitVec 32) (to : Tx) (ta : BitVec 32) (n : BitVec 64) (L : List Nr) : List Nr := bif tkOk own op m fa to n then tkL q f own m fa ta n (kept n L) else pasL n L
theorem v24 (AI : BitVec 16 → Tx → Tx → Bool) (O : BitVec 32 → BitVec 32 → Tx → Bool) (mac m to : Tx) (own fa ta : BitVec 32) (op : BitVec 16) (q : Int) (f n : BitVec 64) (s : TS) (K : SV → Mm → Prop) : (vf Tryd.prog (EL AI O) noL 24 [.ptr 1 0, .agg [.w16 op, .s m, .w32 fa, .s to, .w32 ta], .w64 n] (M0T (pT mac own q f) s) K) = (bif q == 0 then K (SV.tup [SV.agg [SV.w16 0, SV.s [], SV.w32 0, SV.s [], SV.w32 0], SV.b false, SV.i 1]) [e0, rowT (pT mac own q f) s 2, recT' s, { rw := true, c := Cont.row [SV.w16 op, SV.s m, SV.w32 fa, SV.s to, SV.w32 ta] }, { rw := true, c := Cont.row [SV.w16 0, SV.s [], SV.w32 0, SV.s [], SV.w32 0] }] else s.b = s.b ∧ bif (mkT s.b s.len s.cap s.l).ok then ∀ (s' : TS), okT s' (pasL n (mkT s.b s.len s.cap s.l).L) → bif !!MC.ule n then K (SV.tup [SV.agg [SV.w16 0, SV.s [], SV.w32 0, SV.s [], SV.w32 0], SV.b false, SV.i 2]) [e0, { rw := true, c := Cont.row [SV.s mac, SV.w32 own, SV.i q, SV.w64 f, SV.ns s'.b (0 + 1 + 1 + 1 + 1 + 1) 3 s'.len s'.cap] }, goneE, { rw := true, c := Cont.row [SV.w16 op, SV.s m, SV.w32 fa, SV.s to, SV.w32 ta] }, { rw := true, c := Cont.row [SV.w16 0, SV.s [], SV.w32 0, SV.s [], SV.w32 0] }, recT' s'] else bif bif false then true else !AI op m to then K (SV.tup [SV.agg [SV.w16 0, SV.s [], SV.w32 0, SV.s [], SV.w32 0], SV.b false, SV.i 2]) [e0, { rw := true, c := Cont.row [SV.s mac, SV.w32 own, SV.i q, SV.w64 f, SV.ns s'.b (0 + 1 + 1 + 1 + 1 + 1) 3 s'.len s'.cap] }, goneE, { rw := true, c := Cont.row [SV.w16 op, SV.s m, SV.w32 fa, SV.s to, SV.w32 ta] }, { rw := true, c := Cont.row [SV.w16 0, SV.s [], SV.w32 0, SV.s [], SV.w32 0] }, recT' s'] else bif bif false then true else !O own fa m then K (SV.tup [SV.agg [SV.w16 0, SV.s [], SV.w32 0, SV.s [], SV.w32 0], SV.b false, SV.i 2]) [e0, { rw := true, c := Cont.row [SV.s mac, SV.w32 own, SV.i q, SV.w64 f, SV.ns s'.b (0 + 1 + 1 + 1 + 1 + 1) 3 s'.len s'.cap] }, goneE, { rw := true, c := Cont.row [SV.w16 op, SV.s m, SV.w32 fa, SV.s to, SV.w32 ta] }, { rw := true, c := Cont.row [SV.w16 0, SV.s [], SV.w32 0, SV.s [], SV.w32 0] }, recT' s'] else s'.b = s'.b ∧ bif (mkT s'.b s'.len s'.cap s'.l).ok then bif sortB (mkT s'.b s'.len s'.cap s'.l).L then bif ta == own then (mkT s'.b s'.len s'.cap s'.l).b = (mkT s'.b s'.len s'.cap s'.l).b ∧ bif (mkT (mkT s'.b s'.len s'.cap s'.l).b (mkT s'.b s'.len s'.cap s'.l).len (mkT s'.b s'.len s'.cap s'.l).cap (mkT s'.b s'.len s'.cap s'.l).l).ok then bif sortB (mkT (mkT s'.b s'.len s'.cap s'.l).b (mkT s'.b s'.len s'.cap s'.l).len (mkT s'.b s'.len s'.cap s'.l).cap (mkT s'.b s'.len s'.cap s'.l).l).L && ((List.length m).ble 4294967296 && ile q 64) then ∀ (s'_1 : TS), okT s'_1 (keepL q f fa m n (mkT (mkT s'.b s'.len s'.cap s'.l).b (mkT s'.b s'.len s'.cap s'.l).len (mkT s'.b s'.len s'.cap s'.l).cap (mkT s'.b s'.len s'.cap s'.l).l).L) → bif !ta == own then K (SV.tup [SV.agg [SV.w16 0, SV.s [], SV.w32 0, SV.s [], SV.w32 0], SV.b false, SV.i 0]) [{ rw := false, c := Cont.a8 HD }, { rw := true, c := Cont.row [SV.s mac, SV.w32 own, SV.i q, SV.w64 f, SV.ns s'_1.b (0 + 1 + 1 + 1 + 1 + 1 + 1 + 1) 3 s'_1.len s'_1.cap] }, { rw := true, c := Cont.gone }, { rw := true, c := Cont.row [SV.w16 op, SV.s m, SV.w32 fa, SV.s to, SV.w32 ta] }, { rw := true, c := Cont.row [SV.w16 0, SV.s [], SV.w32 0, SV.s [], SV.w32 0] }, goneE, goneE, recT' s'_1] else bif bif false then true else op != BitVec.ofInt 16 1 then K (SV.tup [SV.agg [SV.w16 0, SV.s [], SV.w32 0, SV.s [], SV.w32 0], SV.b false, SV.i 0]) [{ rw := false, c := Cont.a8 HD }, { rw := true, c := Cont.row [SV.s mac, SV.w32 own, SV.i q, SV.w64 f, SV.ns s'_1.b (0 + 1 + 1 + 1 + 1 + 1 + 1 + 1) 3 s'_1.len s'_1.cap] }, { rw := true, c := Cont.gone }, { rw := true, c := Cont.row [SV.w16 op, SV.s m, SV.w32 fa, SV.s to, SV.w32 ta] }, { rw := true, c := Cont.row [SV.w16 0, SV.s [], SV.w32 0, SV.s [], SV.w32 0] }, goneE, goneE, recT' s'_1] else bif (List.length m).ble 4294967296 then K (SV.tup [SV.agg [SV.w16 (BitVec.ofInt 16 2), SV.s mac, SV.w32 own, SV.s m, SV.w32 fa], SV.b true, SV.i 0]) [{ rw := false, c := Cont.a8 HD }, { rw := true, c := Cont.row [SV.s mac, SV.w32 own, SV.i q, SV.w64 f, SV.ns s'_1.b (0 + 1 + 1 + 1 + 1 + 1 + 1 + 1) 3 s'_1.len s'_1.cap] }, { rw := true, c := Cont.gone }, { rw := true, c := Cont.row [SV.w16 op, SV.s m, SV.w32 fa, SV.s to, SV.w32 ta] }, { rw := true, c := Cont.row [SV.w16 (BitVec.ofInt 16 2), SV.s mac, SV.w32 own, SV.s m, SV.w32 fa] }, { rw := true, c := Cont.gone }, { rw := true, c := Cont.gone }, { rw := true, c := Cont.nrec s'_1.b 57 NF s'_1.l }] else False else False else False else bif bif false then true else isL fa (mkT s'.b s'.len s'.cap s'.l).L then (mkT s'.b s'.len s'.cap s'.l).b = (mkT s'.b s'.len s'.cap s'.l).b ∧ bif (mkT (mkT s'.b s'.len s'.cap s'.l).b (mkT s'.b s'.len s'.cap s'.l).len (mkT s'.b s'.len s'.cap s'.l).cap (mkT s'.b s'.len s'.cap s'.l).l).ok then bif sortB (mkT (mkT s'.b s'.len s'.cap s'.l).b (mkT s'.b s'.len s'.cap s'.l).len (mkT s'.b s'.len s'.cap s'.l).cap (mkT s'.b s'.len s'.cap s'.l).l).L && ((List.length m).ble 4294967296 && ile q 64) then ∀ (s'_1 : TS), okT s'_1 (keepL q f fa m n (mkT (mkT s'.b s'.len s'.cap s'.l).b (mkT s'.b s'.len s'.cap s'.l).len (mkT s'.b s'.len s'.cap s'.l).cap (mkT s'.b s'.len s'.cap s'.l).l).L) → bif !ta == own then K (SV.tup [SV.agg [SV.w16 0, SV.s [], SV.w32 0, SV.s [], SV.w32 0], SV.b false, SV.i 0]) [{ rw := false, c := Cont.a8 HD }, { rw := true, c := Cont.row [SV.s mac, SV.w32 own, SV.i q, SV.w64 f, SV.ns s'_1.b (0 + 1 + 1 + 1 + 1 + 1 + 1 + 1) 3 s'_1.len s'_1.cap] }, { rw := true, c := Cont.gone }, { rw := true, c := Cont.row [SV.w16 op, SV.s m, SV.w32 fa, SV.s to, SV.w32 ta] }, { rw := true, c := Cont.row [SV.w16 0, SV.s [], SV.w32 0, SV.s [], SV.w32 0] }, goneE, goneE, recT' s'_1] else bif bif false then true else op != BitVec.ofInt 16 1 then K (SV.tup [SV.agg [SV.w16 0, SV.s [], SV.w32 0, SV.s [], SV.w32 0], SV.b false, SV.i 0]) [{ rw := false, c := Cont.a8 HD }, { rw := true, c := Cont.row [SV.s mac, SV.w32 own, SV.i q, SV.w64 f, SV.ns s'_1.b (0 + 1 + 1 + 1 + 1 + 1 + 1 + 1) 3 s'_1.len s'_1.cap] }, { rw := true, c := Cont.gone }, { rw := true, c := Cont.row [SV.w16 op, SV.s m, SV.w32 fa, SV.s to, SV.w32 ta] }, { rw := true, c := Cont.row [SV.w16 0, SV.s [], SV.w32 0, SV.s [], SV.w32 0] }, goneE, goneE, recT' s'_1] else bif (List.length m).ble 4294967296 then K (SV.tup [SV.agg [SV.w16 (BitVec.ofInt 16 2), SV.s mac, SV.w32 own, SV.s m, SV.w32 fa], SV.b true, SV.i 0]) [{ rw := false, c := Cont.a8 HD }, { rw := true, c := Cont.row [SV.s mac, SV.w32 own, SV.i q, SV.w64 f, SV.ns s'_1.b (0 + 1 + 1 + 1 + 1 + 1 + 1 + 1) 3 s'_1.len s'_1.cap] }, { rw := true, c := Cont.gone }, { rw := true, c := Cont.row [SV.w16 op, SV.s m, SV.w32 fa, SV.s to, SV.w32 ta] }, { rw := true, c := Cont.row [SV.w16 (BitVec.ofInt 16 2), SV.s mac, SV.w32 own, SV.s m, SV.w32 fa] }, { rw := true, c := Cont.gone }, { rw := true, c := Cont.gone }, { rw := true, c := Cont.nrec s'_1.b 57 NF s'_1.l }] else False else False else False else bif !ta == own then K (SV.tup [SV.agg [SV.w16 0, SV.s [], SV.w32 0, SV.s [], SV.w32 0], SV.b false, SV.i 0]) [{ rw := false, c := Cont.a8 HD }, { rw := true, c := Cont.row [SV.s mac, SV.w32 own, SV.i q, SV.w64 f, SV.ns (mkT s'.b s'.len s'.cap s'.l).b (0 + 1 + 1 + 1 + 1 + 1 + 1) 3 (mkT s'.b s'.len s'.cap s'.l).len (mkT s'.b s'.len s'.cap s'.l).cap] }, { rw := true, c := Cont.gone }, { rw := true, c := Cont.row [SV.w16 op, SV.s m, SV.w32 fa, SV.s to, SV.w32 ta] }, { rw := true, c := Cont.row [SV.w16 0, SV.s [], SV.w32 0, SV.s [], SV.w32 0] }, goneE, recT' (mkT s'.b s'.len s'.cap s'.l)] else bif bif false then true else op != BitVec.ofInt 16 1 then K (SV.tup [SV.agg [SV.w16 0, SV.s [], SV.w32 0, SV.s [], SV.w32 0], SV.b false, SV.i 0]) [{ rw := false, c := Cont.a8 HD }, { rw := true, c := Cont.row [SV.s mac, SV.w32 own, SV.i q, SV.w64 f, SV.ns (mkT s'.b s'.len s'.cap s'.l).b (0 + 1 + 1 + 1 + 1 + 1 + 1) 3 (mkT s'.b s'.len s'.cap s'.l).len (mkT s'.b s'.len s'.cap s'.l).cap] }, { rw := true, c := Cont.gone }, { rw := true, c := Cont.row [SV.w16 op, SV.s m, SV.w32 fa, SV.s to, SV.w32 ta] }, { rw := true, c := Cont.row [SV.w16 0, SV.s [], SV.w32 0, SV.s [], SV.w32 0] }, goneE, recT' (mkT s'.b s'.len s'.cap s'.l)] else bif (List.length m).ble 4294967296 then K (SV.tup [SV.agg [SV.w16 (BitVec.ofInt 16 2), SV.s mac, SV.w32 own, SV.s m, SV.w32 fa], SV.b true, SV.i 0]) [{ rw := false, c := Cont.a8 HD }, { rw := true, c := Cont.row [SV.s mac, SV.w32 own, SV.i q, SV.w64 f, SV.ns (mkT s'.b s'.len s'.cap s'.l).b (0 + 1 + 1 + 1 + 1 + 1 + 1) 3 (mkT s'.b s'.len s'.cap s'.l).len (mkT s'.b s'.len s'.cap s'.l).cap] }, { rw := true, c := Cont.gone }, { rw := true, c := Cont.row [SV.w16 op, SV.s m, SV.w32 fa, SV.s to, SV.w32 ta] }, { rw := true, c := Cont.row [SV.w16 (BitVec.ofInt 16 2), SV.s mac, SV.w32 own, SV.s m, SV.w32 fa] }, { rw := true, c := Cont.gone }, { rw := true, c := Cont.nrec (mkT s'.b s'.len s'.cap s'.l).b 57 NF (mkT s'.b s'.len s'.cap s'.l).l }] else False else False else False else False) := by kernel_rfl
theorem v24z (AI : BitVec 16 → Tx → Tx → Bool) (O : BitVec 32 → BitVec 32 → Tx → Bool) (m to : Tx) (fa ta : BitVec 32) (op : BitVec 16) (n : BitVec 64) : (vf Tryd.prog (EL AI O) noL 24 [.v (.pointer none), .agg [.w16 op, .s m, .w32 fa, .s to, .w32 ta], .w64 n] G (fun r M1 => vLeR G [r] M1 1 [(0, .tup [.agg [.w16 0, .s [], .w32 0, .s [], .w32 0], .b false, .i 1])] G [] True)) = (SV.tup [SV.agg [SV.w16 0, SV.s [], SV.w32 0, SV.s [], SV.w32 0], SV.b false, SV.i 1] = ren (sig 1 []) (SV.tup [SV.agg [SV.w16 0, SV.s [], SV.w32 0, SV.s [], SV.w32 0], SV.b false, SV.i 1]) ∧ (false = false ∧ Cont.a8 HD = Cont.ren (sig 1 []) (Cont.a8 HD)) ∧ True) := by kernel_rfl
theorem Spec.sel {P : Program} {G M M' : Mm} {f : Nat} {args : List SV} {r' : SV} {rs : List Nat} (hG : G.length ≤ M.length) (hr : isAny r' = false) (hS : Spec P G f args M (fun r M1 => vLeR M [r] M1 1 [(0, r')] M' rs True)) : Spec P G f args M (fun r M1 => r = r' ∧ M1 = M') := by
  intro β w hR hw
  refine (hS β w hR hw).mono fun v w' hh => ?_
  obtain ⟨β1, M1, r, hE, hR1, ⟨hwf, rfl⟩, hK⟩ := hh
  obtain ⟨hl, -⟩ := vLeR_ok hK
  have hF : RelF β1 M1.length [r] { tmps := #[val β1 r], defers := [] } := by
    refine ⟨rfl, fun k x hx => ?_, rfl⟩
    cases k with
    | zero => obtain rfl := Option.some.inj hx; exact .inr ⟨hwf, rfl⟩
    | succ k => cases hx
  obtain ⟨h1, h2, h3⟩ := hl.go hG hE hF hR1
  have h4 := h2.at' 0 r' rfl
  rcases h4 with e | ⟨e1, e2⟩
  · subst e; cases hr
  · exact ⟨_, M', r', h1, h3, ⟨e1, e2⟩, rfl, rfl⟩
def cTake : List SV → Mm → (SV → Mm → Prop) → Prop
  | [.ptr k off, .agg [.w16 op, .s m', .w32 fa, .s to, .w32 ta], .w64 n], M, K => onT M k off fun m o q f s j => vsome (sortB s.L && (Nat.ble m'.length 4294967296 && okQ q)) (∀ s', okT s' (tkLp q f o op m' fa to ta n s.L) → putT M k j m o q f s' (K (.tup [tkA m o m' fa (tkAns o op m' fa to ta n), .b (tkAns o op m' fa to ta n), .i (tkE o op m' fa to n)])))
  | [.v (.pointer none), .agg [.w16 _, .s _, .w32 _, .s _, .w32 _], .w64 _], M, K => K (.tup [.agg [.w16 0, .s [], .w32 0, .s [], .w32 0], .b false, .i 1]) M
  | _, _, _ => False
theorem mkT_eta (s : TS) : mkT s.b s.len s.cap s.l = s := rfl
/-- Behind the search: who asks is kept, if it is for this one, or if it is near. -/
theorem take_ok : COk Tryd.prog G 24 cTake := by
  intro args M K h
  unfold cTake at h
  split at h
  · rename_i k off op m' fa to ta n
    obtain ⟨m, o, q, f, s, j, hk, hj, hne, rfl, hok, h⟩ := onT_ok h
    obtain ⟨hso, h⟩ := vsome_iff.1 h
    simp only [Bool.and_eq_true] at hso
    obtain ⟨hso, hml, hq⟩ := hso
    let Q : SV → TS → Prop := fun r s' => r = .tup [tkA m o m' fa (tkAns o op m' fa to ta n), .b (tkAns o op m' fa to ta n), .i (tkE o op m' fa to n)] ∧ okT s' (tkLp q f o op m' fa to ta n s.L)
    refine Spec.imp (tab_eff (Q := Q) rfl rfl (vf_ok el_ok mixed (noL_ok _ _ _ _) (of_eq (v24 (arpOk isM) othR m m' to o fa ta op q f n s (outT (pT m o q f) Q)) ?_)) (fun r M1 h => h) hk hj hne) ?_
    · rw [okQ_ne hq]
      refine ⟨rfl, bif_of hok fun s1 hs1 => ?_⟩
      replace hs1 : okT s1 (pasL n s.L) := hs1
      have hp := sort_pas n hso
      -- where nothing is taken
      have no : tkOk o op m' fa to n = false → ∀ (X : Mm), outT (pT m o q f) Q (.tup [.agg [.w16 0, .s [], .w32 0, .s [], .w32 0], .b false, .i 2]) [e0, rowT (pT m o q f) s1 5, goneE, ⟨true, .row [.w16 op, .s m', .w32 fa, .s to, .w32 ta]⟩, ⟨true, .row [.w16 0, .s [], .w32 0, .s [], .w32 0]⟩, recT' s1] := fun ht X => by
        refine ⟨s1, 5, rfl, ⟨?_, ?_⟩, by decide, rfl, rfl, ⟨_, rfl⟩, rfl⟩
        · unfold tkE tkAns; rw [ht]; rfl
        · unfold tkLp; rw [ht]; exact hs1
      cases hc : MC.ule n
      · have e : pasL n s.L = kept n s.L := by unfold pasL; rw [hc]; rfl
        show bif bif false then true else !arpOk isM op m' to then _ else _
        cases ha : arpOk isM op m' to
        · exact no (by unfold tkOk; rw [ha, Bool.false_and, Bool.and_false]) []
        · show bif bif false then true else !othR o fa m' then _ else _
          cases ho : othR o fa m'
          · exact no (by unfold tkOk; rw [ho, Bool.and_false, Bool.and_false]) []
          · have ht : tkOk o op m' fa to n = true := by unfold tkOk; rw [hc, ha, ho]; rfl
            rw [e] at hs1 hp
            have hs1L : sortB s1.L = true := by rw [hs1.2]; exact hp
            have hE : tkE o op m' fa to n = 0 := by unfold tkE; rw [ht]; rfl
            have hA : tkAns o op m' fa to ta n = (ta == o && op == BitVec.ofInt 16 1) := by unfold tkAns; rw [ht, Bool.true_and]
            have hLp : tkLp q f o op m' fa to ta n s.L = tkL q f o m' fa ta n (kept n s.L) := by unfold tkLp; rw [ht]; rfl
            -- behind it all: the answer, or none
            have out : ∀ (s2 : TS), okT s2 (tkL q f o m' fa ta n (kept n s.L)) → (ta == o) = true → (bif !(ta == o) then outT (pT m o q f) Q (.tup [.agg [.w16 0, .s [], .w32 0, .s [], .w32 0], .b false, .i 0]) [e0, rowT (pT m o q f) s2 7, goneE, ⟨true, .row [.w16 op, .s m', .w32 fa, .s to, .w32 ta]⟩, ⟨true, .row [.w16 0, .s [], .w32 0, .s [], .w32 0]⟩, goneE, goneE, recT' s2]
                else bif bif false then true else op != BitVec.ofInt 16 1 then outT (pT m o q f) Q (.tup [.agg [.w16 0, .s [], .w32 0, .s [], .w32 0], .b false, .i 0]) [e0, rowT (pT m o q f) s2 7, goneE, ⟨true, .row [.w16 op, .s m', .w32 fa, .s to, .w32 ta]⟩, ⟨true, .row [.w16 0, .s [], .w32 0, .s [], .w32 0]⟩, goneE, goneE, recT' s2]
                else bif Nat.ble m'.length 4294967296 then outT (pT m o q f) Q (.tup [.agg [.w16 (BitVec.ofInt 16 2), .s m, .w32 o, .s m', .w32 fa], .b true, .i 0]) [e0, rowT (pT m o q f) s2 7, goneE, ⟨true, .row [.w16 op, .s m', .w32 fa, .s to, .w32 ta]⟩, ⟨true, .row [.w16 (BitVec.ofInt 16 2), .s m, .w32 o, .s m', .w32 fa]⟩, goneE, goneE, recT' s2] else False) := fun s2 hs2 hto => by
              rw [hto]
              show bif bif false then true else op != BitVec.ofInt 16 1 then _ else _
              rw [hto, Bool.true_and] at hA
              cases hop : op == BitVec.ofInt 16 1
              · have hop2 : (op != BitVec.ofInt 16 1) = true := by unfold bne; rw [hop]; rfl
                rw [hop2]
                refine ⟨s2, 7, rfl, ⟨?_, by rw [hLp]; exact hs2⟩, by decide, rfl, rfl, ⟨_, rfl⟩, rfl⟩
                rw [hA, hE, hop]; rfl
              · have hop2 : (op != BitVec.ofInt 16 1) = false := by unfold bne; rw [hop]; rfl
                rw [hop2]
                refine bif_of hml ⟨s2, 7, rfl, ⟨?_, by rw [hLp]; exact hs2⟩, by decide, rfl, rfl, ⟨_, rfl⟩, rfl⟩
                rw [hA, hE, hop]; rfl
            refine ⟨rfl, bif_of hs1.1 (bif_of hs1L ?_)⟩
            cases hto : ta == o
            · show bif bif false then true else isL fa s1.L then _ else _
              rw [hto, Bool.false_and] at hA
              cases hi : isL fa s1.L
              · refine ⟨s1, 6, rfl, ⟨?_, ?_⟩, by decide, rfl, rfl, ⟨_, rfl⟩, rfl⟩
                · rw [hA, hE]; rfl
                · rw [hLp]; unfold tkL
                  rw [hto, ← hs1.2, hi]; exact ⟨hs1.1, rfl⟩
              · refine ⟨rfl, bif_of hs1.1 (bif_of (and_t hs1L (and_t hml (okQ_le hq))) fun s2 hs2 => ?_)⟩
                replace hs2 : okT s2 (keepL q f fa m' n s1.L) := hs2
                refine ⟨s2, 7, rfl, ⟨?_, ?_⟩, by decide, rfl, rfl, ⟨_, rfl⟩, rfl⟩
                · rw [hA, hE]; rfl
                · rw [hLp]; unfold tkL
                  rw [hto, ← hs1.2, hi]; exact hs2
            · refine ⟨rfl, bif_of hs1.1 (bif_of (and_t hs1L (and_t hml (okQ_le hq))) fun s2 hs2 => ?_)⟩
              replace hs2 : okT s2 (keepL q f fa m' n s1.L) := hs2
              have h2 := out s2 (by unfold tkL; rw [hto, ← hs1.2]; exact hs2) hto
              rw [hto] at h2
              exact h2
      · exact no (by unfold tkOk; rw [hc]; rfl) []
    · rintro r M' ⟨s', ⟨rfl, hs⟩, rfl⟩
      have := h s' hs
      rw [putT_eq] at this
      exact this
  · rename_i op m' fa to ta n
    refine eff_of (R := []) (args0 := [.v (.pointer none), .agg [.w16 op, .s m', .w32 fa, .s to, .w32 ta], .w64 n]) (K0 := fun r M => r = .tup [.agg [.w16 0, .s [], .w32 0, .s [], .w32 0], .b false, .i 1] ∧ M = G) [] (Spec.sel (rs := []) (Nat.le_refl _) rfl (vf_ok (M := G) el_ok mixed (noL_ok _ _ _ _) (of_eq (v24z _ _ m' to fa ta op n) ⟨rfl, ⟨rfl, rfl⟩, trivial⟩))) rfl rfl List.nodup_nil trivial ?_
    rintro r1 M1 ⟨rfl, rfl⟩
    rw [show back G [] M (sig G.length []) G = M from List.append_nil M]
    exact h
  · exact h.elim
end Go.Proofs.YtedcileokcbohaaDoor
