/-
  link: rows into which one comes, copies of rows. No statement is proved here.
-/
import Derived.Test.YtedcileokcbohaaDoorLiE
namespace Go.Proofs.YtedcileokcbohaaDoor
open Go.RowKit
set_option linter.unusedVariables false
set_option linter.unusedSimpArgs false
set_option maxRecDepth 100000

def cOv : List SV → Mm → (SV → Mm → Prop) → Prop
  | [.rs a _ _ _ _ _, .rs b _ _ _ _ _], M, K => match M[a]?, M[b]? with
    | some ⟨true, .recs (some _) _ _ _⟩, some ⟨true, .recs (some _) fs _ l⟩ => vsome (!(Nat.beq a b) && Nat.blt 0 (l.length * fs.length)) (K (.b false) M)
    | _, _ => False
  | _, _, _ => False
theorem beq_ne {a b : Nat} (h : (!(Nat.beq a b)) = true) : a ≠ b := fun e => by subst e; rw [Nat.beq_refl] at h; cases h
theorem ov_ok : COk Tryd.prog G 70 cOv := by
  intro args M K h
  unfold cOv at h
  split at h
  · rename_i a ba ea sa la ca b bb eb sb lb cb
    split at h
    · rename_i ta fa pa ma tb fb pb mb ha hb
      replace h := vsome_iff.1 h
      simp only [Bool.and_eq_true] at h
      obtain ⟨⟨hne, hpos⟩, h⟩ := h
      have hne := beq_ne hne
      have hpos := blt_lt hpos
      intro β w hR hw
      have h1 := hR.all a _ ha rfl
      have h2 := hR.all b _ hb rfl
      have hd := hR.dis a b _ _ ha hb hne rfl rfl rfl
      have s1 := h1.shp _ rfl
      have s2 := h2.shp _ rfl
      have f1 := h1.fz rfl rfl
      obtain ⟨e, hu⟩ : ∃ e, Tryd.prog.underlying 54 = some (.slice e) := ⟨57, by kernel_rfl⟩
      have hz : ∀ w, (Go.sizeOf e).run Tryd.prog w = .ok 3 w := by
        have : e = 57 := by
          have h3 : Tryd.prog.underlying 54 = some (.slice 57) := by kernel_rfl
          rw [h3] at hu; cases hu; rfl
        subst this
        intro w
        have : (Tryd.prog.info? 57).map (·.size) = some 3 := by kernel_rfl
        cases hi : Tryd.prog.info? 57 with
        | none => rw [hi] at this; cases this
        | some i => rw [hi] at this; simp only [Option.map_some, Option.some.injEq] at this; simp [Go.sizeOf, typeInfo, hi, this]
      refine .inl ⟨_, w, ?_, β, M, .b false, Ext.refl _ _ _, hR, ⟨rfl, rfl⟩, h⟩
      rw [run_callFunc_extern Tryd.func70 (by kernel_rfl) (by kernel_rfl) (by kernel_rfl) (e := Extern.SlicesOverlaps.overlaps #[54, 54] #[4]) (by kernel_rfl)]
      show ((Extern.SlicesOverlaps.overlaps #[54, 54] #[4] #[.slice (some ⟨β a, ba + ea * sa, none⟩) la ca, .slice (some ⟨β b, bb + eb * sb, none⟩) lb cb]).run Tryd.prog w).andThen _ = _
      rw [Lib.run_overlaps_apart w 54 4 e hu 3 hz _ _ la ca lb cb hd _ _ _ _ s1 s2 (by
        show pb.length + mb.length * fb.length ≠ 0
        omega) ?_ (f1 _)]
      · rfl
      · exact f1 _
    · exact h.elim
  · exact h.elim
def C62 : CT := noC.add 70 cOv
def E62 : Env := ⟨G, E58.T, C62⟩
theorem e62_ok : EnvOk Tryd.prog E62 := ⟨e58_ok.T, CT.add_ok (noC_ok _ _) ov_ok⟩
def m62 (l : List Nr) (x : Nr) : Mm := [e0, rowE true l, rowE true [x]]
theorem v62 (l : List Nr) (x : Nr) (len cap k : Nat) (K : SV → Mm → Prop) : (vf Tryd.prog E62 noL 62 [.rs 1 0 0 3 len cap, .i (k : Nat), .rs 2 0 0 3 1 1] (m62 l x) K) = (bif ile (↑k : Int) (↑len : Int) && ile (↑len : Int) (↑cap : Int) then bif (↑k : Int) == (↑len : Int) then bif len.ble cap && (l.length.beq cap && ((len + (List.take (1 : Nat) (List.drop (0 : Nat) [x])).length).ble (33554432 : Nat) && true)) then ∀ (cap' : Nat) (rest : List (Rc [Fk.u32, Fk.s, Fk.u64])), len + (List.take (1 : Nat) (List.drop (0 : Nat) [x])).length + rest.length = cap' → K (SV.rs (List.length (m62 l x)) (0 : Nat) (0 : Nat) (3 : Nat) (len + (List.take (1 : Nat) (List.drop (0 : Nat) [x])).length) cap') [e0, { rw := true, c := Cont.gone }, rowE true [x], { rw := true, c := Cont.recs (some (57 : Nat)) [Fk.u32, Fk.s, Fk.u64] [] (List.take len l ++ List.take (1 : Nat) (List.drop (0 : Nat) [x]) ++ rest) }] else False else bif inI ((↑len : Int) + (↑(1 : Nat) : Int)) then bif ilt (↑cap : Int) ((↑len : Int) + (↑(1 : Nat) : Int)) then bif ile (↑k : Int) (↑cap : Int) then bif inI ((↑len : Int) + (↑(1 : Nat) : Int)) then bif inI ((↑len : Int) + (↑(1 : Nat) : Int) - (↑k : Int)) then bif ilt (0 : Int) ((↑len : Int) + (↑(1 : Nat) : Int) - (↑k : Int)) then bif k.ble l.length && ((k + ((↑len : Int) + (↑(1 : Nat) : Int) - (↑k : Int)).toNat).ble (33554432 : Nat) && cap.blt (k + ((↑len : Int) + (↑(1 : Nat) : Int) - (↑k : Int)).toNat)) then ∀ (cap' : Nat) (rest : List (Rc [Fk.u32, Fk.s, Fk.u64])), k + ((↑len : Int) + (↑(1 : Nat) : Int) - (↑k : Int)).toNat + rest.length = cap' → bif ile (↑k : Int) (↑(k + ((↑len : Int) + (↑(1 : Nat) : Int) - (↑k : Int)).toNat) : Int) && ile (↑(k + ((↑len : Int) + (↑(1 : Nat) : Int) - (↑k : Int)).toNat) : Int) (↑cap' : Int) then bif ((bif ilt (↑k : Int) (↑cap' : Int) then k else (0 : Nat)) + (k + ((↑len : Int) + (↑(1 : Nat) : Int) - (↑k : Int)).toNat - k)).ble (List.take k l ++ List.replicate ((↑len : Int) + (↑(1 : Nat) : Int) - (↑k : Int)).toNat (rz [Fk.u32, Fk.s, Fk.u64]) ++ rest).length then bif inI ((↑k : Int) + (↑(1 : Nat) : Int)) then bif ile ((↑k : Int) + (↑(1 : Nat) : Int)) (↑(k + ((↑len : Int) + (↑(1 : Nat) : Int) - (↑k : Int)).toNat) : Int) && ile (↑(k + ((↑len : Int) + (↑(1 : Nat) : Int) - (↑k : Int)).toNat) : Int) (↑cap' : Int) then bif ile (↑k : Int) (↑len : Int) && ile (↑len : Int) (↑cap : Int) then bif ((bif ilt (↑k : Int) (↑cap : Int) then k else (0 : Nat)) + (len - k)).ble l.length && ((bif ilt ((↑k : Int) + (↑(1 : Nat) : Int)) (↑cap' : Int) then ((↑k : Int) + (↑(1 : Nat) : Int)).toNat else (0 : Nat)) + (k + ((↑len : Int) + (↑(1 : Nat) : Int) - (↑k : Int)).toNat - ((↑k : Int) + (↑(1 : Nat) : Int)).toNat)).ble (List.take (bif ilt (↑k : Int) (↑cap' : Int) then k else (0 : Nat)) (List.take k l ++ List.replicate ((↑len : Int) + (↑(1 : Nat) : Int) - (↑k : Int)).toNat (rz [Fk.u32, Fk.s, Fk.u64]) ++ rest) ++ List.take (k + ((↑len : Int) + (↑(1 : Nat) : Int) - (↑k : Int)).toNat - k) (List.take (1 : Nat) (List.drop (0 : Nat) [x])) ++ List.drop ((bif ilt (↑k : Int) (↑cap' : Int) then k else (0 : Nat)) + min (List.take (1 : Nat) (List.drop (0 : Nat) [x])).length (k + ((↑len : Int) + (↑(1 : Nat) : Int) - (↑k : Int)).toNat - k)) (List.take k l ++ List.replicate ((↑len : Int) + (↑(1 : Nat) : Int) - (↑k : Int)).toNat (rz [Fk.u32, Fk.s, Fk.u64]) ++ rest)).length then K (SV.rs (List.length (m62 l x)) (0 : Nat) (0 : Nat) (3 : Nat) (k + ((↑len : Int) + (↑(1 : Nat) : Int) - (↑k : Int)).toNat) cap') [{ rw := false, c := Cont.a8 HD }, { rw := true, c := Cont.recs (some (57 : Nat)) NF [] l }, { rw := true, c := Cont.recs (some (57 : Nat)) NF [] [x] }, { rw := true, c := Cont.recs (some (57 : Nat)) [Fk.u32, Fk.s, Fk.u64] [] (List.take (bif ilt ((↑k : Int) + (↑(1 : Nat) : Int)) (↑cap' : Int) then ((↑k : Int) + (↑(1 : Nat) : Int)).toNat else (0 : Nat)) (List.take (bif ilt (↑k : Int) (↑cap' : Int) then k else (0 : Nat)) (List.take k l ++ List.replicate ((↑len : Int) + (↑(1 : Nat) : Int) - (↑k : Int)).toNat (rz [Fk.u32, Fk.s, Fk.u64]) ++ rest) ++ List.take (k + ((↑len : Int) + (↑(1 : Nat) : Int) - (↑k : Int)).toNat - k) (List.take (1 : Nat) (List.drop (0 : Nat) [x])) ++ List.drop ((bif ilt (↑k : Int) (↑cap' : Int) then k else (0 : Nat)) + min (List.take (1 : Nat) (List.drop (0 : Nat) [x])).length (k + ((↑len : Int) + (↑(1 : Nat) : Int) - (↑k : Int)).toNat - k)) (List.take k l ++ List.replicate ((↑len : Int) + (↑(1 : Nat) : Int) - (↑k : Int)).toNat (rz [Fk.u32, Fk.s, Fk.u64]) ++ rest)) ++ List.take (k + ((↑len : Int) + (↑(1 : Nat) : Int) - (↑k : Int)).toNat - ((↑k : Int) + (↑(1 : Nat) : Int)).toNat) (List.take (len - k) (List.drop (bif ilt (↑k : Int) (↑cap : Int) then k else (0 : Nat)) l)) ++ List.drop ((bif ilt ((↑k : Int) + (↑(1 : Nat) : Int)) (↑cap' : Int) then ((↑k : Int) + (↑(1 : Nat) : Int)).toNat else (0 : Nat)) + min (List.take (len - k) (List.drop (bif ilt (↑k : Int) (↑cap : Int) then k else (0 : Nat)) l)).length (k + ((↑len : Int) + (↑(1 : Nat) : Int) - (↑k : Int)).toNat - ((↑k : Int) + (↑(1 : Nat) : Int)).toNat)) (List.take (bif ilt (↑k : Int) (↑cap' : Int) then k else (0 : Nat)) (List.take k l ++ List.replicate ((↑len : Int) + (↑(1 : Nat) : Int) - (↑k : Int)).toNat (rz [Fk.u32, Fk.s, Fk.u64]) ++ rest) ++ List.take (k + ((↑len : Int) + (↑(1 : Nat) : Int) - (↑k : Int)).toNat - k) (List.take (1 : Nat) (List.drop (0 : Nat) [x])) ++ List.drop ((bif ilt (↑k : Int) (↑cap' : Int) then k else (0 : Nat)) + min (List.take (1 : Nat) (List.drop (0 : Nat) [x])).length (k + ((↑len : Int) + (↑(1 : Nat) : Int) - (↑k : Int)).toNat - k)) (List.take k l ++ List.replicate ((↑len : Int) + (↑(1 : Nat) : Int) - (↑k : Int)).toNat (rz [Fk.u32, Fk.s, Fk.u64]) ++ rest))) }] else False else False else False else False else False else False else False else False else False else False else False else bif inI ((↑len : Int) + (↑(1 : Nat) : Int)) then bif ile ((↑len : Int) + (↑(1 : Nat) : Int)) (↑cap : Int) then bif inI ((↑k : Int) + (↑(1 : Nat) : Int)) then bif ile ((↑k : Int) + (↑(1 : Nat) : Int)) (↑((↑len : Int) + (↑(1 : Nat) : Int)).toNat : Int) && ile (↑((↑len : Int) + (↑(1 : Nat) : Int)).toNat : Int) (↑cap : Int) then bif Nat.blt (0 : Nat) (l.length * (3 : Nat)) then bif inI ((↑k : Int) + (↑(1 : Nat) : Int)) then bif ile ((↑k : Int) + (↑(1 : Nat) : Int)) (↑((↑len : Int) + (↑(1 : Nat) : Int)).toNat : Int) && ile (↑((↑len : Int) + (↑(1 : Nat) : Int)).toNat : Int) (↑cap : Int) then bif ile (↑k : Int) (↑((↑len : Int) + (↑(1 : Nat) : Int)).toNat : Int) && ile (↑((↑len : Int) + (↑(1 : Nat) : Int)).toNat : Int) (↑cap : Int) then bif ((bif ilt (↑k : Int) (↑cap : Int) then k else (0 : Nat)) + (((↑len : Int) + (↑(1 : Nat) : Int)).toNat - k)).ble l.length && ((bif ilt ((↑k : Int) + (↑(1 : Nat) : Int)) (↑cap : Int) then ((↑k : Int) + (↑(1 : Nat) : Int)).toNat else (0 : Nat)) + (((↑len : Int) + (↑(1 : Nat) : Int)).toNat - ((↑k : Int) + (↑(1 : Nat) : Int)).toNat)).ble l.length then bif ile (↑k : Int) (↑((↑len : Int) + (↑(1 : Nat) : Int)).toNat : Int) && ile (↑((↑len : Int) + (↑(1 : Nat) : Int)).toNat : Int) (↑cap : Int) then bif ((bif ilt (↑k : Int) (↑cap : Int) then k else (0 : Nat)) + (((↑len : Int) + (↑(1 : Nat) : Int)).toNat - k)).ble (List.take (bif ilt ((↑k : Int) + (↑(1 : Nat) : Int)) (↑cap : Int) then ((↑k : Int) + (↑(1 : Nat) : Int)).toNat else (0 : Nat)) l ++ List.take (((↑len : Int) + (↑(1 : Nat) : Int)).toNat - ((↑k : Int) + (↑(1 : Nat) : Int)).toNat) (List.take (((↑len : Int) + (↑(1 : Nat) : Int)).toNat - k) (List.drop (bif ilt (↑k : Int) (↑cap : Int) then k else (0 : Nat)) l)) ++ List.drop ((bif ilt ((↑k : Int) + (↑(1 : Nat) : Int)) (↑cap : Int) then ((↑k : Int) + (↑(1 : Nat) : Int)).toNat else (0 : Nat)) + min (List.take (((↑len : Int) + (↑(1 : Nat) : Int)).toNat - k) (List.drop (bif ilt (↑k : Int) (↑cap : Int) then k else (0 : Nat)) l)).length (((↑len : Int) + (↑(1 : Nat) : Int)).toNat - ((↑k : Int) + (↑(1 : Nat) : Int)).toNat)) l).length then K (SV.rs (1 : Nat) (0 : Nat) (0 : Nat) (3 : Nat) ((↑len : Int) + (↑(1 : Nat) : Int)).toNat cap) [{ rw := false, c := Cont.a8 HD }, { rw := true, c := Cont.recs (some (57 : Nat)) NF [] (List.take (bif ilt (↑k : Int) (↑cap : Int) then k else (0 : Nat)) (List.take (bif ilt ((↑k : Int) + (↑(1 : Nat) : Int)) (↑cap : Int) then ((↑k : Int) + (↑(1 : Nat) : Int)).toNat else (0 : Nat)) l ++ List.take (((↑len : Int) + (↑(1 : Nat) : Int)).toNat - ((↑k : Int) + (↑(1 : Nat) : Int)).toNat) (List.take (((↑len : Int) + (↑(1 : Nat) : Int)).toNat - k) (List.drop (bif ilt (↑k : Int) (↑cap : Int) then k else (0 : Nat)) l)) ++ List.drop ((bif ilt ((↑k : Int) + (↑(1 : Nat) : Int)) (↑cap : Int) then ((↑k : Int) + (↑(1 : Nat) : Int)).toNat else (0 : Nat)) + min (List.take (((↑len : Int) + (↑(1 : Nat) : Int)).toNat - k) (List.drop (bif ilt (↑k : Int) (↑cap : Int) then k else (0 : Nat)) l)).length (((↑len : Int) + (↑(1 : Nat) : Int)).toNat - ((↑k : Int) + (↑(1 : Nat) : Int)).toNat)) l) ++ List.take (((↑len : Int) + (↑(1 : Nat) : Int)).toNat - k) (List.take (1 : Nat) (List.drop (0 : Nat) [x])) ++ List.drop ((bif ilt (↑k : Int) (↑cap : Int) then k else (0 : Nat)) + min (List.take (1 : Nat) (List.drop (0 : Nat) [x])).length (((↑len : Int) + (↑(1 : Nat) : Int)).toNat - k)) (List.take (bif ilt ((↑k : Int) + (↑(1 : Nat) : Int)) (↑cap : Int) then ((↑k : Int) + (↑(1 : Nat) : Int)).toNat else (0 : Nat)) l ++ List.take (((↑len : Int) + (↑(1 : Nat) : Int)).toNat - ((↑k : Int) + (↑(1 : Nat) : Int)).toNat) (List.take (((↑len : Int) + (↑(1 : Nat) : Int)).toNat - k) (List.drop (bif ilt (↑k : Int) (↑cap : Int) then k else (0 : Nat)) l)) ++ List.drop ((bif ilt ((↑k : Int) + (↑(1 : Nat) : Int)) (↑cap : Int) then ((↑k : Int) + (↑(1 : Nat) : Int)).toNat else (0 : Nat)) + min (List.take (((↑len : Int) + (↑(1 : Nat) : Int)).toNat - k) (List.drop (bif ilt (↑k : Int) (↑cap : Int) then k else (0 : Nat)) l)).length (((↑len : Int) + (↑(1 : Nat) : Int)).toNat - ((↑k : Int) + (↑(1 : Nat) : Int)).toNat)) l)) }, { rw := true, c := Cont.recs (some (57 : Nat)) NF [] [x] }] else False else False else False else False else False else False else False else False else False else False else False else False else False) := by kernel_rfl
theorem v62z (x : Nr) (K : SV → Mm → Prop) : (vf Tryd.prog E62 noL 62 [.v (.slice none 0 0), .i 0, .rs 1 0 0 3 1 1] [e0, rowE true [x]] K) = (∀ (cap' : Nat) (rest : List (Rc [Fk.u32, Fk.s, Fk.u64])), (List.take (1 : Nat) (List.drop (0 : Nat) [x])).length + rest.length = cap' → K (SV.rs ((0 : Nat) + (1 : Nat) + (1 : Nat)) (0 : Nat) (0 : Nat) (3 : Nat) (List.take (1 : Nat) (List.drop (0 : Nat) [x])).length cap') [e0, rowE true [x], { rw := true, c := Cont.recs (some (57 : Nat)) [Fk.u32, Fk.s, Fk.u64] [] (List.take (1 : Nat) (List.drop (0 : Nat) [x]) ++ rest) }]) := by kernel_rfl
def insL (k : Nat) (x : Nr) (L : List Nr) : List Nr := L.take k ++ [x] ++ L.drop k
theorem insL_len (k : Nat) (x : Nr) (L : List Nr) : (insL k x L).length = L.length + 1 := by
  unfold insL; simp; omega
def goneE : Ent := ⟨true, .gone⟩
theorem lay_mid {α : Type} (A B C m : List α) (k : Nat) (hk : A.length = k) (hm : m.length = B.length) : (A ++ B ++ C).take k ++ m ++ (A ++ B ++ C).drop (k + m.length) = A ++ m ++ C := by
  subst hk
  have e1 : (A ++ B ++ C).take A.length = A := by rw [List.append_assoc, List.take_left']; rfl
  have e2 : (A ++ B ++ C).drop (A.length + m.length) = C := by
    rw [hm, ← List.length_append, List.drop_left']; rfl
  rw [e1, e2]
/-- The row behind: in place, or in another block; what it held before is told no more. -/
def ins62 (l : List Nr) (x : Nr) (len k : Nat) (r : SV) (M : Mm) : Prop := ∃ (cap' : Nat) (l' : List Nr), l'.take (len + 1) = insL k x (l.take len) ∧ l'.length = cap' ∧ r = .rs 3 0 0 3 (len + 1) cap' ∧ M = [e0, goneE, rowE true [x], rowE true l']
theorem take_ins {A R : List Nr} {n : Nat} (h : A.length = n) : (A ++ R).take n = A := by rw [List.take_left' h]
theorem s62a (l : List Nr) (x : Nr) (len cap : Nat) (hl : l.length = cap) (hc : len ≤ cap) (hb : len ≤ 1000) : Spec Tryd.prog G 62 [.rs 1 0 0 3 len cap, .i (len : Nat), .rs 2 0 0 3 1 1] (m62 l x) (ins62 l x len len) := by
  have hlt : (l.take len).length = len := by rw [List.length_take]; omega
  refine vf_ok e62_ok mixed (noL_ok _ _ _ _) (of_eq (v62 l x len cap len _) (bif_of (and_t (ile_of (by omega)) (ile_of (by omega))) ?_))
  have h1 : ((len : Int) == (len : Int)) = true := beq_self_eq_true _
  rw [h1]
  refine bif_of (and_t (ble_of hc) (and_t (by rw [hl]; exact Nat.beq_refl _) (and_t (ble_of (by show len + 1 ≤ 33554432; omega)) rfl))) fun cap' rest hr => ?_
  replace hr : len + 1 + rest.length = cap' := hr
  have e : insL len x (l.take len) = l.take len ++ [x] := by
    unfold insL
    rw [List.take_of_length_le (by omega), List.drop_eq_nil_of_le (by omega), List.append_nil]
  refine ⟨cap', l.take len ++ [x] ++ rest, ?_, ?_, rfl, rfl⟩
  · rw [e]; exact take_ins (by simp; omega)
  · simp; omega
def C62r (l : List Nr) (x : Nr) (len k : Nat) (r : SV) (M : Mm) : Prop := ∃ (cap' : Nat) (rest : List Nr), len + 1 + rest.length = cap' ∧ r = .rs 3 0 0 3 (len + 1) cap' ∧ M = [e0, rowE true l, rowE true [x], rowE true (insL k x (l.take len) ++ rest)]
def C62p (l : List Nr) (x : Nr) (len cap k : Nat) (r : SV) (M : Mm) : Prop := r = .rs 1 0 0 3 (len + 1) cap ∧ M = [e0, rowE true (insL k x (l.take len) ++ l.drop (len + 1)), rowE true [x]]
theorem s62b (l : List Nr) (x : Nr) (len cap k : Nat) (hl : l.length = cap) (hc : len = cap) (hk : k < len) (hb : len ≤ 1000) : Spec Tryd.prog G 62 [.rs 1 0 0 3 len cap, .i (k : Nat), .rs 2 0 0 3 1 1] (m62 l x) (C62r l x len k) := by
  have hlt : (l.take len).length = len := by rw [List.length_take]; omega
  refine vf_ok e62_ok mixed (noL_ok _ _ _ _) (of_eq (v62 l x len cap k _) (bif_of (and_t (ile_of (by omega)) (ile_of (by omega))) ?_))
  have h1 : ((k : Int) == (len : Int)) = false := by rw [beq_eq_false_iff_ne]; omega
  have c1 : ((len : Int) + ((1 : Nat) : Int) - (k : Int)).toNat = len + 1 - k := by omega
  have c2 : ((k : Int) + ((1 : Nat) : Int)).toNat = k + 1 := by omega
  have c4 : k + (len + 1 - k) = len + 1 := by omega
  have c5 : len + 1 - (k + 1) = len - k := by omega
  rw [h1, c1, c2, c4]
  refine bif_of (inI_iff.2 (by omega)) ?_
  rw [ilt_of (show (cap : Int) < (len : Int) + ((1 : Nat) : Int) by omega)]
  refine bif_of (ile_of (by omega)) (bif_of (inI_iff.2 (by omega)) (bif_of (inI_iff.2 (by omega)) (bif_of (ilt_of (by omega)) (bif_of (and_t (ble_of (by omega)) (and_t (ble_of (by omega)) (blt_of (by omega)))) fun cap' rest hr => ?_))))
  have q1 : ilt (k : Int) (cap' : Int) = true := ilt_n (by omega)
  have q2 : ilt (k : Int) (cap : Int) = true := ilt_n (by omega)
  have q3 : ilt ((k : Int) + ((1 : Nat) : Int)) (cap' : Int) = true := ilt_of (by omega)
  rw [q1, q2, q3]
  have hT : (l.take k ++ List.replicate (len + 1 - k) (rz NF) ++ rest).length = cap' := by simp; omega
  refine bif_of (and_t (ile_of (by omega)) (ile_of (by omega))) (bif_of (ble_of (by show k + (len + 1 - k) ≤ _; exact Nat.le_trans (by omega) (Nat.le_of_eq hT.symm))) (bif_of (inI_iff.2 (by omega)) (bif_of (and_t (ile_of (by omega)) (ile_of (by omega))) (bif_of (and_t (ile_of (by omega)) (ile_of (by omega))) ?_))))
  have hx : List.take (len + 1 - k) (List.take 1 (List.drop 0 [x])) = [x] := by
    show List.take (len + 1 - k) [x] = [x]
    exact List.take_of_length_le (by show 1 ≤ len + 1 - k; omega)
  have hU : List.take k (l.take k ++ List.replicate (len + 1 - k) (rz NF) ++ rest) ++ [x] ++ List.drop (k + min (List.take 1 (List.drop 0 [x])).length (len + 1 - k)) (l.take k ++ List.replicate (len + 1 - k) (rz NF) ++ rest) = l.take k ++ [x] ++ (List.replicate (len - k) (rz NF) ++ rest) := by
    have e : min (List.take 1 (List.drop 0 [x])).length (len + 1 - k) = [x].length := by show min 1 (len + 1 - k) = 1; omega
    have e2 : l.take k ++ List.replicate (len + 1 - k) (rz NF) ++ rest = l.take k ++ [rz NF] ++ (List.replicate (len - k) (rz NF) ++ rest) := by
      rw [show len + 1 - k = (len - k) + 1 by omega, List.replicate_succ]; simp
    rw [e, e2]
    exact lay_mid _ _ _ _ k (by rw [List.length_take]; omega) rfl
  have hV : ∀ (U : List Nr), U = l.take k ++ [x] ++ (List.replicate (len - k) (rz NF) ++ rest) → List.take (k + 1) U ++ List.take (len + 1 - (k + 1)) (List.take (len - k) (List.drop k l)) ++ List.drop (k + 1 + min (List.take (len - k) (List.drop k l)).length (len + 1 - (k + 1))) U = insL k x (l.take len) ++ rest := fun U hU => by
    have e0 : (List.take (len - k) (List.drop k l)).length = len - k := by rw [List.length_take, List.length_drop]; omega
    have e : List.take (len + 1 - (k + 1)) (List.take (len - k) (List.drop k l)) = (l.take len).drop k := by
      rw [List.take_take, c5, Nat.min_self, List.drop_take]
    have e3 : ((l.take len).drop k).length = len - k := by rw [List.length_drop]; omega
    rw [hU, e, e0, c5, Nat.min_self]
    have e4 : l.take k ++ [x] ++ (List.replicate (len - k) (rz NF) ++ rest) = (l.take k ++ [x]) ++ List.replicate (len - k) (rz NF) ++ rest := by simp
    have e5 : insL k x (l.take len) = (l.take k ++ [x]) ++ (l.take len).drop k := by unfold insL; rw [List.take_take, Nat.min_eq_left (by omega)]
    rw [e4, e5]
    have := lay_mid (l.take k ++ [x]) (List.replicate (len - k) (rz NF)) rest ((l.take len).drop k) (k + 1) (by simp; omega) (by rw [e3, List.length_replicate])
    rwa [e3] at this
  refine bif_of (and_t (ble_of (by show k + (len - k) ≤ l.length; omega)) (ble_of ?_)) ?_
  · show k + 1 + (len + 1 - (k + 1)) ≤ (List.take k (l.take k ++ List.replicate (len + 1 - k) (rz NF) ++ rest) ++ List.take (len + 1 - k) (List.take 1 (List.drop 0 [x])) ++ List.drop (k + min (List.take 1 (List.drop 0 [x])).length (len + 1 - k)) (l.take k ++ List.replicate (len + 1 - k) (rz NF) ++ rest)).length
    rw [hx, hU]; simp; omega
  · refine ⟨cap', rest, hr, rfl, ?_⟩
    have := hV _ hU
    show ([e0, rowE true l, rowE true [x], rowE true (List.take (k + 1) (List.take k (l.take k ++ List.replicate (len + 1 - k) (rz NF) ++ rest) ++ List.take (len + 1 - k) (List.take 1 (List.drop 0 [x])) ++ List.drop (k + min (List.take 1 (List.drop 0 [x])).length (len + 1 - k)) (l.take k ++ List.replicate (len + 1 - k) (rz NF) ++ rest)) ++ List.take (len + 1 - (k + 1)) (List.take (len - k) (List.drop k l)) ++ List.drop (k + 1 + min (List.take (len - k) (List.drop k l)).length (len + 1 - (k + 1))) (List.take k (l.take k ++ List.replicate (len + 1 - k) (rz NF) ++ rest) ++ List.take (len + 1 - k) (List.take 1 (List.drop 0 [x])) ++ List.drop (k + min (List.take 1 (List.drop 0 [x])).length (len + 1 - k)) (l.take k ++ List.replicate (len + 1 - k) (rz NF) ++ rest)))] : Mm) = _
    rw [hx, this]
end Go.Proofs.YtedcileokcbohaaDoor
