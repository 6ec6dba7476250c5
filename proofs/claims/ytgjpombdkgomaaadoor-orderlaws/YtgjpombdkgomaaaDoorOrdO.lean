/-
  The region of OrderLaws that makes a number anew out of its bytes. No statement is proved here.
-/
import Derived.Test.YtgjpombdkgomaaaDoorOrdM
import Derived.Test.YtgjpombdkgomaaaDoorInv
namespace Go.Proofs.YtgjpombdkgomaaaDoor
open Go.RowKit Go.Lib Go.BigFrame
set_option linter.unusedVariables false
set_option linter.unusedSimpArgs false
set_option maxRecDepth 1000000
set_option maxHeartbeats 8000000

/-- What stands while the region goes on: f tells what has been done. -/
structure WJ (B : World) (ab a0 a1 a2 a3 : Nat) (S T : ByteArray) (zs : List Nat) (f : Nat → Bool) (w : World) (x16 x17 x132 x133 x134 x135 x136 x137 x138 x139 x140 : Value) : Prop where
  fr : Fr [] B w
  own : L4 w ab 27 (.int .u64 (a0 : Nat)) (.int .u64 (a1 : Nat)) (.int .u64 (a2 : Nat)) (.int .u64 (a3 : Nat))
  k0 : f 0 = true → x133 = .agg #[.int .u64 (a0 : Nat), .int .u64 (a1 : Nat), .int .u64 (a2 : Nat), .int .u64 (a3 : Nat)]
  k1 : f 1 = true → x134 = .string S
  k2 : f 2 = true → f 3 = false → ∃ b, x135 = .slice (some ⟨b, 0, none⟩) 32 32 ∧ RB w b 5 zs
  k3 : f 3 = true → x136 = .string T
  k4 : f 4 = true → x137 = .string (S ++ T)
  k5 : f 5 = true → x138 = .tuple #[.agg #[.int .u64 (a0 : Nat), .int .u64 (a1 : Nat), .int .u64 (a2 : Nat), .int .u64 (a3 : Nat)], .int .i64 0]
  k6 : f 6 = true → x132 = .tuple #[.agg #[.int .u64 (a0 : Nat), .int .u64 (a1 : Nat), .int .u64 (a2 : Nat), .int .u64 (a3 : Nat)], .int .i64 0]
  k7 : f 7 = true → x139 = .agg #[.int .u64 (a0 : Nat), .int .u64 (a1 : Nat), .int .u64 (a2 : Nat), .int .u64 (a3 : Nat)]
  k8 : f 8 = true → x140 = .int .i64 0
  k9 : f 9 = true → ∃ b, x16 = .pointer (some ⟨b, 0, none⟩) ∧ B.heap.size ≤ b ∧ (f 10 = true → L4 w b 27 (.int .u64 (a0 : Nat)) (.int .u64 (a1 : Nat)) (.int .u64 (a2 : Nat)) (.int .u64 (a3 : Nat))) ∧ (f 10 = false → L4 w b 27 (.int .u64 0) (.int .u64 0) (.int .u64 0) (.int .u64 0))
  k11 : f 11 = true → x17 = .int .i64 0
  kc : f 10 = true → f 9 = true
theorem WJ.start {B w : World} {ab a0 a1 a2 a3 : Nat} {S T : ByteArray} {zs : List Nat} {x16 x17 x132 x133 x134 x135 x136 x137 x138 x139 x140 : Value} (hF : Fr [] B w) (hl : L4 w ab 27 (.int .u64 (a0 : Nat)) (.int .u64 (a1 : Nat)) (.int .u64 (a2 : Nat)) (.int .u64 (a3 : Nat))) : WJ B ab a0 a1 a2 a3 S T zs (fun _ => false) w x16 x17 x132 x133 x134 x135 x136 x137 x138 x139 x140 :=
  ⟨hF, hl, fun h => absurd h (by decide), fun h => absurd h (by decide), fun h => absurd h (by decide), fun h => absurd h (by decide), fun h => absurd h (by decide), fun h => absurd h (by decide), fun h => absurd h (by decide), fun h => absurd h (by decide), fun h => absurd h (by decide), fun h => absurd h (by decide), fun h => absurd h (by decide), fun h => absurd h (by decide)⟩
/-- The same with the frame of slots. -/
def WI (B : World) (ab a0 a1 a2 a3 : Nat) (S T : ByteArray) (zs : List Nat) (c0 c1 c2 c3 c4 c5 c6 c8 c9 c10 c11 c12 c13 c14 c15 c18 c19 c20 c21 c22 c23 c24 c25 c26 c27 c28 c29 c30 c31 c32 c33 c34 c35 c36 c37 c38 c39 c40 c41 c42 c43 c44 c45 c46 c47 c48 c49 c50 c51 c52 c53 c54 c55 c56 c57 c58 c59 c60 c61 c62 c63 c64 c65 c66 c67 c68 c69 c70 c71 c72 c73 c74 c75 c76 c77 c78 c79 c80 c81 c82 c83 c84 c85 c86 c87 c88 c89 c90 c91 c92 c93 c94 c95 c96 c97 c98 c99 c100 c101 c102 c103 c104 c105 c106 c107 c108 c109 c110 c111 c112 c113 c114 c115 c116 c117 c118 c119 c120 c121 c122 c123 c124 c125 c126 c127 c128 c129 c130 c131 c141 c142 c143 c144 c145 c146 c147 c148 c149 c150 : Value) (f : Nat → Bool) (a : Act) (w : World) : Prop :=
  ∃ x16 x17 x132 x133 x134 x135 x136 x137 x138 x139 x140 : Value, a = ⟨(c0 :: c1 :: c2 :: c3 :: c4 :: c5 :: c6 :: (.pointer (some ⟨ab, 0, none⟩)) :: c8 :: c9 :: c10 :: c11 :: c12 :: c13 :: c14 :: c15 :: x16 :: x17 :: c18 :: c19 :: c20 :: c21 :: c22 :: c23 :: c24 :: c25 :: c26 :: c27 :: c28 :: c29 :: c30 :: c31 :: c32 :: c33 :: c34 :: c35 :: c36 :: c37 :: c38 :: c39 :: c40 :: c41 :: c42 :: c43 :: c44 :: c45 :: c46 :: c47 :: c48 :: c49 :: c50 :: c51 :: c52 :: c53 :: c54 :: c55 :: c56 :: c57 :: c58 :: c59 :: c60 :: c61 :: c62 :: c63 :: c64 :: c65 :: c66 :: c67 :: c68 :: c69 :: c70 :: c71 :: c72 :: c73 :: c74 :: c75 :: c76 :: c77 :: c78 :: c79 :: c80 :: c81 :: c82 :: c83 :: c84 :: c85 :: c86 :: c87 :: c88 :: c89 :: c90 :: c91 :: c92 :: c93 :: c94 :: c95 :: c96 :: c97 :: c98 :: c99 :: c100 :: c101 :: c102 :: c103 :: c104 :: c105 :: c106 :: c107 :: c108 :: c109 :: c110 :: c111 :: c112 :: c113 :: c114 :: c115 :: c116 :: c117 :: c118 :: c119 :: c120 :: c121 :: c122 :: c123 :: c124 :: c125 :: c126 :: c127 :: c128 :: c129 :: c130 :: c131 :: x132 :: x133 :: x134 :: x135 :: x136 :: x137 :: x138 :: x139 :: x140 :: c141 :: c142 :: c143 :: c144 :: c145 :: c146 :: c147 :: c148 :: c149 :: c150 :: []).toArray, []⟩ ∧ Hid (WJ B ab a0 a1 a2 a3 S T zs f w x16 x17 x132 x133 x134 x135 x136 x137 x138 x139 x140)
theorem wp_region_WI {B : World} {ab a0 a1 a2 a3 : Nat} {S T : ByteArray} {zs : List Nat} {c0 c1 c2 c3 c4 c5 c6 c8 c9 c10 c11 c12 c13 c14 c15 c18 c19 c20 c21 c22 c23 c24 c25 c26 c27 c28 c29 c30 c31 c32 c33 c34 c35 c36 c37 c38 c39 c40 c41 c42 c43 c44 c45 c46 c47 c48 c49 c50 c51 c52 c53 c54 c55 c56 c57 c58 c59 c60 c61 c62 c63 c64 c65 c66 c67 c68 c69 c70 c71 c72 c73 c74 c75 c76 c77 c78 c79 c80 c81 c82 c83 c84 c85 c86 c87 c88 c89 c90 c91 c92 c93 c94 c95 c96 c97 c98 c99 c100 c101 c102 c103 c104 c105 c106 c107 c108 c109 c110 c111 c112 c113 c114 c115 c116 c117 c118 c119 c120 c121 c122 c123 c124 c125 c126 c127 c128 c129 c130 c131 c141 c142 c143 c144 c145 c146 c147 c148 c149 c150 : Value} {id : Nat} {Q : Exit → Act → World → Prop} {a : Act} {w : World} (l : List Oper) (o : Oper) (hlow : lowB (l ++ [o]) = true)
    (h0 : WI B ab a0 a1 a2 a3 S T zs c0 c1 c2 c3 c4 c5 c6 c8 c9 c10 c11 c12 c13 c14 c15 c18 c19 c20 c21 c22 c23 c24 c25 c26 c27 c28 c29 c30 c31 c32 c33 c34 c35 c36 c37 c38 c39 c40 c41 c42 c43 c44 c45 c46 c47 c48 c49 c50 c51 c52 c53 c54 c55 c56 c57 c58 c59 c60 c61 c62 c63 c64 c65 c66 c67 c68 c69 c70 c71 c72 c73 c74 c75 c76 c77 c78 c79 c80 c81 c82 c83 c84 c85 c86 c87 c88 c89 c90 c91 c92 c93 c94 c95 c96 c97 c98 c99 c100 c101 c102 c103 c104 c105 c106 c107 c108 c109 c110 c111 c112 c113 c114 c115 c116 c117 c118 c119 c120 c121 c122 c123 c124 c125 c126 c127 c128 c129 c130 c131 c141 c142 c143 c144 c145 c146 c147 c148 c149 c150 (fun _ => false) a { w with drawn := w.drawn + 1 })
    (hs : ∀ (f : Nat → Bool) (a : Act) (w : World) (i : Nat) (x : Oper), WI B ab a0 a1 a2 a3 S T zs c0 c1 c2 c3 c4 c5 c6 c8 c9 c10 c11 c12 c13 c14 c15 c18 c19 c20 c21 c22 c23 c24 c25 c26 c27 c28 c29 c30 c31 c32 c33 c34 c35 c36 c37 c38 c39 c40 c41 c42 c43 c44 c45 c46 c47 c48 c49 c50 c51 c52 c53 c54 c55 c56 c57 c58 c59 c60 c61 c62 c63 c64 c65 c66 c67 c68 c69 c70 c71 c72 c73 c74 c75 c76 c77 c78 c79 c80 c81 c82 c83 c84 c85 c86 c87 c88 c89 c90 c91 c92 c93 c94 c95 c96 c97 c98 c99 c100 c101 c102 c103 c104 c105 c106 c107 c108 c109 c110 c111 c112 c113 c114 c115 c116 c117 c118 c119 c120 c121 c122 c123 c124 c125 c126 c127 c128 c129 c130 c131 c141 c142 c143 c144 c145 c146 c147 c148 c149 c150 f a w → f i = false → (l ++ [o])[i]? = some x → (∀ e ∈ x.after, Region.binds .any e = true → f e.on = true) → x.guard = none ∧ x.wp Tryd.prog a w (fun a' w' => WI B ab a0 a1 a2 a3 S T zs c0 c1 c2 c3 c4 c5 c6 c8 c9 c10 c11 c12 c13 c14 c15 c18 c19 c20 c21 c22 c23 c24 c25 c26 c27 c28 c29 c30 c31 c32 c33 c34 c35 c36 c37 c38 c39 c40 c41 c42 c43 c44 c45 c46 c47 c48 c49 c50 c51 c52 c53 c54 c55 c56 c57 c58 c59 c60 c61 c62 c63 c64 c65 c66 c67 c68 c69 c70 c71 c72 c73 c74 c75 c76 c77 c78 c79 c80 c81 c82 c83 c84 c85 c86 c87 c88 c89 c90 c91 c92 c93 c94 c95 c96 c97 c98 c99 c100 c101 c102 c103 c104 c105 c106 c107 c108 c109 c110 c111 c112 c113 c114 c115 c116 c117 c118 c119 c120 c121 c122 c123 c124 c125 c126 c127 c128 c129 c130 c131 c141 c142 c143 c144 c145 c146 c147 c148 c149 c150 (upd f i) a' w') Q)
    (he : ∀ (f : Nat → Bool) (a : Act) (w : World), WI B ab a0 a1 a2 a3 S T zs c0 c1 c2 c3 c4 c5 c6 c8 c9 c10 c11 c12 c13 c14 c15 c18 c19 c20 c21 c22 c23 c24 c25 c26 c27 c28 c29 c30 c31 c32 c33 c34 c35 c36 c37 c38 c39 c40 c41 c42 c43 c44 c45 c46 c47 c48 c49 c50 c51 c52 c53 c54 c55 c56 c57 c58 c59 c60 c61 c62 c63 c64 c65 c66 c67 c68 c69 c70 c71 c72 c73 c74 c75 c76 c77 c78 c79 c80 c81 c82 c83 c84 c85 c86 c87 c88 c89 c90 c91 c92 c93 c94 c95 c96 c97 c98 c99 c100 c101 c102 c103 c104 c105 c106 c107 c108 c109 c110 c111 c112 c113 c114 c115 c116 c117 c118 c119 c120 c121 c122 c123 c124 c125 c126 c127 c128 c129 c130 c131 c141 c142 c143 c144 c145 c146 c147 c148 c149 c150 f a w → (∀ i, i < l.length + 1 → f i = true) → Q .normal a w) : (Code.region id (l ++ [o]).toArray true).wp Tryd.prog Q a w :=
  wp_region_inv l o (by kernel_rfl) hlow _ h0 hs he
section
variable {B : World} {ab a0 a1 a2 a3 : Nat} {S T : ByteArray} {zs : List Nat} {f : Nat → Bool} {w w' : World} {x16 x17 x132 x133 x134 x135 x136 x137 x138 x139 x140 : Value}
/-- A step that writes the slot of operation i, which was not done, in a world with blocks more. -/
theorem WJ.step (h : WJ B ab a0 a1 a2 a3 S T zs f w x16 x17 x132 x133 x134 x135 x136 x137 x138 x139 x140) (hF : Fr [] w w') (i : Nat) (hi : f i = false) (h9 : i ≠ 9) (h10 : i ≠ 10)
    {y17 y132 y133 y134 y135 y136 y137 y138 y139 y140 : Value}
    (e0 : y133 = if i = 0 then .agg #[.int .u64 (a0 : Nat), .int .u64 (a1 : Nat), .int .u64 (a2 : Nat), .int .u64 (a3 : Nat)] else x133) (e1 : y134 = if i = 1 then .string S else x134) (e2 : if i = 2 then (∃ b, y135 = .slice (some ⟨b, 0, none⟩) 32 32 ∧ RB w' b 5 zs) else y135 = x135) (e3 : y136 = if i = 3 then .string T else x136) (e4 : y137 = if i = 4 then .string (S ++ T) else x137)
    (e5 : y138 = if i = 5 then .tuple #[.agg #[.int .u64 (a0 : Nat), .int .u64 (a1 : Nat), .int .u64 (a2 : Nat), .int .u64 (a3 : Nat)], .int .i64 0] else x138) (e6 : y132 = if i = 6 then .tuple #[.agg #[.int .u64 (a0 : Nat), .int .u64 (a1 : Nat), .int .u64 (a2 : Nat), .int .u64 (a3 : Nat)], .int .i64 0] else x132) (e7 : y139 = if i = 7 then .agg #[.int .u64 (a0 : Nat), .int .u64 (a1 : Nat), .int .u64 (a2 : Nat), .int .u64 (a3 : Nat)] else x139) (e8 : y140 = if i = 8 then .int .i64 0 else x140) (e11 : y17 = if i = 11 then .int .i64 0 else x17) :
    WJ B ab a0 a1 a2 a3 S T zs (upd f i) w' x16 y17 y132 y133 y134 y135 y136 y137 y138 y139 y140 := by
  unfold upd
  refine ⟨h.fr.trans0 hF, h.own.fr hF, ?_, ?_, ?_, ?_, ?_, ?_, ?_, ?_, ?_, ?_, ?_, by rw [if_neg (Ne.symm h9), if_neg (Ne.symm h10)]; exact h.kc⟩
  · by_cases c : i = 0
    · subst c; rw [if_pos rfl] at e0; exact fun _ => e0
    · rw [if_neg c] at e0; rw [if_neg (Ne.symm c), e0]; exact h.k0
  · by_cases c : i = 1
    · subst c; rw [if_pos rfl] at e1; exact fun _ => e1
    · rw [if_neg c] at e1; rw [if_neg (Ne.symm c), e1]; exact h.k1
  · by_cases c : i = 2
    · subst c; rw [if_pos rfl] at e2; exact fun _ _ => e2
    · rw [if_neg c] at e2
      rw [if_neg (Ne.symm c), e2]
      intro h1 h2
      by_cases c3 : i = 3
      · subst c3; rw [if_pos rfl] at h2; cases h2
      · rw [if_neg (Ne.symm c3)] at h2
        obtain ⟨b, h3, h4⟩ := h.k2 h1 h2
        exact ⟨b, h3, h4.fr hF⟩
  · by_cases c : i = 3
    · subst c; rw [if_pos rfl] at e3; exact fun _ => e3
    · rw [if_neg c] at e3; rw [if_neg (Ne.symm c), e3]; exact h.k3
  · by_cases c : i = 4
    · subst c; rw [if_pos rfl] at e4; exact fun _ => e4
    · rw [if_neg c] at e4; rw [if_neg (Ne.symm c), e4]; exact h.k4
  · by_cases c : i = 5
    · subst c; rw [if_pos rfl] at e5; exact fun _ => e5
    · rw [if_neg c] at e5; rw [if_neg (Ne.symm c), e5]; exact h.k5
  · by_cases c : i = 6
    · subst c; rw [if_pos rfl] at e6; exact fun _ => e6
    · rw [if_neg c] at e6; rw [if_neg (Ne.symm c), e6]; exact h.k6
  · by_cases c : i = 7
    · subst c; rw [if_pos rfl] at e7; exact fun _ => e7
    · rw [if_neg c] at e7; rw [if_neg (Ne.symm c), e7]; exact h.k7
  · by_cases c : i = 8
    · subst c; rw [if_pos rfl] at e8; exact fun _ => e8
    · rw [if_neg c] at e8; rw [if_neg (Ne.symm c), e8]; exact h.k8
  · rw [if_neg (Ne.symm h9), if_neg (Ne.symm h10)]
    intro h1
    obtain ⟨b, h3, h4, h5, h6⟩ := h.k9 h1
    exact ⟨b, h3, h4, fun q => (h5 q).fr hF, fun q => (h6 q).fr hF⟩
  · by_cases c : i = 11
    · subst c; rw [if_pos rfl] at e11; exact fun _ => e11
    · rw [if_neg c] at e11; rw [if_neg (Ne.symm c), e11]; exact h.k11
theorem WJ.made (h : WJ B ab a0 a1 a2 a3 S T zs f w x16 x17 x132 x133 x134 x135 x136 x137 x138 x139 x140) (hF : Fr [] w w') (h9 : f 9 = false) {b : Nat} (hb : B.heap.size ≤ b) (hl : L4 w' b 27 (.int .u64 0) (.int .u64 0) (.int .u64 0) (.int .u64 0)) :
    WJ B ab a0 a1 a2 a3 S T zs (upd f 9) w' (.pointer (some ⟨b, 0, none⟩)) x17 x132 x133 x134 x135 x136 x137 x138 x139 x140 :=
  ⟨h.fr.trans0 hF, h.own.fr hF, h.k0, h.k1, fun h1 h2 => by obtain ⟨b, h3, h4⟩ := h.k2 h1 h2; exact ⟨b, h3, h4.fr hF⟩, h.k3, h.k4, h.k5, h.k6, h.k7, h.k8, fun _ => ⟨b, rfl, hb, fun q => (by have := h.kc (by simpa [upd] using q); rw [h9] at this; cases this), fun _ => hl⟩, h.k11, fun _ => rfl⟩
theorem WJ.put (h : WJ B ab a0 a1 a2 a3 S T zs f w x16 x17 x132 x133 x134 x135 x136 x137 x138 x139 x140) (h3 : f 3 = true) (h9 : f 9 = true) {b : Nat} (e : x16 = .pointer (some ⟨b, 0, none⟩)) (hb : B.heap.size ≤ b) (hab : ab < B.heap.size) (hl : L4 w b 27 (.int .u64 0) (.int .u64 0) (.int .u64 0) (.int .u64 0)) :
    WJ B ab a0 a1 a2 a3 S T zs (upd f 10) ((((w.setCell ⟨b, 0, none⟩ (.int .u64 (a0 : Nat))).setCell ⟨b, 1, none⟩ (.int .u64 (a1 : Nat))).setCell ⟨b, 2, none⟩ (.int .u64 (a2 : Nat))).setCell ⟨b, 3, none⟩ (.int .u64 (a3 : Nat))) x16 x17 x132 x133 x134 x135 x136 x137 x138 x139 x140 :=
  ⟨h.fr.set4 hb _ _ _ _, h.own.other (by omega) _ _ _ _, h.k0, h.k1, fun _ h2 => by simp [upd, h3] at h2, h.k3, h.k4, h.k5, h.k6, h.k7, h.k8, fun _ => ⟨b, e, hb, fun _ => hl.set4 _ _ _ _, fun q => by simp [upd] at q⟩, h.k11, fun _ => h9⟩
end
end Go.Proofs.YtgjpombdkgomaaaDoor

