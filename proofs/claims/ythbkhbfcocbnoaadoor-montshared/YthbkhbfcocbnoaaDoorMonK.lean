/-
  The law's secret and alive. No statement is proved here.
-/
import Derived.Test.YthbkhbfcocbnoaaDoorMonJ
import Derived.Deep.RegionHeld3
namespace Go.Proofs.YthbkhbfcocbnoaaDoor
open Go.RowKit Go.Lib Go.BigFrame
set_option linter.unusedVariables false
set_option linter.unusedSimpArgs false
set_option maxRecDepth 1000000
set_option maxHeartbeats 4000000

/-- The text of a list of bytes. -/
def sof (l : List Nat) : ByteArray := (l.map fun x => ((x : Nat) : Int)).foldl (fun r n => r.push (UInt8.ofNat n.toNat)) ByteArray.empty
theorem conv_l {V : World} {b t : Nat} {l : List Nat} (h : RB V b t l) (n cap : Nat) (hn : l.length = n) : (convert 32 9 (.slice (some ⟨b, 0, none⟩) n cap)).run Tryd.prog V = .ok (.string (sof l)) V := by
  subst hn
  rw [run_convert_bytes_string V 32 9 5 _ _ _ (by kernel_rfl) (by kernel_rfl) (by kernel_rfl)]
  refine run_bytesToString V _ _ cap (l.map fun x => ((x : Nat) : Int)) ?_
  have hl : ((l.map fun x => ((x : Nat) : Int)).map (Value.int .u8)).length = l.length := by simp
  have := run_loadCells_list (P := Tryd.prog) (w := V) ⟨b, 0, none⟩ ((l.map fun x => ((x : Nat) : Int)).map (Value.int .u8)) (fun j u hu => by
    have hj : j < l.length := by
      rcases Nat.lt_or_ge j l.length with h | h
      · exact h
      · rw [List.getElem?_eq_none (by omega)] at hu; cases hu
    have hadd : (⟨b, 0, none⟩ : Addr).add j = ⟨b, j, none⟩ := by unfold Addr.add; split <;> simp_all
    rw [hadd, h.cell j hj, ← hu]
    simp [hj])
  rw [hl] at this
  exact this
def z31 : ByteArray := sof (List.replicate 31 0)
theorem made31 : madeCells #[.int .u8 0] 31 = bc (List.replicate 31 0) := by kernel_rfl
theorem make31 (w : World) : (Instr.makeSlice 32 (.int .i64 31) (.int .i64 31)).run Tryd.prog w = .ok (.slice (some ⟨w.heap.size, 0, none⟩) 31 31) (w.alloc (.cells (bc (List.replicate 31 0)) 5)) := by
  obtain ⟨i, hi, hz, hs, hb⟩ := info5
  have := run_make (P := Tryd.prog) w 32 5 i (.int .u8 0) (by kernel_rfl) hi hz .i64 .i64 31 31 (by omega) (by omega) (by rw [hb]; omega) (by omega)
  rw [← made31]
  simpa [hs, Value.cells] using this
theorem cvz (V : World) : (convert 32 9 (.slice (some ⟨V.heap.size, 0, none⟩) 31 31)).run Tryd.prog (V.alloc (.cells (bc (List.replicate 31 0)) 5)).drew = .ok (.string z31) (V.alloc (.cells (bc (List.replicate 31 0)) 5)).drew :=
  conv_l (RB.fr (show RB _ V.heap.size 5 (List.replicate 31 0) from (MapKept.heap_alloc V _).1) ((Fr.refl [] _).drew)) 31 31 (by simp)
theorem cvz1 (V : World) (o : Obj) : (convert 32 9 (.slice (some ⟨V.heap.size, 0, none⟩) 31 31)).run Tryd.prog ((V.alloc (.cells (bc (List.replicate 31 0)) 5)).alloc o).drew = .ok (.string z31) ((V.alloc (.cells (bc (List.replicate 31 0)) 5)).alloc o).drew :=
  conv_l (RB.fr (RB.alloc (show RB _ V.heap.size 5 (List.replicate 31 0) from (MapKept.heap_alloc V _).1) o) ((Fr.refl [] _).drew)) 31 31 (by simp)
theorem cvz2 (V : World) (o : Obj) : (convert 32 9 (.slice (some ⟨V.heap.size + 1, 0, none⟩) 31 31)).run Tryd.prog ((V.alloc o).alloc (.cells (bc (List.replicate 31 0)) 5)).drew = .ok (.string z31) ((V.alloc o).alloc (.cells (bc (List.replicate 31 0)) 5)).drew :=
  conv_l (RB.fr (show RB _ (V.heap.size + 1) 5 (List.replicate 31 0) from heap_new1 V _ _) ((Fr.refl [] _).drew)) 31 31 (by simp)
theorem cvc (V : World) (c : Nat) : (convert 32 9 (.slice (some ⟨V.heap.size, 0, none⟩) 1 1)).run Tryd.prog (V.alloc (.cells #[.int .u8 (c : Nat)] 5)).drew = .ok (.string (sof [c])) (V.alloc (.cells #[.int .u8 (c : Nat)] 5)).drew :=
  conv_l (RB.fr (show RB _ V.heap.size 5 [c] from (MapKept.heap_alloc V _).1) ((Fr.refl [] _).drew)) 1 1 (by simp)
theorem cvc1 (V : World) (c : Nat) (o : Obj) : (convert 32 9 (.slice (some ⟨V.heap.size, 0, none⟩) 1 1)).run Tryd.prog ((V.alloc (.cells #[.int .u8 (c : Nat)] 5)).alloc o).drew = .ok (.string (sof [c])) ((V.alloc (.cells #[.int .u8 (c : Nat)] 5)).alloc o).drew :=
  conv_l (RB.fr (RB.alloc (show RB _ V.heap.size 5 [c] from (MapKept.heap_alloc V _).1) o) ((Fr.refl [] _).drew)) 1 1 (by simp)
theorem cvc2 (V : World) (c : Nat) (o : Obj) : (convert 32 9 (.slice (some ⟨V.heap.size + 1, 0, none⟩) 1 1)).run Tryd.prog ((V.alloc o).alloc (.cells #[.int .u8 (c : Nat)] 5)).drew = .ok (.string (sof [c])) ((V.alloc o).alloc (.cells #[.int .u8 (c : Nat)] 5)).drew :=
  conv_l (RB.fr (show RB _ (V.heap.size + 1) 5 [c] from heap_new1 V _ _) ((Fr.refl [] _).drew)) 1 1 (by simp)
/-- The secret that a byte names. -/
def sc (c : Nat) : ByteArray := z31 ++ sof [c]
theorem secret_any (c : Nat) (w : World) : Calls Tryd.prog 13 #[.int .u8 (c : Nat)] w fun e w' => e = .returned (.string (sc c)) ∧ Fr [] w w' := by
  have h1 := make31
  have h2 := cvz
  have h3 := cvz1
  have h4 := cvz2
  have h5 := fun V => cvc V c
  have h6 := fun V o => cvc1 V c o
  have h7 := fun V o => cvc2 V c o
  have hs1 : z31.size = 31 := by decide +kernel
  have hs2 : (sof [c]).size = 1 := rfl
  unfold sc
  generalize sof [c] = t at *
  generalize z31 = z at *
  generalize bc (List.replicate 31 0) = zb at *
  have F0 := (Fr.refl [] w)
  go_enter Tryd.func13, Tryd.ntmps13
  go_wp2_with fail
  go_region_with (fail)
  all_goals go_wp2_with fail
  all_goals go_ret
  all_goals first | exact ⟨rfl, ((F0.alloc _).alloc _).drew⟩ | exact ⟨rfl, (F0.drew.alloc _).alloc _⟩
theorem secret_97 (w : World) : Calls Tryd.prog 13 #[.int .u8 97] w fun e w' => e = .returned (.string (sc 97)) ∧ Fr [] w w' := secret_any 97 w
theorem secret_98 (w : World) : Calls Tryd.prog 13 #[.int .u8 98] w fun e w' => e = .returned (.string (sc 98)) ∧ Fr [] w w' := secret_any 98 w
theorem secret_0 (w : World) : Calls Tryd.prog 13 #[.int .u8 0] w fun e w' => e = .returned (.string (sc 0)) ∧ Fr [] w w' := secret_any 0 w
end Go.Proofs.YthbkhbfcocbnoaaDoor
