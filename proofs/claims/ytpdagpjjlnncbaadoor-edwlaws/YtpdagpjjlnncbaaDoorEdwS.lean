/-
  Texts of noughts. No statement is proved here.
-/
import Derived.Test.YtpdagpjjlnncbaaDoorEdwR
namespace Go.Proofs.YtpdagpjjlnncbaaDoor
open Go.RowKit Go.Lib Go.BigFrame
set_option linter.unusedVariables false
set_option linter.unusedSimpArgs false
set_option maxRecDepth 1000000
set_option maxHeartbeats 1000000

def zb (n : Nat) : Array Value := (List.replicate n (Value.int .u8 0)).toArray
def zi (n : Nat) : List Int := List.replicate n 0
def zs (n : Nat) : ByteArray := (zi n).foldl (fun r x => r.push (UInt8.ofNat x.toNat)) ByteArray.empty
section
variable {Z : World → Prop} {w V : World} {M : Mem} {ops : Array Oper} {rest T : List Oper} {o : Oper} {a : Act} {Q : Exit → Act → World → Prop}
theorem wl_make (S : St Z w V M) (n : Nat) (hw : Region.wanted o (yielded ops a.tmps) = true) (he : ∀ W : World, (execOp a.eval o).run Tryd.prog W = .ok (.value (.slice (some ⟨W.heap.size, 0, none⟩) n n)) (W.alloc (.cells (zb n) 5))) (h : ∀ (b : Nat) (W : World) a', St Z w W ((b, .row (zb n) 5) :: M) → a' = a.put o.dst (.slice (some ⟨b, 0, none⟩) n n) → Wl ops Q rest a' W) : Wl ops Q (o :: rest) a V :=
  wl_want hw fun K hK => by unfold Oper.wp; rw [he]; exact hK _ _ (h _ _ _ (S.alloc (zb n) 5) rfl)
theorem conv_z {b n : Nat} (h : V.heap[b]? = some (.cells (zb n) 5)) : (convert 61 9 (.slice (some ⟨b, 0, none⟩) n n)).run Tryd.prog V = .ok (.string (zs n)) V := by
  rw [run_convert_bytes_string V 61 9 5 _ _ _ (by kernel_rfl) (by kernel_rfl) (by kernel_rfl)]
  refine run_bytesToString V _ n n (zi n) ?_
  have hl : ((zi n).map (Value.int .u8)).length = n := by simp [zi]
  have := run_loadCells_list (P := Tryd.prog) (w := V) ⟨b, 0, none⟩ ((zi n).map (Value.int .u8)) (fun j u hu => by
    have hadd : (⟨b, 0, none⟩ : Addr).add j = ⟨b, j, none⟩ := by unfold Addr.add; split <;> simp_all
    rw [hadd]
    refine cell_of_heap h ?_
    have h2 : (zi n).map (Value.int .u8) = List.replicate n (Value.int .u8 0) := by simp [zi]
    rw [h2] at hu
    show (List.replicate n (Value.int .u8 0)).toArray[j]? = some u
    rw [List.getElem?_toArray]; exact hu)
  rw [hl] at this
  exact this
theorem wl_textz (S : St Z w V M) (k b n : Nat) (x : Operand) (hw : Region.wanted o (yielded ops a.tmps) = true) (ho : o.op = .convert 61 9 x) (hx : a.eval x = .slice (some ⟨b, 0, none⟩) n n) (hk : M[k]? = some (b, .row (zb n) 5)) (h : ∀ a', a' = a.put o.dst (.string (zs n)) → Wl ops Q rest a' V) : Wl ops Q (o :: rest) a V :=
  wl_want hw fun K hK => by
    unfold Oper.wp execOp
    simp only [ho, hx, Sem.run_bind, conv_z (S.nth k hk), Result.andThen_ok, Sem.run_pure]
    exact hK _ _ (h _ rfl)
end
def one32 : ByteArray := (⟨#[1]⟩ : ByteArray) ++ zs 31
def less32 : ByteArray := ((⟨#[236, 211, 245, 92, 26, 99, 18, 88, 214, 156, 247, 162, 222, 249, 222, 20]⟩ : ByteArray) ++ zs 15) ++ (⟨#[16]⟩ : ByteArray)
theorem one_fits : Ord.fits one32 := .inl (by decide +kernel)
theorem less_fits : Ord.fits less32 := .inl (by decide +kernel)
theorem of_one : Ord.of one32 = 1 := by decide +kernel
theorem of_less : Ord.of less32 = Ord.Lq - 1 := by decide +kernel
end Go.Proofs.YtpdagpjjlnncbaaDoor
