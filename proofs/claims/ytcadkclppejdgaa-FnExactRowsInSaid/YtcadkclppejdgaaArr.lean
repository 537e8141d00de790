/-
  A page as an array: a block of 64 bytes.
-/
import Derived.Test.YtcadkclppejdgaaCopy
import Derived.Deep.MidRow
namespace Go.Proofs.Ytcadkclppejdgaa
open Go.RowKit

/-- The cells of a page. -/
def pgC (zs : List Int) : Array Value := (zs.map (Value.int .u8)).toArray
/-- Block b is an array of 64 bytes that holds zs. -/
structure Arr (w : World) (b : Nat) (zs : List Int) : Prop where
  len : zs.length = 64
  row : w.heap[b]? = some (.cells (pgC zs) 167)

theorem pgC_size (zs : List Int) : (pgC zs).size = zs.length := by simp [pgC]
theorem pgC_at (zs : List Int) (i : Nat) (h : i < zs.length) : (pgC zs)[i]? = some (.int .u8 (zs.getD i 0)) := by
  simp [pgC, List.getD, List.getElem?_eq_getElem h]

theorem info57 : (Try.prog.info? 167).map (·.size) = some 64 := by kernel_rfl

variable {w w' : World} {b : Nat} {zs : List Int}

theorem Arr.lt (h : Arr w b zs) : b < w.heap.size := (Array.getElem?_eq_some_iff.1 h.row).1
theorem Arr.cell (h : Arr w b zs) (i : Nat) (hi : i < 64) : w.cell? ⟨b, i, none⟩ = some (.int .u8 (zs.getD i 0)) := by
  rw [cell_of_row w b i _ _ _ h.row, pgC_at zs i (by rw [h.len]; exact hi)]
theorem Arr.frozen (h : Arr w b zs) (i : Nat) : w.frozen? ⟨b, i, none⟩ = false := by simp [World.frozen?, h.row]
theorem Arr.below {B : Nat} (h : Arr w b zs) (hb : Below B w w') (hlt : b < B) : Arr w' b zs := ⟨h.len, (hb.block b hlt).trans h.row⟩
theorem Arr.grown (h : Arr w b zs) (hb : Below w.heap.size w w') : Arr w' b zs := h.below hb h.lt
theorem Arr.turned {lo hi : Nat} (h : Arr w b zs) (ht : Turned lo hi w w') (hn : b < lo ∨ hi ≤ b) : Arr w' b zs := ⟨h.len, (ht.block b h.lt (by omega)).trans h.row⟩
theorem Arr.other (h : Arr w b zs) (p : Addr) (v : Value) (hn : p.block ≠ b) : Arr (w.setCell p v) b zs := ⟨h.len, by rw [Below.heap_setCell _ _ _ _ (fun e => hn e.symm)]; exact h.row⟩
theorem Arr.set (h : Arr w b zs) (i : Nat) (v : Int) : Arr (w.setCell ⟨b, i, none⟩ (.int .u8 v)) b (zs.set i v) := by
  refine ⟨by rw [List.length_set]; exact h.len, ?_⟩
  have hv : w.heap[b]'h.lt = .cells (pgC zs) 167 := (Array.getElem?_eq_some_iff.1 h.row).2
  unfold World.setCell
  rw [Array.getElem?_eq_getElem (by simpa using h.lt), Array.getElem_modify]
  simp [hv, pgC]
theorem Arr.bytes (h : Arr w b zs) {lo hi : Nat} (h1 : lo ≤ b) (h2 : b < hi) : BytesIn lo hi w (some ⟨b, 0, none⟩) zs :=
  .inr ⟨b, 0, rfl, h1, h2, fun i hi => by rw [Nat.zero_add]; exact h.cell i (by rw [← h.len]; exact hi), fun i _ => by rw [Nat.zero_add]; exact h.frozen i⟩
theorem Arr.alloc (h : Arr w b zs) (o : Obj) : Arr (w.alloc o) b zs := ⟨h.len, (heap_alloc_old w o h.lt).trans h.row⟩
theorem arr_new (w : World) (zs : List Int) (h : zs.length = 64) : Arr (w.alloc (.cells (pgC zs) 167)) w.heap.size zs := ⟨h, heap_alloc_new w _⟩

end Go.Proofs.Ytcadkclppejdgaa

