/-
  The contracts of the methods of a page that read it: slots, low, spanOf, and those of a span.
-/
import Derived.Test.YtcjkjenebnodbaaDPair
import Derived.Deep.Cut
namespace Go.Proofs.Ytcjkjenebnodbaa.Dr
open Go.RowKit

/-- The byte at place i. -/
def byt (zs : List Int) (i : Nat) : Int := zs.getD i 0
/-- 64 bytes. -/
structure IsPg (zs : List Int) : Prop where
  len : zs.length = 64
  bd : ∀ z ∈ zs, 0 ≤ z ∧ z ≤ 255

theorem byt_bd {zs : List Int} (h : ∀ z ∈ zs, 0 ≤ z ∧ z ≤ 255) (i : Nat) : 0 ≤ byt zs i ∧ byt zs i ≤ 255 := by
  unfold byt
  rw [List.getD_eq_getElem?_getD]
  cases hi : zs[i]? with
  | none => simp
  | some z => exact h z (List.mem_of_getElem? hi)
/-- The byte at place i, as a number of places. -/
def nb (zs : List Int) (i : Nat) : Nat := (byt zs i).toNat
theorem nb_byt {zs : List Int} (h : IsPg zs) (i : Nat) : byt zs i = (nb zs i : Int) := by have := byt_bd h.bd i; unfold nb; omega
theorem nb_lt {zs : List Int} (h : IsPg zs) (i : Nat) : nb zs i ≤ 255 := by have := byt_bd h.bd i; unfold nb; omega
theorem Arr.at {w : World} {b : Nat} {zs : List Int} (h : Arr w b zs) (i : Nat) (hi : i < 64) : w.cell? ⟨b, i, none⟩ = some (.int .u8 (byt zs i)) := h.cell i hi

/-- What the methods of a page find behind their first region: the page in a block of its own. -/
theorem boxed (zs : List Int) (w : World) (h : IsPg zs) : ∃ X, w.alloc (.cells (pgC zs) 58) = X ∧ Arr X w.heap.size zs ∧ Below w.heap.size w X := ⟨_, rfl, arr_new w zs h.len, (Below.refl _ _).alloc (Nat.le_refl _) _⟩

end Go.Proofs.Ytcjkjenebnodbaa.Dr

