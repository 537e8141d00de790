/-
  The contract of hasCommonByte: have two cells a byte in common?
-/
import Derived.Test.YtcjkjenebnodbaaDFree
namespace Go.Proofs.Ytcjkjenebnodbaa.Dr
open Go.RowKit
set_option linter.unusedVariables false

/-- Is place i one of the cell of slot s? -/
def inB (zs : List Int) (s i : Nat) : Bool := decide (nb zs (2 + 2 * s) ≤ i) && decide (i < nb zs (2 + 2 * s) + nb zs (3 + 2 * s))
/-- Is it one of a cell of the first k slots? -/
def usedB (zs : List Int) : Nat → Nat → Bool
  | 0, _ => false
  | k + 1, i => usedB zs k i || inB zs k i
/-- Has the cell of slot k a byte in common with one ahead? -/
def hitB (zs : List Int) (k : Nat) : Bool := (List.range 64).any fun i => inB zs k i && usedB zs k i
/-- Have two cells of the first k slots a byte in common? -/
def comB (zs : List Int) : Nat → Bool
  | 0 => false
  | k + 1 => comB zs k || hitB zs k

theorem comB_more (zs : List Int) (k : Nat) (h : comB zs k = true) : ∀ m, comB zs (k + m) = true
  | 0 => h
  | m + 1 => by rw [← Nat.add_assoc, comB, comB_more zs k h m]; rfl

/-- Block b holds 64 bools that may be written. -/
def Flags (w : World) (b : Nat) (u : Nat → Bool) : Prop := ∀ i, i < 64 → w.cell? ⟨b, i, none⟩ = some (.bool (u i)) ∧ w.frozen? ⟨b, i, none⟩ = false
theorem Flags.lt {w : World} {b : Nat} {u : Nat → Bool} (h : Flags w b u) : b < w.heap.size := World.block_lt_of_cell? w _ (h 0 (by omega)).1
theorem Flags.grown {w w' : World} {b : Nat} {u : Nat → Bool} (h : Flags w b u) (hb : Below w.heap.size w w') : Flags w' b u := fun i hi =>
  ⟨(hb.cell (p := ⟨b, i, none⟩) h.lt).trans (h i hi).1, (hb.frozen (p := ⟨b, i, none⟩) h.lt).trans (h i hi).2⟩
theorem Flags.set {w : World} {b : Nat} {u v : Nat → Bool} (h : Flags w b u) (a : Nat) (hv : ∀ i, i < 64 → v i = if i = a then true else u i) : Flags (w.setCell ⟨b, a, none⟩ (.bool true)) b v := fun i hi => by
  refine ⟨?_, by rw [World.frozen?_setCell]; exact (h i hi).2⟩
  rw [hv i hi]
  by_cases e : i = a
  · subst e
    rw [World.cell?_setCell_same _ _ _ (h i hi).1, if_pos rfl]
  · rw [World.cell?_setCell_other _ _ _ _ (fun h => e (by have := congrArg Addr.off h; simp at this; omega)), (h i hi).1, if_neg e]
theorem Flags.to {w : World} {b : Nat} {u v : Nat → Bool} (h : Flags w b u) (hv : ∀ i, i < 64 → v i = u i) : Flags w b v := fun i hi => by rw [hv i hi]; exact h i hi

theorem falses (i : Nat) (h : i < 64) : (Array.replicate 64 (Value.bool false))[i]? = some (.bool false) := by rw [Array.getElem?_replicate, if_pos h]

end Go.Proofs.Ytcjkjenebnodbaa.Dr

