/-
  The contracts of endsEmpty and isSpanWrong.
-/
import Derived.Test.YtcjkjenebnodbaaDFree
namespace Go.Proofs.Ytcjkjenebnodbaa.Dr
open Go.RowKit
set_option linter.unusedVariables false

/-- Has the page slots, and is the last one empty? -/
def endB (zs : List Int) : Bool := decide (0 < nb zs 0) && empB zs (nb zs 0 - 1)

/-- Is what a slot tells no place of a cell? -/
def wrongB (low p l : Nat) : Bool := !(p == 0 && l == 0) && (p == 0 || l == 0 || decide (p < low) || decide (64 < p + l))

/-- What isSpanWrong knows while it asks. -/
def SpW (w : World) (zs : List Int) (x p l : Nat) (W : World) : Prop :=
  W.cell? ⟨x, 0, none⟩ = some (.int .u64 p) ∧ W.cell? ⟨x, 1, none⟩ = some (.int .u64 l) ∧ Arr W w.heap.size zs ∧ Below w.heap.size w W
theorem SpW.keep {w : World} {zs : List Int} {x p l : Nat} {W V : World} (h : SpW w zs x p l W) (hb : Below W.heap.size W V) : SpW w zs x p l V :=
  ⟨(hb.cell (p := ⟨x, 0, none⟩) (World.block_lt_of_cell? W _ h.1)).trans h.1, (hb.cell (p := ⟨x, 1, none⟩) (World.block_lt_of_cell? W _ h.2.1)).trans h.2.1, h.2.2.1.grown hb, h.2.2.2.trans (hb.mono h.2.2.2.size)⟩

end Go.Proofs.Ytcjkjenebnodbaa.Dr

