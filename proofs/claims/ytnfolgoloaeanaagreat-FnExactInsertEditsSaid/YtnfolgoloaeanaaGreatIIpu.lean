/-
  The contract of the program's PutSlot.
-/
import Derived.Test.YtnfolgoloaeanaaGreatILpu
import Derived.Test.YtnfolgoloaeanaaGreatIBas

namespace Go.Proofs.YtnfolgoloaeanaaGreat
set_option maxRecDepth 20000
open Go.RowKit
set_option linter.unusedVariables false

theorem psKeep {w W V : World} {b : Nat} {ys : List Int} {x : Nat} {q s : Int} {v : Value} (h : Arr W b ys ∧ PRes W x q s v ∧ Below w.heap.size w W) (hb : Below W.heap.size W V) : Arr V b ys ∧ PRes V x q s v ∧ Below w.heap.size w V :=
  ⟨h.1.grown hb, h.2.1.grown hb, h.2.2.trans (hb.mono h.2.2.size)⟩

theorem wrapU (x : Int) (h0 : 0 ≤ x) (h1 : x ≤ 1000) : IntKind.u64.wrap x = x := by
  rw [IntKind.wrap_u64]
  omega

theorem putS_le (zs : List Int) : putS zs ≤ nb zs 0 := by have := firstE_le zs (nb zs 0) 0; unfold putS; omega

end Go.Proofs.YtnfolgoloaeanaaGreat

