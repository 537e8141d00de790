/-
  The contract of the model's l2Fault: the same fault.
-/
import Derived.Test.YtcjkjenebnodbaaDMod
namespace Go.Proofs.Ytcjkjenebnodbaa.Dr
open Go.RowKit
set_option linter.unusedVariables false
theorem endB_last (zs : List Int) (n : Nat) (hn : nb zs 0 = n) (h0 : 0 < n) (hw : wrgN zs n = false) : endB zs = (nb zs (3 + 2 * (n - 1)) == 0) := by
  have h1 := wrgN_at zs n hw (n - 1) (by omega)
  rw [endB, hn, show decide (0 < n) = true by simpa using h0, Bool.true_and, empB]
  cases e : (nb zs (3 + 2 * (n - 1)) == 0)
  · simp
  · rw [wrgS, wrongB, e] at h1
    cases e2 : (nb zs (2 + 2 * (n - 1)) == 0)
    · rw [e2] at h1; simp at h1
    · rfl

end Go.Proofs.Ytcjkjenebnodbaa.Dr

