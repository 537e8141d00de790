/-
  The contracts of cellFault and of the model's l2Bad.
-/
import Derived.Test.YtcjkjenebnodbaaDLpo
namespace Go.Proofs.Ytcjkjenebnodbaa.Dr
open Go.RowKit
set_option linter.unusedVariables false
/-- The fault of a cell of n bytes. -/
def cellQ (n : Nat) : Int := if inR n 1 20 = true then 0 else 1

end Go.Proofs.Ytcjkjenebnodbaa.Dr

