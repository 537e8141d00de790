/-
  The contracts of setSpan, writeCell and writeAheadOfLow: a page is written through a pointer.
-/
import Derived.Test.YtcjkjenebnodbaaDClo
namespace Go.Proofs.Ytcjkjenebnodbaa.Dr
open Go.RowKit
set_option linter.unusedVariables false

/-- The slot s tells a place and a length. -/
def spanSet (zs : List Int) (s p l : Nat) : List Int := (zs.set (2 + 2 * s) (p : Int)).set (3 + 2 * s) (l : Int)

end Go.Proofs.Ytcjkjenebnodbaa.Dr

