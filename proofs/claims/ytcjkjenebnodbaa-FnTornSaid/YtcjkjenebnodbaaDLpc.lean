/-
  The contract of loadPageAndCell.
-/
import Derived.Test.YtcjkjenebnodbaaDSpu
namespace Go.Proofs.Ytcjkjenebnodbaa.Dr
open Go.RowKit
set_option linter.unusedVariables false

/-- The fault of bytes and of a cell of m bytes. -/
def lcQ (zs : List Int) (m : Nat) : Int := if fltOf zs = 0 then cellQ m else fltOf zs

end Go.Proofs.Ytcjkjenebnodbaa.Dr

