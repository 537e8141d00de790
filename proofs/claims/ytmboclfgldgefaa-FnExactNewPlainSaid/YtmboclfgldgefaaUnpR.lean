/-
  The contract of the model's l1Read: what it tells of all bytes.
-/
import Derived.Test.YtmboclfgldgefaaUnp
namespace Go.Proofs.Ytmboclfgldgefaa
open Go.RowKit

end Go.Proofs.Ytmboclfgldgefaa




