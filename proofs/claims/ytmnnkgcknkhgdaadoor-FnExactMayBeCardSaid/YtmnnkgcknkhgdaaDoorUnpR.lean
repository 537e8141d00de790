/-
  The contract of the model's l1Read: what it tells of all bytes.
-/
import Derived.Test.YtmnnkgcknkhgdaaDoorUnp
namespace Go.Proofs.YtmnnkgcknkhgdaaDoor
open Go.RowKit

end Go.Proofs.YtmnnkgcknkhgdaaDoor


