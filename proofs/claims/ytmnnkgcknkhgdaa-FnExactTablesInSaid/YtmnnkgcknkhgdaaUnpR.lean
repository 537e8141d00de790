/-
  The contract of the model's l1Read: what it tells of all bytes.
-/
import Derived.Test.YtmnnkgcknkhgdaaUnp
namespace Go.Proofs.Ytmnnkgcknkhgdaa
open Go.RowKit

end Go.Proofs.Ytmnnkgcknkhgdaa


