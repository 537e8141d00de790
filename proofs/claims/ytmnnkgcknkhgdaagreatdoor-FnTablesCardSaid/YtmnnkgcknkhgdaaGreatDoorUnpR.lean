/-
  The contract of the model's l1Read: what it tells of all bytes.
-/
import Derived.Test.YtmnnkgcknkhgdaaGreatDoorUnp
namespace Go.Proofs.YtmnnkgcknkhgdaaGreatDoor
open Go.RowKit

end Go.Proofs.YtmnnkgcknkhgdaaGreatDoor


