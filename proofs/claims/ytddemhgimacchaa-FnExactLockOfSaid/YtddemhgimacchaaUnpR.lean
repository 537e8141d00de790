/-
  The contract of the model's l1Read: what it tells of all bytes.
-/
import Derived.Test.YtddemhgimacchaaUnp
namespace Go.Proofs.Ytddemhgimacchaa
open Go.RowKit

end Go.Proofs.Ytddemhgimacchaa



