/-
  The law FnExactParseRow answers true at every text.
-/
import Derived.Test.YthjfpglcmgcbkaaScanW
namespace Go.Proofs.Ythjfpglcmgcbkaa
open Go.RowKit

theorem lawParseRow_any (s : ByteArray) (w : World) (_ : s.size ≤ maxLen) :
    Calls Try.prog 9 #[.string s] w fun e w' => e = .returned (.bool true) ∧ Below w.heap.size w w' := by
  by_cases hs : 1048576 < s.size
  · exact lawParseRow_over s w hs
  · exact lawParseRow_of scanSaid s w (by omega)

end Go.Proofs.Ythjfpglcmgcbkaa
