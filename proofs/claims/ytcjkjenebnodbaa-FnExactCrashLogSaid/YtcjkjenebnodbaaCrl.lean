/-
  A plain fact on what a crash leaves.
-/
import Derived.Test.YtcjkjenebnodbaaScr
namespace Go.Proofs.Ytcjkjenebnodbaa

theorem crB_len (xs ys : List Int) (k : Int) : (crB xs ys k).length ≤ xs.length + ys.length := by
  unfold crB
  split
  · rw [List.length_take]
    unfold crD
    rw [List.length_append, List.length_take]
    omega
  · exact Nat.zero_le _

end Go.Proofs.Ytcjkjenebnodbaa
