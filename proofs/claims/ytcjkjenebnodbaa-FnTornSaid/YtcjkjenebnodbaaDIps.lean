/-
  The contract of PutSlot (under way), and plain facts for it.
-/
import Derived.Test.YtcjkjenebnodbaaDLpc
namespace Go.Proofs.Ytcjkjenebnodbaa.Dr
open Go.RowKit
set_option linter.unusedVariables false

theorem splice_set1 (zs cs : List Int) (p : Nat) (v : Int) (hp : 1 < p) (hl : p + cs.length ≤ zs.length) : (splice zs p cs).set 1 v = splice (zs.set 1 v) p cs := by
  unfold splice
  rw [List.set_append_left _ _ (by simp; omega), List.take_set, List.drop_set_of_lt (by omega)]

theorem span_set1 (zs : List Int) (s p l : Nat) (v : Int) : (spanSet zs s p l).set 1 v = spanSet (zs.set 1 v) s p l := by
  unfold spanSet
  rw [List.set_comm _ _ (by omega), List.set_comm _ _ (by omega : 2 + 2 * s ≠ 1)]

theorem nb_set0_low (zs : List Int) (v : Int) : nb (zs.set 0 v) 1 = nb zs 1 := nb_set_other 0 1 v (by omega)

theorem aheadP_putP (zs cs : List Int) (h : IsPg zs) (hp : cs.length + 1 < nb zs 1) (h64 : nb zs 1 ≤ 64) : aheadP (zs.set 0 ((putM zs : Nat) : Int)) (putS zs) cs = putP zs cs := by
  unfold aheadP putP
  rw [nb_set0_low, span_set1, splice_set1 _ _ _ _ (by omega) (by rw [List.length_set, h.len]; omega)]

end Go.Proofs.Ytcjkjenebnodbaa.Dr

