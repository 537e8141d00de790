/-
  Whether rows rise: both RowsFault.
-/
import Derived.Test.YtnfolgoloaeanaaGreatIUnpI

namespace Go.Proofs.YtnfolgoloaeanaaGreat
open Go.RowKit
set_option linter.unusedVariables false

/-- The two rows that are held against each other. -/
structure TwoR (w : World) (bp op bc oc : Nat) (p c : Rw) (W : World) : Prop where
  p : RowC W bp op p
  c : RowC W bc oc c
  g : Below w.heap.size w W
  hp : bp < W.heap.size
  hc : bc < W.heap.size
theorem TwoR.up {w W V : World} {bp op bc oc : Nat} {p c : Rw} (h : TwoR w bp op bc oc p c W) (hb : Below W.heap.size W V) : TwoR w bp op bc oc p c V :=
  ⟨h.p.below hb h.hp, h.c.below hb h.hc, h.g.trans (hb.mono h.g.size), Nat.lt_of_lt_of_le h.hp hb.size, Nat.lt_of_lt_of_le h.hc hb.size⟩

end Go.Proofs.YtnfolgoloaeanaaGreat

