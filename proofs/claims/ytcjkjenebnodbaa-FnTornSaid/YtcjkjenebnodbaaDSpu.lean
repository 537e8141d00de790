/-
  The contract of the model's PutSlot.
-/
import Derived.Test.YtcjkjenebnodbaaDSml
namespace Go.Proofs.Ytcjkjenebnodbaa.Dr
open Go.RowKit
set_option linter.unusedVariables false

/-- What PutSlot answers: its code, its slot, its page. -/
def psQ (zs : List Int) (n : Nat) : Int := if fltOf zs = 0 then (if inR n 1 20 = true then putQ zs n else 1) else fltOf zs
def psS (zs : List Int) (n : Nat) : Int := if psQ zs n = 0 then (putS zs : Int) else 0
def psB (zs cs : List Int) : List Int := if psQ zs cs.length = 0 then putP zs cs else []

theorem PRes.grown {b : Nat} {w w' : World} {q s : Int} {v : Value} (h : PRes w b q s v) (hb : Below w.heap.size w w') : PRes w' b q s v := h.below hb h.lt

end Go.Proofs.Ytcjkjenebnodbaa.Dr

