/-
  Picked.
-/
import Derived.Test.YthhkgpflodeleaaFCChg

namespace Go.Proofs.Ythhkgpflodeleaa
open Go.RowKit Go.Maps
set_option linter.unusedVariables false

open Go.RowKit Go.Maps
set_option linter.unusedVariables false

/-- Ten cells written. -/
def put10 (w : World) (b o : Nat) (x : Chg) : World := (((((((((w.setCell ⟨b, o, none⟩ (.bool x.was)).setCell ⟨b, o + 1, none⟩ (.int .i64 x.b.t)).setCell ⟨b, o + 2, none⟩ (.int .i64 x.b.k)).setCell ⟨b, o + 3, none⟩ (.int .i64 x.b.v)).setCell ⟨b, o + 4, none⟩ (.string x.b.s)).setCell ⟨b, o + 5, none⟩ (.bool x.is)).setCell ⟨b, o + 6, none⟩ (.int .i64 x.a.t)).setCell ⟨b, o + 7, none⟩ (.int .i64 x.a.k)).setCell ⟨b, o + 8, none⟩ (.int .i64 x.a.v)).setCell ⟨b, o + 9, none⟩ (.string x.a.s)
theorem Rs.chgAt {w : World} {b off : Nat} {xs : List Chg} (h : Rs chE 10 w (some ⟨b, off, none⟩) xs) {i : Nat} {x : Chg} (hx : xs[i]? = some x) : ChC w b (off + i * 10) x := by
  obtain ⟨b', off', ha, hc⟩ := h.chg hx
  simp only [Option.some.injEq, Addr.mk.injEq, and_true] at ha
  obtain ⟨rfl, rfl⟩ := ha
  exact hc

end Go.Proofs.Ythhkgpflodeleaa
