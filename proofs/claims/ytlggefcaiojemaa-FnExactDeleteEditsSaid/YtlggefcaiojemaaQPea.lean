/-
  The program's pageAt at a page that is there; withPage, where a page is turned.
-/
import Derived.Test.YtlggefcaiojemaaQHps

namespace Go.Proofs.Ytlggefcaiojemaa
open Go.RowKit
set_option linter.unusedVariables false

set_option maxHeartbeats 1000000 in
theorem withPage_set (gp pn n k : Nat) (y u : Value) (w : World) (hp : pn < n) (hc : w.cell? ⟨gp, pn, none⟩ = some y) (hf : w.frozen? ⟨gp, pn, none⟩ = false) (hu : ∃ a l c, u = .slice a l c) :
    Calls Try.prog 59 #[.slice (some ⟨gp, 0, none⟩) n k, .int .i64 pn, u] w fun e w' => e = .returned (.slice (some ⟨gp, 0, none⟩) n k) ∧ w' = w.setCell ⟨gp, pn, none⟩ u := by
  obtain ⟨a, l, c, rfl⟩ := hu
  have hpi : (pn : Int) < (n : Int) := by omega
  have dn : (((pn : Nat) : Int) == (n : Int)) = false := by
    have : ¬ ((pn : Int) = (n : Int)) := by omega
    simpa using this
  go_enter Try.func59, Try.ntmps59
  go_wp2_with fail
  go_ret
  exact ⟨rfl, rfl⟩

end Go.Proofs.Ytlggefcaiojemaa
