/-
  What came in, opened: runs that stand in a struct.
-/
import Derived.Test.YtcjkjenebnodbaaRd
namespace Go.Proofs.Ytcjkjenebnodbaa
open Go.ChangeShapes Go.WideShapes Go.RowKit

theorem open_runs_any {H : Type} {enc : TypeId × Value → H} {W : World} {base : Nat} {held : Bool} {fuel : Nat} {cs : List Value} {x : DataW H × List MemPlace}
    (h : DataW.trod enc Try.prog W base (fun _ => true) held fuel 48 cs = some x) : ∃ a len cap P A C Z, cs = [.slice a len cap] ∧ IsRuns W a len P A C Z := by
  have hk := h
  rcases Go.Deep.open_slice_pairs Try.underlying48 Try.underlying139 (by kernel_rfl) rfl rfl (by kernel_rfl) (by kernel_rfl) h with ⟨hcs, _⟩ | ⟨y, l, c, m, n, V0, V1, D0, D1, P0, P1, hcs, _⟩
  · subst hcs
    obtain ⟨P, A, C, Z, hr⟩ := open_runs hk
    exact ⟨_, _, _, P, A, C, Z, rfl, hr⟩
  · subst hcs
    obtain ⟨P, A, C, Z, hr⟩ := open_runs hk
    exact ⟨_, _, _, P, A, C, Z, rfl, hr⟩

end Go.Proofs.Ytcjkjenebnodbaa
