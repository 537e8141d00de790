/-
  Picked.
-/
import Derived.Test.YtmbllmhpnopbdaaFFChp

namespace Go.Proofs.Ytmbllmhpnopbdaa
open Go.RowKit Go.Maps
set_option linter.unusedVariables false
set_option maxRecDepth 20000

open Go.RowKit Go.Maps
set_option linter.unusedVariables false
set_option maxRecDepth 20000

/-- Changes whose texts are short. -/
def ShC (cs : List Chg) : Prop := ∀ c ∈ cs, c.b.s.size ≤ 9 ∧ c.a.s.size ≤ 9
theorem chL_short {bs az ks : List Rw} (h : ∀ r ∈ bs, r.s.size ≤ 9) (h' : ∀ r ∈ az, r.s.size ≤ 9) : ShC (chL bs az ks) := by
  intro c hc
  obtain ⟨r, _, hk⟩ := List.mem_filterMap.1 hc
  unfold chK at hk
  obtain ⟨hk, _⟩ := Option.filter_eq_some_iff.1 hk
  have hz : zR.s.size ≤ 9 := by decide
  unfold chAt at hk
  split at hk
  · cases hk
  · rename_i b h1 _; cases hk; exact ⟨h _ (fR_mem h1).1, hz⟩
  · rename_i a _ h2; cases hk; exact ⟨hz, h' _ (fR_mem h2).1⟩
  · rename_i b a h1 h2; cases hk; exact ⟨h _ (fR_mem h1).1, h' _ (fR_mem h2).1⟩

end Go.Proofs.Ytmbllmhpnopbdaa
