/-
  The law FnExactRowsFault answers true at all rows.
-/
import Derived.Test.YtcadkclppejdgaaRdw
namespace Go.Proofs.Ytcadkclppejdgaa
open Go.RowKit
set_option linter.unusedVariables false

set_option maxHeartbeats 1000000 in
theorem lawRowsFault_any (a : Option Addr) (n c : Nat) (rs : List Rw) (w : World) (h : IsRows w a n rs) :
    Calls Try.prog 7 #[.slice a n c] w fun e w' => e = .returned (.bool true) ∧ Below w.heap.size w w' := by
  obtain ⟨hr, hn, hm, hs, _⟩ := h
  have HR : Hid (Rs rwE 4 w a rs) := hr
  have HN : Hid (rs.length = n) := hn
  have HS : Hid (∀ r ∈ rs, r.s.size ≤ maxLen) := hs
  obtain ⟨q, hq⟩ : ∃ q, q = rowsQ rs := ⟨_, rfl⟩
  have HQ : Hid (rowsQ rs = q) := hq.symm
  clear hq hr hn hs
  go_enter Try.func7, Try.ntmps7
  go_wp2_with fail
  refine (szRowS_any a rs n c _ 1048576 HN.out hm HS.out HR.out (by omega) (by omega)).mono ?_
  rintro e w1 ⟨⟨r, rfl, hr1, hl⟩, g1⟩
  by_cases h0 : r < 0
  · go_wp2_with fail
    go_ret
    exact ⟨rfl, g1⟩
  have hn : n ≤ 1048576 := (hl (by omega)).1
  have h0 : ¬ (r < 0) := h0
  clear hl
  go_wp2_with fail
  refine (toRowS_any a rs n c _ HN.out hn (HR.out.below g1 (Nat.le_refl _))).mono ?_
  rintro e w2 ⟨rfl, g2, o2⟩
  have g2 : Below w.heap.size w w2 := g1.trans (g2.mono g1.size)
  generalize w1.heap.size = b2 at o2 ⊢
  go_wp2_with fail
  refine (specRowsFault_any _ rs n n _ HN.out hm HS.out o2.reads).mono ?_
  rintro e w3 ⟨rfl, g3⟩
  rw [HQ.out]
  have g3 : Below w.heap.size w w3 := g2.trans (g3.mono g2.size)
  clear g2 g1 o2
  go_wp2_with fail
  refine (toRowS_any a rs n c _ HN.out hn (HR.out.below g3 (Nat.le_refl _))).mono ?_
  rintro e w4 ⟨rfl, g4, o4⟩
  have g4 : Below w.heap.size w w4 := g3.trans (g4.mono g3.size)
  generalize w3.heap.size = b4 at o4 ⊢
  clear g3
  go_wp2_with fail
  refine (implRowsFault_any _ rs n n _ HN.out hm HS.out o4.reads).mono ?_
  rintro e w5 ⟨rfl, g5⟩
  rw [HQ.out]
  have o5 := o4.below g5
  have g5 : Below w.heap.size w w5 := g4.trans (g5.mono g4.size)
  clear g4 o4
  go_wp2_with fail
  refine (toRowS_any a rs n c _ HN.out hn (HR.out.below g5 (Nat.le_refl _))).mono ?_
  rintro e w6 ⟨rfl, g6, o6⟩
  have o5 := o5.below g6
  have g6 : Below w.heap.size w w6 := g5.trans (g6.mono g5.size)
  generalize w5.heap.size = b6 at o6 ⊢
  go_wp2_with fail
  refine (eqRowS_same _ _ rs n n n _ HN.out hm o5.reads o6.reads).mono ?_
  rintro e w7 ⟨rfl, g7⟩
  have g7 : Below w.heap.size w w7 := g6.trans (g7.mono g6.size)
  clear g6 o5 o6
  go_wp2_with fail
  go_ret
  exact ⟨rfl, g7⟩

end Go.Proofs.Ytcadkclppejdgaa
