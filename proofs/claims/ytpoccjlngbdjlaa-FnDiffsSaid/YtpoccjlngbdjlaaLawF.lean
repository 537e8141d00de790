/-
  The law FnExactRunsFault answers true at all runs.
-/
import Derived.Test.YtpoccjlngbdjlaaRunF
import Derived.Test.YtpoccjlngbdjlaaRd
namespace Go.Proofs.Ytpoccjlngbdjlaa
open Go.RowKit
set_option linter.unusedVariables false

set_option maxHeartbeats 400000 in
theorem specRunsFault_any (a : Option Addr) (n c : Nat) (P : Nat → Int) (A : Nat → Option Addr) (C : Nat → Nat) (Z : Nat → List Int) (w : World) (hm : n ≤ 1048576) (hz : ∀ i, i < n → (Z i).length ≤ 1048576) (hr : RunsRead w a n P A C Z) :
    Calls Try.prog 25 #[.slice a n c] w fun e w' => e = .returned (.int .i64 (rfQ n P Z)) ∧ ∃ q, w' = w.drewN q := by
  go_enter Try.func25, Try.ntmps25
  go_wp2_with fail
  refine (l3Fault_any a n c P A C Z _ hm hz hr).mono ?_
  rintro e w' ⟨rfl, q, rfl⟩
  go_wp2_with fail
  go_ret
  exact ⟨rfl, q, rfl⟩

set_option maxHeartbeats 1000000 in
theorem lawRunsFault_any (a : Option Addr) (n c : Nat) (P : Nat → Int) (A : Nat → Option Addr) (C : Nat → Nat) (Z : Nat → List Int) (w : World) (hm : n ≤ 9223372036854775807) (hz : ∀ i, i < n → (Z i).length ≤ 9223372036854775807) (hr : RunsRead w a n P A C Z) :
    Calls Try.prog 5 #[.slice a n c] w fun e w' => e = .returned (.bool true) ∧ Below w.heap.size w w' := by
  have HR : Hid (RunsRead w a n P A C Z) := hr
  obtain ⟨q, hq⟩ : ∃ q, q = rfQ n P Z := ⟨_, rfl⟩
  have HQ : Hid (rfQ n P Z = q) := hq.symm
  clear hq hr
  go_enter Try.func5, Try.ntmps5
  go_wp2_with fail
  refine (szRunS_any a n c P A C Z _ hm hz HR.out).mono ?_
  rintro e w1 ⟨⟨r, rfl, hl⟩, g1⟩
  by_cases h0 : r < 0
  · go_wp2_with fail
    go_ret
    exact ⟨rfl, g1⟩
  have hl := hl (by omega)
  have h0 : ¬ (r < 0) := h0
  have HL : Hid (n + took Z n ≤ 1048576) := hl
  have hzl : Hid (∀ i, i < n → (Z i).length ≤ 1048576) := fun i hi => by have := took_one Z i n hi; omega
  have hn : n ≤ 1048576 := by omega
  clear hl hz
  go_wp2_with fail
  refine (toRunS_any a n c P A C Z _ HL.out (HR.out.below g1 (Nat.le_refl _))).mono ?_
  rintro e w2 ⟨rfl, g2, A2, F2, o2⟩
  have g2 : Below w.heap.size w w2 := g1.trans (g2.mono g1.size)
  go_wp2_with fail
  refine (specRunsFault_any _ n n P A2 _ Z _ hn hzl.out o2.reads).mono ?_
  rintro e w3 ⟨rfl, k3, rfl⟩
  rw [HQ.out]
  have g3 := below_draws g2 k3
  generalize w2.drewN k3 = w3 at g3
  clear g2 g1 o2
  go_wp2_with fail
  refine (toRunS_any a n c P A C Z _ HL.out (HR.out.below g3 (Nat.le_refl _))).mono ?_
  rintro e w4 ⟨rfl, g4, A4, F4, o4⟩
  have g4 : Below w.heap.size w w4 := g3.trans (g4.mono g3.size)
  clear g3
  go_wp2_with fail
  refine (implRunsFault_any _ n n P A4 _ Z _ hn hzl.out o4.reads).mono ?_
  rintro e w5 ⟨rfl, g5⟩
  rw [HQ.out]
  have o5 := o4.below g5
  have g5 : Below w.heap.size w w5 := g4.trans (g5.mono g4.size)
  clear g4 o4
  go_wp2_with fail
  refine (toRunS_any a n c P A C Z _ HL.out (HR.out.below g5 (Nat.le_refl _))).mono ?_
  rintro e w6 ⟨rfl, g6, A6, F6, o6⟩
  have o5 := o5.below g6
  have g6 : Below w.heap.size w w6 := g5.trans (g6.mono g5.size)
  go_wp2_with fail
  refine (eqRunS_same _ _ n n n P A4 A6 _ _ Z F4 F6 _ _ _ _ _ HL.out o5 o6).mono ?_
  rintro e w7 ⟨rfl, g7⟩
  have g7 : Below w.heap.size w w7 := g6.trans (g7.mono g6.size)
  clear g6 o5 o6
  go_wp2_with fail
  go_ret
  exact ⟨rfl, g7⟩

theorem lawRunsFault_all (a : Option Addr) (n c : Nat) (P : Nat → Int) (A : Nat → Option Addr) (C : Nat → Nat) (Z : Nat → List Int) (w : World) (h : IsRuns w a n P A C Z) :
    Calls Try.prog 5 #[.slice a n c] w fun e w' => e = .returned (.bool true) ∧ Below w.heap.size w w' := lawRunsFault_any a n c P A C Z w h.ln h.zl h.rd

end Go.Proofs.Ytpoccjlngbdjlaa
