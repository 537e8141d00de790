/-
  The contracts of cellFault and of the model's l2Bad.
-/
import Derived.Test.YtjbopcplpgoiaaaLpo
namespace Go.Proofs.Ytjbopcplpgoiaaa
open Go.RowKit
set_option linter.unusedVariables false

set_option maxHeartbeats 400000 in
theorem l2Bad_any (q : Int) (w : World) :
    Calls Try.prog 56 #[.int .i64 q] w fun e w' => e = .returned (.agg #[.int .i64 q, .int .i64 0, .slice none 0 0]) ∧ Below w.heap.size w w' := by
  go_enter Try.func56, Try.ntmps56
  go_wp2_with fail
  refine bodyPost_ret (v := .agg #[.int .i64 q, .int .i64 0, .slice none 0 0]) (by simp [results, Try.results56, go_sem]) rfl ?_
  exact ⟨rfl, by go_grown⟩

/-- The fault of a cell of n bytes. -/
def cellQ (n : Nat) : Int := if inR n 1 20 = true then 0 else 1

set_option maxHeartbeats 400000 in
theorem cellFault_any (a : Option Addr) (n c : Nat) (w : World) (hn : n ≤ 1048576) :
    Calls Try.prog 80 #[.slice a n c] w fun e w' => e = .returned (.int .i64 (cellQ n)) ∧ w' = w := by
  by_cases h1 : n < 1
  · have HQ : Hid (cellQ n = 1) := by show _ = _; unfold cellQ; rw [if_neg (by simp [inR]; omega)]
    have i1 : (n : Int) < 1 := by omega
    have d1 : decide ((n : Int) < 1) = true := by simpa using i1
    go_enter Try.func80, Try.ntmps80
    go_wp2_with fail
    go_ret
    exact ⟨by rw [HQ.out]; rfl, rfl⟩
  · have d1 : decide ((n : Int) < 1) = false := by simp; omega
    by_cases h2 : 20 < n
    · have HQ : Hid (cellQ n = 1) := by show _ = _; unfold cellQ; rw [if_neg (by simp [inR]; omega)]
      have i2 : (20 : Int) < (n : Int) := by omega
      have d2 : decide (20 < n) = true := by simpa using h2
      go_enter Try.func80, Try.ntmps80
      go_wp2_with fail
      go_ret
      exact ⟨by rw [HQ.out]; rfl, rfl⟩
    · have HQ : Hid (cellQ n = 0) := by show _ = _; unfold cellQ; rw [if_pos (by simp [inR]; omega)]
      have i2 : ¬ (20 : Int) < (n : Int) := by omega
      have d2 : decide (20 < n) = false := by simpa using h2
      go_enter Try.func80, Try.ntmps80
      go_wp2_with fail
      go_ret
      exact ⟨by rw [HQ.out]; rfl, rfl⟩

end Go.Proofs.Ytjbopcplpgoiaaa
