/-
  Changes alone: their codes and keys (plain facts).
-/
import Derived.Test.YtmboclfgldgefaaInc
namespace Go.Proofs.Ytmboclfgldgefaa
open Go.RowKit
set_option linter.unusedVariables false

def chQ (c : Chg) : Int := if (!c.was && !c.is || c.was && c.is && (!(decide (c.b.t = c.a.t) && decide (c.b.k = c.a.k)))) = true then 1 else if c.was = true ∧ rwF c.b ≠ 0 then rwF c.b else if c.is = true then rwF c.a else 0
def kT (c : Chg) : Int := if c.is = true then c.a.t else c.b.t
def kK (c : Chg) : Int := if c.is = true then c.a.k else c.b.k
theorem chQ_zero {c : Chg} (h : chQ c = 0) : (c.was = true ∨ c.is = true) ∧ (c.was = true → c.is = true → c.b.t = c.a.t ∧ c.b.k = c.a.k) ∧ (c.was = true → rwF c.b = 0) ∧ (c.is = true → rwF c.a = 0) := by
  unfold chQ at h
  split at h
  · exact absurd h (by decide)
  · rename_i h1
    split at h
    · rename_i h2; exact absurd h h2.2
    · rename_i h2
      have h3 : ¬ ((!c.was && !c.is || c.was && c.is && (!(decide (c.b.t = c.a.t) && decide (c.b.k = c.a.k)))) = true) := h1
      refine ⟨?_, ?_, ?_, ?_⟩
      · cases hw : c.was <;> cases hi : c.is <;> simp [hw, hi] at h3 ⊢
      · intro hw hi
        simp [hw, hi] at h3
        exact h3
      · intro hw
        by_cases e : rwF c.b = 0
        · exact e
        · exact absurd ⟨hw, e⟩ h2
      · intro hi
        rw [if_pos hi] at h
        exact h
theorem rwF_zero {r : Rw} (h : rwF r = 0) : (0 ≤ r.t ∧ r.t ≤ 3) ∧ (1 ≤ r.k ∧ r.k ≤ 99) := by
  unfold rwF faultI at h
  split at h
  · rename_i hb
    simp only [rngB, inW, Bool.and_eq_true, decide_eq_true_eq] at hb
    omega
  · exact absurd h (by decide)
def alQ (c : Chg) : Int := if chQ c = 0 then (if nthB c = true then 1 else 0) else chQ c
theorem alQ_zero {c : Chg} (h : alQ c = 0) : chQ c = 0 ∧ nthB c = false := by
  unfold alQ at h
  split at h
  · next h0 =>
    refine ⟨h0, ?_⟩
    split at h
    · cases h
    · next h1 => simpa using h1
  · next h0 => exact absurd h h0
theorem alQ_key {c : Chg} (h : alQ c = 0) : (0 ≤ kT c ∧ kT c ≤ 3) ∧ (1 ≤ kK c ∧ kK c ≤ 99) := by
  obtain ⟨h1, h2, h3, h4⟩ := chQ_zero (alQ_zero h).1
  unfold kT kK
  by_cases hi : c.is = true
  · rw [if_pos hi, if_pos hi]; exact rwF_zero (h4 hi)
  · rw [if_neg hi, if_neg hi]
    exact rwF_zero (h3 (h1.resolve_right hi))
set_option maxHeartbeats 400000 in
theorem keyOf_any (t k v : Int) (st : ByteArray) (w : World) :
    Calls Try.prog 93 #[.agg #[.int .i64 t, .int .i64 k, .int .i64 v, .string st]] w fun e w' => e = .returned (.agg #[.int .i64 t, .int .i64 k]) ∧ Below w.heap.size w w' := by
  go_enter Try.func93, Try.ntmps93
  go_wp2
  go_returns
  exact ⟨rfl, by go_grown⟩


end Go.Proofs.Ytmboclfgldgefaa


