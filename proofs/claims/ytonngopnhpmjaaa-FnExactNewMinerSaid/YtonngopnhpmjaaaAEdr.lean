/-
  Runs in memory: what a slice of runs holds; szRunS.
-/
import Derived.Test.YtonngopnhpmjaaaARowB
import Derived.Test.YtonngopnhpmjaaaAPgs

namespace Go.Proofs.Ytonngopnhpmjaaa
open Go.RowKit
set_option linter.unusedVariables false

/-- The slice that begins at a reads as n runs: of the i-th the place P i and the bytes Z i, which stand at A i, with the capacity C i. -/
def RunsRead (w : World) (a : Option Addr) (n : Nat) (P : Nat → Int) (A : Nat → Option Addr) (C : Nat → Nat) (Z : Nat → List Int) : Prop :=
  n = 0 ∨ ∃ b off, a = some ⟨b, off, none⟩ ∧ (∀ i, i < n → w.cell? ⟨b, off + i * 2, none⟩ = some (.int .i64 (P i)) ∧ w.cell? ⟨b, off + i * 2 + 1, none⟩ = some (.slice (A i) (Z i).length (C i)) ∧ Reads w (A i) (Z i))

theorem RunsRead.below {w w' : World} {a : Option Addr} {n : Nat} {P : Nat → Int} {A : Nat → Option Addr} {C : Nat → Nat} {Z : Nat → List Int} (h : RunsRead w a n P A C Z) {B : Nat} (hb : Below B w w') (hB : w.heap.size ≤ B) : RunsRead w' a n P A C Z := by
  rcases h with h | ⟨b, off, ha, hc⟩
  · exact .inl h
  · refine .inr ⟨b, off, ha, fun i hi => ?_⟩
    obtain ⟨h0, h1, h2⟩ := hc i hi
    exact ⟨(hb.cell (p := ⟨b, _, none⟩) (Nat.lt_of_lt_of_le (World.block_lt_of_cell? w _ h0) hB)).trans h0, (hb.cell (p := ⟨b, _, none⟩) (Nat.lt_of_lt_of_le (World.block_lt_of_cell? w _ h1) hB)).trans h1, h2.below hb hB⟩

/-- How much the first k runs take. -/
def took (Z : Nat → List Int) : Nat → Nat
  | 0 => 0
  | k + 1 => took Z k + (Z k).length

theorem took_mono (Z : Nat → List Int) (k n : Nat) (h : k ≤ n) : took Z k ≤ took Z n := by
  induction n with
  | zero => have : k = 0 := by omega
            subst this; exact Nat.le_refl _
  | succ n ih =>
    by_cases e : k = n + 1
    · subst e; exact Nat.le_refl _
    · have := ih (by omega); simp only [took]; omega
theorem took_one (Z : Nat → List Int) (k n : Nat) (h : k < n) : (Z k).length ≤ took Z n := by
  have := took_mono Z (k + 1) n h
  simp only [took] at this
  omega

end Go.Proofs.Ytonngopnhpmjaaa
