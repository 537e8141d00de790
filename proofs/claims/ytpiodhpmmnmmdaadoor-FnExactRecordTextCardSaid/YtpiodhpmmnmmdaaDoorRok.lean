/-
  What a record without a fault keeps.
-/
import Derived.Test.YtpiodhpmmnmmdaaDoorRed
namespace Go.Proofs.YtpiodhpmmnmmdaaDoor
open Go.RowKit
set_option linter.unusedVariables false

theorem rfFrom_all {P : Nat → Int} {Z : Nat → List Int} : ∀ m j, rfFrom P Z m j = 0 → ∀ i, j ≤ i → i < j + m → runQ (P i) (Z i).length (lst P Z i) = 0
  | 0, j, _, i, h1, h2 => by omega
  | m + 1, j, h, i, h1, h2 => by
    simp only [rfFrom] at h
    split at h
    · rename_i h0
      by_cases e : i = j
      · rw [e]; exact h0
      · exact rfFrom_all m (j + 1) h i (by omega) (by omega)
    · rename_i h0
      exact absurd h h0

/-- What runs without a fault keep. -/
theorem rf_ok {n : Nat} {P : Nat → Int} {Z : Nat → List Int} (h : rfQ n P Z = 0) : n ≤ 32 ∧ (∀ i, i < n → 0 ≤ P i ∧ 1 ≤ (Z i).length ∧ P i + (Z i).length ≤ 64 ∧ lst P Z i ≤ P i) ∧ took Z n + n ≤ 65 := by
  have hall : ∀ i, i < n → 0 ≤ P i ∧ 1 ≤ (Z i).length ∧ P i + (Z i).length ≤ 64 ∧ lst P Z i ≤ P i := by
    unfold rfQ at h
    split at h
    · cases h
    · exact fun i hi => runQ_zero (rfFrom_all n 0 h i (by omega) (by omega))
  have hup : ∀ j, j ≤ n → ((took Z j + j : Nat) : Int) ≤ lst P Z j ∧ j ≤ took Z j := by
    intro j
    induction j with
    | zero => intro _; simp [took, lst]
    | succ j ih =>
      intro hj
      have h1 := ih (by omega)
      have h2 := hall j (by omega)
      simp only [took, lst]
      omega
  have hn := hup n (Nat.le_refl _)
  have hl : n = 0 ∨ lst P Z n ≤ 65 := by
    cases n with
    | zero => exact .inl rfl
    | succ m =>
      have h2 := hall m (by omega)
      right
      simp only [lst]
      omega
  rcases hl with rfl | hl
  · exact ⟨by omega, hall, by simp [took]⟩
  · exact ⟨by omega, hall, by omega⟩

theorem or2_zero {x y : Int} (h : or2 x y = 0) : x = 0 ∧ y = 0 := by
  unfold or2 at h
  split at h
  · rename_i e; exact ⟨e, h⟩
  · rename_i e; exact absurd h e
theorem txQ_zero {x : Int} (h : txQ x = 0) : 1 ≤ x ∧ x ≤ 99 := by
  unfold txQ at h
  split at h
  · rename_i e; simpa [inR] using e
  · cases h
theorem pgQ_zero {x : Int} (h : pgQ x = 0) : 0 ≤ x ∧ x ≤ 11 := by
  unfold pgQ at h
  split at h
  · rename_i e; simpa [inR] using e
  · cases h

/-- What a record without a fault keeps. -/
theorem rec_ok {k tx pg : Int} {n : Nat} {P : Nat → Int} {Z : Nat → List Int} (h : recQ k tx pg n P Z = 0) : 1 ≤ k ∧ k ≤ 6 ∧ 0 ≤ tx ∧ tx ≤ 99 ∧ 0 ≤ pg ∧ pg ≤ 11 ∧ rfQ n P Z = 0 := by
  unfold recQ at h
  split at h
  · rename_i hk
    split at h
    · cases h
    · rename_i hm
      have ht := txQ_zero h
      have hm2 : pg = 0 ∧ n = 0 := by simp [muchB] at hm; omega
      obtain ⟨rfl, rfl⟩ := hm2
      exact ⟨by omega, by omega, by omega, by omega, by omega, by omega, rfl⟩
  · split at h
    · rename_i hk
      unfold deQ at h
      split at h
      · rename_i e
        obtain ⟨e1, e2⟩ := or2_zero e
        obtain ⟨e2, e3⟩ := or2_zero e2
        have ht := txQ_zero e1
        have hp := pgQ_zero e2
        exact ⟨by omega, by omega, by omega, by omega, by omega, by omega, e3⟩
      · rename_i e; exact absurd h e
    · split at h
      · rename_i hk
        split at h
        · cases h
        · rename_i ht
          unfold imQ at h
          split at h
          · rename_i e
            obtain ⟨e2, e3⟩ := or2_zero e
            have hp := pgQ_zero e2
            have ht : tx = 0 := by omega
            exact ⟨by omega, by omega, by omega, by omega, by omega, by omega, e3⟩
          · rename_i e; exact absurd h e
      · cases h

end Go.Proofs.YtpiodhpmmnmmdaaDoor
