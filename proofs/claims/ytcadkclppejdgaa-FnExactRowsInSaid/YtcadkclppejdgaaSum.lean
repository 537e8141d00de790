/-
  Plain facts: in a page without a fault the cells and the directory together are not longer than the page.
-/
import Derived.Test.YtcadkclppejdgaaLawA
namespace Go.Proofs.Ytcadkclppejdgaa
open Go.RowKit
set_option linter.unusedVariables false

/-- How many of the first m places are so? -/
def cN (f : Nat → Bool) : Nat → Nat
  | 0 => 0
  | m + 1 => cN f m + if f m = true then 1 else 0

theorem cN_or (f g : Nat → Bool) : ∀ m, (∀ i, i < m → ¬ (f i = true ∧ g i = true)) → cN (fun i => f i || g i) m = cN f m + cN g m
  | 0, _ => rfl
  | m + 1, h => by
    rw [cN, cN, cN, cN_or f g m (fun i hi => h i (by omega))]
    have := h m (by omega)
    cases hf : f m <;> cases hg : g m <;> simp_all <;> omega
theorem cN_mono (f g : Nat → Bool) : ∀ m, (∀ i, i < m → f i = true → g i = true) → cN f m ≤ cN g m
  | 0, _ => Nat.le_refl _
  | m + 1, h => by
    rw [cN, cN]
    have h1 := cN_mono f g m (fun i hi => h i (by omega))
    have h2 := h m (by omega)
    cases hf : f m
    · simp; omega
    · simp [h2 hf]; omega
theorem cN_in (p l : Nat) : ∀ m, cN (fun i => decide (p ≤ i) && decide (i < p + l)) m = min m (p + l) - min m p
  | 0 => by simp [cN]
  | m + 1 => by
    rw [cN, cN_in p l m]
    by_cases h : p ≤ m ∧ m < p + l
    · rw [if_pos (by simp [h])]; omega
    · rw [if_neg (by simpa using h)]; omega
theorem cN_ge (p : Nat) : ∀ m, cN (fun i => decide (p ≤ i)) m = m - p
  | 0 => by simp [cN]
  | m + 1 => by
    rw [cN, cN_ge p m]
    by_cases h : p ≤ m
    · rw [if_pos (by simpa using h)]; omega
    · rw [if_neg (by simpa using h)]; omega

/-- What a page without a fault is. -/
structure Fine (zs : List Int) : Prop where
  pg : IsPg zs
  few : nb zs 0 ≤ 16
  dir : 2 + 2 * nb zs 0 ≤ nb zs 1
  low : nb zs 1 ≤ 64
  ok : ∀ s, s < nb zs 0 → wrgS zs s = false
  com : comB zs (nb zs 0) = false
  ends : endB zs = false

theorem fine_of {zs : List Int} (hz : ∀ z ∈ zs, 0 ≤ z ∧ z ≤ 255) (h : fltOf zs = 0) : Fine zs := by
  unfold fltOf at h
  split at h
  · rename_i hl
    unfold faultP at h
    split at h
    · cases h
    · rename_i h1
      split at h
      · cases h
      · rename_i h2
        split at h
        · cases h
        · rename_i h3
          simp only [headB, Bool.or_eq_true, decide_eq_true_eq, not_or, Nat.not_lt] at h1
          simp only [Bool.or_eq_true, not_or, Bool.not_eq_true] at h3
          exact ⟨⟨hl, hz⟩, h1.1.1, h1.1.2, h1.2, wrgN_at zs _ (by simpa using h2), h3.1, h3.2⟩
  · cases h

theorem Fine.place {zs : List Int} (h : Fine zs) (s : Nat) (hs : s < nb zs 0) : (nb zs (2 + 2 * s) = 0 ∧ nb zs (3 + 2 * s) = 0) ∨ (nb zs (2 + 2 * s) ≠ 0 ∧ nb zs (3 + 2 * s) ≠ 0 ∧ nb zs 1 ≤ nb zs (2 + 2 * s) ∧ nb zs (2 + 2 * s) + nb zs (3 + 2 * s) ≤ 64) := by
  have h1 := h.ok s hs
  unfold wrgS wrongB at h1
  by_cases e : nb zs (2 + 2 * s) = 0 ∧ nb zs (3 + 2 * s) = 0
  · exact .inl e
  · have : (nb zs (2 + 2 * s) == 0 && nb zs (3 + 2 * s) == 0) = false := by simp; omega
    rw [this] at h1
    simp at h1
    exact .inr (by omega)
theorem Fine.end64 {zs : List Int} (h : Fine zs) (s : Nat) (hs : s < nb zs 0) : nb zs (2 + 2 * s) + nb zs (3 + 2 * s) ≤ 64 := by rcases h.place s hs with h1 | h1 <;> omega

theorem comB_at (zs : List Int) : ∀ k, comB zs k = false → ∀ s, s < k → hitB zs s = false
  | 0, _, s, hs => by omega
  | k + 1, h, s, hs => by
    rw [comB, Bool.or_eq_false_iff] at h
    by_cases e : s = k
    · rw [e]; exact h.2
    · exact comB_at zs k h.1 s (by omega)

theorem Fine.count {zs : List Int} (h : Fine zs) : ∀ k, k ≤ nb zs 0 → cN (usedB zs k) 64 = lens zs k
  | 0, _ => by
    have : ∀ m, cN (usedB zs 0) m = 0 := fun m => by
      induction m with
      | zero => rfl
      | succ m ih => rw [cN, ih]; rfl
    exact this 64
  | k + 1, hk => by
    have e : usedB zs (k + 1) = fun i => usedB zs k i || inB zs k i := by funext i; rfl
    have hh := comB_at zs _ h.com k (by omega)
    have he := h.end64 k (by omega)
    rw [e, cN_or, h.count k (by omega), lens]
    · congr 1
      have := cN_in (nb zs (2 + 2 * k)) (nb zs (3 + 2 * k)) 64
      show cN (fun i => decide (nb zs (2 + 2 * k) ≤ i) && decide (i < nb zs (2 + 2 * k) + nb zs (3 + 2 * k))) 64 = _
      rw [this]
      omega
    · intro i hi hc
      unfold hitB at hh
      rw [List.any_eq_false] at hh
      have := hh i (by simpa using hi)
      rw [hc.1, hc.2] at this
      simp at this

theorem Fine.sum {zs : List Int} (h : Fine zs) : 2 + 2 * nb zs 0 + lens zs (nb zs 0) ≤ 64 := by
  have h1 := cN_mono (usedB zs (nb zs 0)) (fun i => decide (nb zs 1 ≤ i)) 64 (fun i hi hu => by
    obtain ⟨s, hs, hin⟩ := (used_iff zs i _).1 hu
    have h2 := (in_iff zs s i).1 hin
    rcases h.place s hs with h3 | h3
    · omega
    · simp; omega)
  rw [cN_ge, h.count _ (Nat.le_refl _)] at h1
  have h2 := h.dir
  have h3 := h.low
  omega

end Go.Proofs.Ytcadkclppejdgaa

