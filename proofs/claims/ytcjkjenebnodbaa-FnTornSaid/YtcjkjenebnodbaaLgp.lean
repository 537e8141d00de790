/-
  Plain facts on the records that stand one behind the other in bytes.
-/
import Derived.Test.YtcjkjenebnodbaaIrr
namespace Go.Proofs.Ytcjkjenebnodbaa
set_option linter.unusedVariables false

/-- Where the j-th record begins. -/
def lp (zs : List Int) : Nat → Nat
  | 0 => 0
  | j + 1 => lp zs j + len0 (zs.drop (lp zs j))
/-- The bytes from the j-th record on. -/
def from' (zs : List Int) (j : Nat) : List Int := zs.drop (lp zs j)
/-- How many records are read, from the j-th on, of at most m. -/
def lgC (zs : List Int) : Nat → Nat → Nat
  | 0, j => j
  | m + 1, j => if OkI (from' zs j) then lgC zs m (j + 1) else j
/-- How many records there are. -/
def lgN (zs : List Int) : Nat := lgC zs zs.length 0
/-- How many bytes they have. -/
def logU (zs : List Int) : Nat := lp zs (lgN zs)

theorem lgC_le (zs : List Int) : ∀ m j, j ≤ lgC zs m j ∧ lgC zs m j ≤ j + m
  | 0, j => ⟨Nat.le_refl _, Nat.le_refl _⟩
  | m + 1, j => by
    simp only [lgC]
    split
    · have := lgC_le zs m (j + 1); omega
    · omega
theorem lgC_ok (zs : List Int) : ∀ m j i, j ≤ i → i < lgC zs m j → OkI (from' zs i)
  | 0, j, i, h1, h2 => by simp only [lgC] at h2; omega
  | m + 1, j, i, h1, h2 => by
    simp only [lgC] at h2
    split at h2
    · rename_i h
      by_cases e : i = j
      · rw [e]; exact h
      · exact lgC_ok zs m (j + 1) i (by omega) h2
    · omega
theorem lgC_end (zs : List Int) : ∀ m j, lgC zs m j < j + m → ¬ OkI (from' zs (lgC zs m j))
  | 0, j, h => by simp only [lgC] at h; omega
  | m + 1, j, h => by
    simp only [lgC] at h ⊢
    split
    · rename_i h1
      rw [if_pos h1] at h
      exact lgC_end zs m (j + 1) (by omega)
    · assumption
theorem lp_grows (zs : List Int) : ∀ j, (∀ i, i < j → OkI (from' zs i)) → 7 * j ≤ lp zs j ∧ lp zs j ≤ zs.length
  | 0, _ => ⟨Nat.le_refl _, Nat.zero_le _⟩
  | j + 1, h => by
    have ih := lp_grows zs j (fun i hi => h i (by omega))
    have h1 := ok_len (h j (by omega))
    have h2 : (from' zs j).length = zs.length - lp zs j := by unfold from'; rw [List.length_drop]
    have h3 : lp zs (j + 1) = lp zs j + len0 (from' zs j) := rfl
    omega
theorem lg_ok (zs : List Int) (i : Nat) (h : i < lgN zs) : OkI (from' zs i) := lgC_ok zs _ 0 i (Nat.zero_le _) h
theorem lp_le (zs : List Int) (j : Nat) (h : j ≤ lgN zs) : 7 * j ≤ lp zs j ∧ lp zs j ≤ zs.length := lp_grows zs j (fun i hi => lg_ok zs i (by omega))
theorem lg_no (zs : List Int) : ¬ OkI (from' zs (lgN zs)) := by
  by_cases h : lgN zs < zs.length
  · exact lgC_end zs zs.length 0 (by unfold lgN at h; omega)
  · have h1 := lp_le zs (lgN zs) (Nat.le_refl _)
    intro hk
    have h3 := hk.1
    have h4 : (from' zs (lgN zs)).length = zs.length - lp zs (lgN zs) := by unfold from'; rw [List.length_drop]
    omega
theorem lg_iff (zs : List Int) (j : Nat) (h : j ≤ lgN zs) : OkI (from' zs j) ↔ j < lgN zs := by
  constructor
  · intro hk
    by_cases e : j = lgN zs
    · rw [e] at hk; exact absurd hk (lg_no zs)
    · omega
  · exact lg_ok zs j
theorem from_len (zs : List Int) (j : Nat) : (from' zs j).length = zs.length - lp zs j := by unfold from'; rw [List.length_drop]
theorem from_bd {zs : List Int} (hz : ∀ z ∈ zs, 0 ≤ z ∧ z ≤ 255) (j : Nat) : ∀ z ∈ from' zs j, 0 ≤ z ∧ z ≤ 255 := fun z h => hz z (List.mem_of_mem_drop h)
theorem uR_from (zs : List Int) (j : Nat) (h : j < lgN zs) : lp zs (j + 1) = lp zs j + uR (from' zs j) ∧ 7 ≤ uR (from' zs j) ∧ uR (from' zs j) ≤ (from' zs j).length := by
  have hk := lg_ok zs j h
  have h1 := ok_len hk
  have e : uR (from' zs j) = len0 (from' zs j) := (rr_yes hk).2.1
  rw [e]
  exact ⟨rfl, h1.2.1, h1.2.2.1⟩
theorem logU_le (zs : List Int) : logU zs ≤ zs.length := (lp_le zs _ (Nat.le_refl _)).2
theorem lgN_le (zs : List Int) : 7 * lgN zs ≤ zs.length := by have := lp_le zs (lgN zs) (Nat.le_refl _); omega
theorem lg_full {zs : List Int} {j : Nat} (h : j ≤ lgN zs) (he : lp zs j = zs.length) : j = lgN zs ∧ logU zs = zs.length := by
  by_cases e : j < lgN zs
  · have h1 := uR_from zs j e
    have h2 := (lp_le zs (j + 1) (by omega)).2
    omega
  · have : j = lgN zs := by omega
    subst this
    exact ⟨rfl, he⟩
theorem lg_torn {zs : List Int} {j : Nat} (h : j = lgN zs) (hl : lp zs j < zs.length) : logU zs ≠ zs.length := by subst h; unfold logU; omega

end Go.Proofs.Ytcjkjenebnodbaa
