/-
  Plain facts: what is free behind a cell was put, and behind a page was compacted.
-/
import Derived.Test.YtjbopcplpgoiaaaKec
namespace Go.Proofs.Ytjbopcplpgoiaaa
set_option linter.unusedVariables false

theorem lens_same {zs ys : List Int} : ∀ k, (∀ j, j < k → ln ys j = ln zs j) → lens ys k = lens zs k
  | 0, _ => rfl
  | k + 1, h => by
    have h1 := h k (by omega)
    simp only [ln] at h1
    rw [lens, lens, lens_same k (fun j hj => h j (by omega)), h1]

theorem lens_point {zs ys : List Int} (s : Nat) : ∀ k, s < k → (∀ j, j < k → j ≠ s → ln ys j = ln zs j) → lens ys k + ln zs s = lens zs k + ln ys s
  | 0, h, _ => by omega
  | k + 1, h, he => by
    by_cases e : s = k
    · subst e
      have := lens_same (zs := zs) (ys := ys) s (fun j hj => he j (by omega) (by omega))
      simp only [lens, ln]
      omega
    · have ih := lens_point s k (by omega) (fun j hj hn => he j (by omega) hn)
      have h1 := he k (by omega) (by omega)
      simp only [ln] at h1 ih ⊢
      simp only [lens]
      omega

theorem firstE_emp (zs : List Int) : ∀ m k, firstE zs k m < k + m → empB zs (firstE zs k m) = true
  | 0, k, h => by simp [firstE] at h
  | m + 1, k, h => by
    rw [firstE] at h ⊢
    split
    · assumption
    · rename_i he
      rw [if_neg he] at h
      exact firstE_emp zs m (k + 1) (by omega)

theorem putS_emp {zs : List Int} (h : putS zs < nb zs 0) : empB zs (putS zs) = true := by
  have := firstE_emp zs (nb zs 0) 0
  rw [Nat.zero_add] at this
  exact this h

/-- What is free behind a cell was put: its bytes less, and two more where its slot is new. -/
theorem free_put {zs cs : List Int} (h : Fine zs) (h1 : 1 ≤ cs.length) (hq : putQ zs cs.length = 0) : freeN (putP zs cs) + cs.length + putMore zs = freeN zs ∧ nb (putP zs cs) 0 = putM zs := by
  have hd := h.dirs
  have hle := putS_le zs
  have hlow := hd.low
  have hfew := hd.few
  have hsum := h.sum
  have hq' : ¬ (putS zs = nb zs 0 ∧ 16 ≤ nb zs 0) ∧ cs.length + putMore zs ≤ freeN zs ∧ cs.length + (2 + 2 * putM zs) ≤ nb zs 1 := by
    unfold putQ at hq
    split at hq
    · cases hq
    · split at hq
      · cases hq
      · split at hq
        · cases hq
        · exact ⟨by assumption, by omega, by omega⟩
  obtain ⟨a1, a2, a3⟩ := hq'
  have hM : putM zs = nb zs 0 ∧ putS zs < nb zs 0 ∧ putMore zs = 0 ∨ putM zs = nb zs 0 + 1 ∧ putS zs = nb zs 0 ∧ putMore zs = 2 := by
    unfold putM putMore
    split <;> omega
  have S := stood zs cs (putM zs) (nb zs 1 - cs.length) (putS zs) (nb zs 1 - cs.length) h.pg.len (by omega) (by omega) (by omega)
  rw [putP_stand]
  refine ⟨?_, S.h0⟩
  unfold freeN at a2 ⊢
  rw [S.h0]
  rcases hM with ⟨m1, m2, m3⟩ | ⟨m1, m2, m3⟩
  · have hz := (emp_zero (putS_emp m2)).2
    have hp := lens_point (zs := zs) (putS zs) (nb zs 0) m2 (fun j hj hn => S.ol j hn (by omega))
    rw [S.hl, hz] at hp
    rw [m1] at hp ⊢
    rw [m3] at a2 ⊢
    omega
  · have hp := lens_same (zs := zs) (nb zs 0) (fun j hj => S.ol j (by omega) (by omega))
    have hl := S.hl
    rw [m2] at hp hl
    simp only [ln] at hl
    rw [m1] at hp hl ⊢
    rw [m3] at a2 ⊢
    rw [m2]
    simp only [lens]
    omega

/-- A compacted page has as much free as before. -/
theorem free_compact {zs : List Int} (h : Fine zs) : freeN (cpP zs (nb zs 0)) = freeN zs := by
  have C := cps_all h (nb zs 0) (Nat.le_refl _)
  unfold freeN
  rw [C.h0, lens_same (nb zs 0) (fun j hj => ?_)]
  cases he : empB zs j
  · exact (C.used j hj he).2.1
  · rw [(C.emp j hj (.inr he)).2, (emp_zero he).2]

theorem emp_compact {zs : List Int} (h : Fine zs) (j : Nat) (hj : j < nb zs 0) : empB (cpP zs (nb zs 0)) j = empB zs j := by
  have C := cps_all h (nb zs 0) (Nat.le_refl _)
  cases he : empB zs j
  · have h1 := (C.used j hj he).2.1
    have h2 := emp_ln h hj he
    simp only [ln] at h1 h2
    unfold empB
    rw [h1]
    simp [h2]
  · have h1 := C.emp j hj (.inr he)
    simp only [pl, ln] at h1
    unfold empB
    rw [h1.1, h1.2]
    rfl

/-- A compacted page that is compacted again stays. -/
theorem compact_twice {zs : List Int} (h : Fine zs) : ∀ k, k ≤ nb zs 0 → cpP (cpP zs (nb zs 0)) k = cpP zs k
  | 0, _ => by
    have C := cps_all h (nb zs 0) (Nat.le_refl _)
    have hb := both_all h (nb zs 0) (Nat.le_refl _)
    have e : byt (cpP zs (nb zs 0)) 0 = byt zs 0 := by rw [nb_byt hb.pg, nb_byt h.pg, C.h0]
    rw [cpP, cpP, e]
  | k + 1, hk => by
    have C := cps_all h (nb zs 0) (Nat.le_refl _)
    rw [cpP, cpP, emp_compact h k (by omega), compact_twice h k (by omega)]
    cases he : empB zs k
    · rw [(C.used k (by omega) he).2.2]
    · rfl

end Go.Proofs.Ytjbopcplpgoiaaa
