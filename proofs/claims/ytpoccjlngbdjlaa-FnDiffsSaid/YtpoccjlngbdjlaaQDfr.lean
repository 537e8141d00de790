/-
  Plain facts: the runs of what differs have no fault, theirs the other way round neither; how many bytes they hold.
-/
import Derived.Test.YtpoccjlngbdjlaaQDfq
import Derived.Test.YtpoccjlngbdjlaaQDif

namespace Go.Proofs.Ytpoccjlngbdjlaa
open Go.RowKit Go.Shelf
set_option linter.unusedVariables false

theorem rfFrom_of {P : Nat → Int} {Z : Nat → List Int} : ∀ k j, (∀ i, j ≤ i → i < j + k → runQ (P i) (Z i).length (lst P Z i) = 0) → rfFrom P Z k j = 0
  | 0, _, _ => rfl
  | k + 1, j, h => by
    simp only [rfFrom]
    rw [if_pos (h j (Nat.le_refl _) (by omega))]
    exact rfFrom_of k (j + 1) (fun i h0 h1 => h i (by omega) (by omega))

theorem inc_few : ∀ {L : List (Nat × Nat)} {k : Nat}, Inc k L → L = [] ∨ k + 2 * L.length ≤ 66
  | [], _, _ => .inl rfl
  | s :: L, k, h => by
    obtain ⟨h0, h1, h2, h3⟩ := h
    rcases inc_few h3 with e | e
    · rw [e]; simp only [List.length_cons, List.length_nil]; omega
    · simp only [List.length_cons]; omega
theorem inc_at : ∀ {L : List (Nat × Nat)} {k : Nat}, Inc k L → ∀ i (h : i < L.length), 1 ≤ L[i].2 ∧ L[i].1 + L[i].2 ≤ 64 ∧ ∀ (h' : i + 1 < L.length), L[i].1 + L[i].2 + 1 ≤ L[i + 1].1
  | [], _, _, i, h => by simp at h
  | s :: L, k, hI, i, h => by
    obtain ⟨h0, h1, h2, h3⟩ := hI
    match i, h with
    | 0, _ =>
      refine ⟨h1, h2, fun h' => ?_⟩
      match L, h3, h' with
      | t :: L, h3, _ => exact h3.1
    | i + 1, h =>
      have := inc_at h3 i (by simpa using h)
      exact ⟨this.1, this.2.1, fun h' => this.2.2 (by simpa using h')⟩

theorem runQ_of {p : Int} {m : Nat} {least : Int} (h0 : 0 ≤ p) (h1 : 1 ≤ m) (h2 : p + m ≤ 64) (h3 : least ≤ p) : runQ p m least = 0 := by
  unfold runQ inR
  rw [if_pos (by simp; omega), if_pos (by simp; omega), if_neg (by omega), if_neg (by omega)]

theorem rZ_len {zs : List Int} (hz : zs.length = 64) {L : List (Nat × Nat)} {k : Nat} (hI : Inc k L) (i : Nat) (h : i < L.length) : (rZ zs L i).length = L[i].2 := by
  have := inc_at hI i h
  rw [rZ_at zs L i h]
  simp
  omega

theorem rf_inc {zs : List Int} (hz : zs.length = 64) {L : List (Nat × Nat)} (hI : Inc 0 L) : rfQ L.length (rP L) (rZ zs L) = 0 := by
  have hf : L.length ≤ 64 := by
    rcases inc_few hI with e | e
    · rw [e]; simp
    · omega
  unfold rfQ
  rw [if_neg (by omega)]
  refine rfFrom_of _ _ (fun i h0 h1 => ?_)
  have hi : i < L.length := by omega
  have ha := inc_at hI i hi
  rw [rZ_len hz hI i hi, rP_at L i hi]
  refine runQ_of (by omega) ha.1 (by omega) ?_
  match i, hi with
  | 0, _ => exact Int.natCast_nonneg _
  | j + 1, hi =>
    have hb := (inc_at hI j (by omega)).2.2 hi
    show rP L j + (rZ zs L j).length + 1 ≤ _
    rw [rZ_len hz hI j (by omega), rP_at L j (by omega)]
    omega
theorem rf_dn {za zb zs : List Int} (hz : zs.length = 64) : rfQ (dn za zb 64 0).length (rP (dn za zb 64 0)) (rZ zs (dn za zb 64 0)) = 0 := rf_inc hz (dn_inc za zb 0)

theorem iv_dn {za zb : List Int} (hb : zb.length = 64) (i : Nat) (h : i < (dn za zb 64 0).length) : ivZ za (rP (dn za zb 64 0)) (rZ zb (dn za zb 64 0)) i = rZ za (dn za zb 64 0) i := by
  unfold ivZ
  rw [rZ_len hb (dn_inc za zb 0) i h, rP_at _ i h, rZ_at za _ i h]
  simp

theorem took_lens {zs : List Int} (hz : zs.length = 64) {L : List (Nat × Nat)} (hI : Inc 0 L) : ∀ k, k ≤ L.length → took (rZ zs L) k = lens (L.take k)
  | 0, _ => rfl
  | k + 1, hk => by
    have ih := took_lens hz hI k (by omega)
    simp only [took]
    rw [ih, rZ_len hz hI k (by omega), List.take_add_one, List.getElem?_eq_getElem (show k < L.length by omega)]
    have ha : ∀ (A B : List (Nat × Nat)), lens (A ++ B) = lens A + lens B := by
      intro A B
      induction A with
      | nil => simp [lens]
      | cons s A ih => simp only [lens, List.cons_append, List.foldr_cons] at ih ⊢; omega
    rw [ha]
    simp [lens]
/-- The runs hold as many bytes as there are places that differ. -/
theorem took_dn {za zb : List Int} (hb : zb.length = 64) : took (rZ zb (dn za zb 64 0)) (dn za zb 64 0).length = dc za zb 64 := by
  rw [took_lens hb (dn_inc za zb 0) _ (Nat.le_refl _), List.take_length]
  have := lens_dn za zb 64 0 (by omega)
  have h0 : dc za zb 0 = 0 := rfl
  rw [h0] at this
  omega

/-- What DiffBytes, ApplyRuns and InverseRuns answer of two pages. -/
theorem diff_dn {za zb : List Int} (ha : za.length = 64) (hb : zb.length = 64) : dfQ za zb = 0 ∧ dfN za zb = (dn za zb 64 0).length ∧ spP (dS za zb 0) = rP (dn za zb 64 0) ∧ spZ zb (dS za zb 0) = rZ zb (dn za zb 64 0) := by
  refine ⟨if_pos ⟨ha, hb⟩, ?_, by rw [rP_sp, dS_dn], by rw [rZ_sp, dS_dn]⟩
  unfold dfN
  rw [if_pos ⟨ha, hb⟩, ← dS_dn, List.length_map]
theorem apply_dn {za zb : List Int} (ha : za.length = 64) (hb : zb.length = 64) : apQ za (dn za zb 64 0).length (rP (dn za zb 64 0)) (rZ zb (dn za zb 64 0)) = 0 ∧ apB za (dn za zb 64 0).length (rP (dn za zb 64 0)) (rZ zb (dn za zb 64 0)) = zb := by
  have h : apQ za (dn za zb 64 0).length (rP (dn za zb 64 0)) (rZ zb (dn za zb 64 0)) = 0 := by unfold apQ; rw [if_pos ha, rf_dn hb]
  refine ⟨h, ?_⟩
  unfold apB
  rw [if_pos h, apP_dn ha hb]
theorem back_dn {za zb : List Int} (ha : za.length = 64) (hb : zb.length = 64) : apQ zb (dn za zb 64 0).length (rP (dn za zb 64 0)) (rZ za (dn za zb 64 0)) = 0 ∧ apB zb (dn za zb 64 0).length (rP (dn za zb 64 0)) (rZ za (dn za zb 64 0)) = za := by
  have h : apQ zb (dn za zb 64 0).length (rP (dn za zb 64 0)) (rZ za (dn za zb 64 0)) = 0 := by unfold apQ; rw [if_pos hb, rf_dn ha]
  refine ⟨h, ?_⟩
  unfold apB
  rw [if_pos h, apP_back ha hb]

end Go.Proofs.Ytpoccjlngbdjlaa
