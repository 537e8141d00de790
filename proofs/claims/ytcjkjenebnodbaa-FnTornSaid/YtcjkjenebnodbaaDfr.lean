/-
  Plain facts: spans are few, and their bytes.
-/
import Derived.Test.YtcjkjenebnodbaaDfp
namespace Go.Proofs.Ytcjkjenebnodbaa.Df
open Go.RowKit
set_option linter.unusedVariables false

/-- Spans rise from k on, none touches the next, none goes past 64. -/
def Inc : Nat → List (Nat × Nat) → Prop
  | _, [] => True
  | k, s :: L => k ≤ s.1 ∧ 1 ≤ s.2 ∧ s.1 + s.2 ≤ 64 ∧ Inc (s.1 + s.2 + 1) L
theorem Inc.mono {k j : Nat} (hkj : j ≤ k) : ∀ {L}, Inc k L → Inc j L
  | [], _ => trivial
  | s :: L, h => ⟨Nat.le_trans hkj h.1, h.2⟩

theorem dn_inc (za zb : List Int) (k : Nat) : Inc k (dn za zb 64 k) := by
  by_cases h : k < 64
  · have hle := rn_le za zb 64 k (Nat.le_of_lt h)
    by_cases h1 : 1 ≤ rn za zb 64 k
    · rw [dn_span h h1]
      exact ⟨Nat.le_refl _, h1, hle, dn_inc za zb _⟩
    · rw [dn_none h (by omega)]
      exact (dn_inc za zb (k + 1)).mono (by omega)
  · rw [dn_end h]
    trivial
termination_by 64 - k
decreasing_by all_goals omega

theorem rn_all (za zb : List Int) (N k j : Nat) (h0 : k ≤ j) (h1 : j < k + rn za zb N k) : byt za j ≠ byt zb j := by
  by_cases h : k < N ∧ byt za k ≠ byt zb k
  · by_cases e : j = k
    · rw [e]; exact h.2
    · rw [rn_diff h.1 h.2] at h1
      exact rn_all za zb N (k + 1) j (by omega) (by omega)
  · have : rn za zb N k = 0 := by rw [rn, dif_neg h]
    omega
termination_by N - k
decreasing_by omega

theorem rP_at (L : List (Nat × Nat)) (i : Nat) (h : i < L.length) : rP L i = (L[i].1 : Nat) := by simp [rP, List.getD, List.getElem?_eq_getElem h]
theorem rZ_at (zs : List Int) (L : List (Nat × Nat)) (i : Nat) (h : i < L.length) : rZ zs L i = (zs.drop L[i].1).take L[i].2 := by simp [rZ, List.getD, List.getElem?_eq_getElem h]
/-- How many places ahead of j differ. -/
def dc (za zb : List Int) : Nat → Nat
  | 0 => 0
  | j + 1 => dc za zb j + (if byt za j ≠ byt zb j then 1 else 0)
theorem dc_run (za zb : List Int) (k : Nat) : ∀ m, (∀ j, k ≤ j → j < k + m → byt za j ≠ byt zb j) → dc za zb (k + m) = dc za zb k + m
  | 0, _ => rfl
  | m + 1, h => by
    have ih := dc_run za zb k m (fun j h0 h1 => h j h0 (by omega))
    show dc za zb (k + m) + (if byt za (k + m) ≠ byt zb (k + m) then 1 else 0) = dc za zb k + (m + 1)
    rw [if_pos (h (k + m) (by omega) (by omega)), ih]
    omega
def lens (L : List (Nat × Nat)) : Nat := L.foldr (fun s n => s.2 + n) 0
theorem lens_dn (za zb : List Int) (N k : Nat) (hk : k ≤ N) : dc za zb k + lens (dn za zb N k) = dc za zb N := by
  by_cases h : k < N
  · have hle := rn_le za zb N k (Nat.le_of_lt h)
    have hst := rn_stop za zb N k (Nat.le_of_lt h)
    have hrun := dc_run za zb k (rn za zb N k) (fun j h0 h1 => rn_all za zb N k j h0 h1)
    by_cases h1 : 1 ≤ rn za zb N k
    · rw [dn_span h h1]
      show dc za zb k + (rn za zb N k + lens (dn za zb N (k + rn za zb N k + 1))) = _
      by_cases he : k + rn za zb N k = N
      · rw [dn_end (by omega)]
        show dc za zb k + (rn za zb N k + 0) = _
        have e2 : dc za zb N = dc za zb (k + rn za zb N k) := by rw [he]
        omega
      · have h4 : byt za (k + rn za zb N k) = byt zb (k + rn za zb N k) := hst.resolve_left he
        have ih := lens_dn za zb N (k + rn za zb N k + 1) (by omega)
        have e : dc za zb (k + rn za zb N k + 1) = dc za zb (k + rn za zb N k) := by
          show dc za zb (k + rn za zb N k) + _ = _
          rw [if_neg (fun hh => hh h4)]
          omega
        omega
    · have h0 : rn za zb N k = 0 := by omega
      rw [dn_none h h0]
      have h4 : byt za k = byt zb k := by
        rcases hst with h4 | h4
        · omega
        · rw [h0] at h4; exact h4
      have ih := lens_dn za zb N (k + 1) (by omega)
      have e : dc za zb (k + 1) = dc za zb k := by
        show dc za zb k + _ = _
        rw [if_neg (fun hh => hh h4)]
        omega
      omega
  · rw [dn_end h]
    have : k = N := by omega
    rw [this]; rfl
termination_by N - k
decreasing_by all_goals omega

theorem inc_few : ∀ {L : List (Nat × Nat)} {k : Nat}, Inc k L → L = [] ∨ k + 2 * L.length ≤ 66
  | [], _, _ => .inl rfl
  | s :: L, k, h => by
    obtain ⟨h0, h1, h2, h3⟩ := h
    rcases inc_few h3 with e | e
    · rw [e]; simp only [List.length_cons, List.length_nil]; omega
    · simp only [List.length_cons]; omega
theorem inc_at : ∀ {L : List (Nat × Nat)} {k : Nat}, Inc k L → ∀ i (h : i < L.length), 1 ≤ L[i].2 ∧ L[i].1 + L[i].2 ≤ 64 ∧ ∀ (h' : i + 1 < L.length), L[i].1 + L[i].2 + 1 ≤ L[i + 1].1
  | [], _, _, i, h => by simp at h
  | s :: L, k, hI, i, h => by
    obtain ⟨h0, h1, h2, h3⟩ := hI
    match i, h with
    | 0, _ =>
      refine ⟨h1, h2, fun h' => ?_⟩
      match L, h3, h' with
      | t :: L, h3, _ => exact h3.1
    | i + 1, h =>
      have := inc_at h3 i (by simpa using h)
      exact ⟨this.1, this.2.1, fun h' => this.2.2 (by simpa using h')⟩

theorem rZ_len {zs : List Int} (hz : zs.length = 64) {L : List (Nat × Nat)} {k : Nat} (hI : Inc k L) (i : Nat) (h : i < L.length) : (rZ zs L i).length = L[i].2 := by
  have := inc_at hI i h
  rw [rZ_at zs L i h]
  simp
  omega

theorem took_lens {zs : List Int} (hz : zs.length = 64) {L : List (Nat × Nat)} (hI : Inc 0 L) : ∀ k, k ≤ L.length → took (rZ zs L) k = lens (L.take k)
  | 0, _ => rfl
  | k + 1, hk => by
    have ih := took_lens hz hI k (by omega)
    simp only [took]
    rw [ih, rZ_len hz hI k (by omega), List.take_add_one, List.getElem?_eq_getElem (show k < L.length by omega)]
    have ha : ∀ (A B : List (Nat × Nat)), lens (A ++ B) = lens A + lens B := by
      intro A B
      induction A with
      | nil => simp [lens]
      | cons s A ih => simp only [lens, List.cons_append, List.foldr_cons] at ih ⊢; omega
    rw [ha]
    simp [lens]
/-- The runs hold as many bytes as there are places that differ. -/
theorem took_dn {za zb : List Int} (hb : zb.length = 64) : took (rZ zb (dn za zb 64 0)) (dn za zb 64 0).length = dc za zb 64 := by
  rw [took_lens hb (dn_inc za zb 0) _ (Nat.le_refl _), List.take_length]
  have := lens_dn za zb 64 0 (by omega)
  have h0 : dc za zb 0 = 0 := rfl
  rw [h0] at this
  omega


end Go.Proofs.Ytcjkjenebnodbaa.Df
