/-
  Plain facts: what differs, applied, makes the one page the other; the other way round it takes it back; the spans are as long as there are places that differ.
-/
import Derived.Test.YtpoccjlngbdjlaaQDfp
import Derived.Test.YtpoccjlngbdjlaaQInv

namespace Go.Proofs.Ytpoccjlngbdjlaa
open Go.RowKit Go.Shelf
set_option linter.unusedVariables false

/-- Spans rise from k on, none touches the next, none goes past 64. -/
def Inc : Nat → List (Nat × Nat) → Prop
  | _, [] => True
  | k, s :: L => k ≤ s.1 ∧ 1 ≤ s.2 ∧ s.1 + s.2 ≤ 64 ∧ Inc (s.1 + s.2 + 1) L
theorem Inc.mono {k j : Nat} (hkj : j ≤ k) : ∀ {L}, Inc k L → Inc j L
  | [], _ => trivial
  | s :: L, h => ⟨Nat.le_trans hkj h.1, h.2⟩

theorem dn_inc (za zb : List Int) (k : Nat) : Inc k (dn za zb 64 k) := by
  by_cases h : k < 64
  · have hle := rn_le za zb 64 k (Nat.le_of_lt h)
    by_cases h1 : 1 ≤ rn za zb 64 k
    · rw [dn_span h h1]
      exact ⟨Nat.le_refl _, h1, hle, dn_inc za zb _⟩
    · rw [dn_none h (by omega)]
      exact (dn_inc za zb (k + 1)).mono (by omega)
  · rw [dn_end h]
    trivial
termination_by 64 - k
decreasing_by all_goals omega

/-- A place lies in one of the spans. -/
def cov (L : List (Nat × Nat)) (j : Nat) : Prop := ∃ s ∈ L, s.1 ≤ j ∧ j < s.1 + s.2

theorem rn_all (za zb : List Int) (N k j : Nat) (h0 : k ≤ j) (h1 : j < k + rn za zb N k) : byt za j ≠ byt zb j := by
  by_cases h : k < N ∧ byt za k ≠ byt zb k
  · by_cases e : j = k
    · rw [e]; exact h.2
    · rw [rn_diff h.1 h.2] at h1
      exact rn_all za zb N (k + 1) j (by omega) (by omega)
  · have : rn za zb N k = 0 := by rw [rn, dif_neg h]
    omega
termination_by N - k
decreasing_by omega

theorem cov_dn (za zb : List Int) (N k j : Nat) (hk : k ≤ j) : cov (dn za zb N k) j ↔ j < N ∧ byt za j ≠ byt zb j := by
  by_cases h : k < N
  · have hle := rn_le za zb N k (Nat.le_of_lt h)
    have hst := rn_stop za zb N k (Nat.le_of_lt h)
    by_cases h1 : 1 ≤ rn za zb N k
    · rw [dn_span h h1]
      by_cases hj : j < k + rn za zb N k
      · exact ⟨fun _ => ⟨by omega, rn_all za zb N k j hk hj⟩, fun _ => ⟨_, List.mem_cons_self, hk, hj⟩⟩
      · by_cases hj2 : j = k + rn za zb N k
        · constructor
          · rintro ⟨s, hs, h2, h3⟩
            rcases List.mem_cons.1 hs with rfl | hs
            · exact absurd h3 hj
            · have hlow : ∀ M i, ∀ s ∈ dn za zb N i, M ≤ i → M ≤ s.1 := fun M i s hs hMi => dn_low za zb N i M hMi s hs
              have := hlow (k + rn za zb N k + 1) _ s hs (Nat.le_refl _)
              omega
          · rintro ⟨h2, h3⟩
            rcases hst with h4 | h4
            · omega
            · rw [← hj2] at h4; exact absurd h4 h3
        · rw [← cov_dn za zb N (k + rn za zb N k + 1) j (by omega)]
          constructor
          · rintro ⟨s, hs, h2, h3⟩
            rcases List.mem_cons.1 hs with rfl | hs
            · exact absurd h3 hj
            · exact ⟨s, hs, h2, h3⟩
          · rintro ⟨s, hs, h2, h3⟩
            exact ⟨s, List.mem_cons_of_mem _ hs, h2, h3⟩
    · rw [dn_none h (by omega)]
      by_cases hj : j = k
      · have he : byt za k = byt zb k := by
          rcases hst with h4 | h4
          · omega
          · rw [show rn za zb N k = 0 by omega] at h4; exact h4
        constructor
        · rintro ⟨s, hs, h2, h3⟩
          have := dn_low za zb N (k + 1) (k + 1) (Nat.le_refl _) s hs
          omega
        · rintro ⟨h2, h3⟩
          rw [hj] at h3; exact absurd he h3
      · exact cov_dn za zb N (k + 1) j (by omega)
  · rw [dn_end h]
    constructor
    · rintro ⟨s, hs, _⟩; cases hs
    · rintro ⟨h2, _⟩; omega
termination_by N - k
decreasing_by all_goals omega
where
  dn_low (za zb : List Int) (N k M : Nat) (hM : M ≤ k) : ∀ s ∈ dn za zb N k, M ≤ s.1 := by
    by_cases h : k < N
    · by_cases h1 : 1 ≤ rn za zb N k
      · rw [dn_span h h1]
        intro s hs
        rcases List.mem_cons.1 hs with rfl | hs
        · exact hM
        · exact dn_low za zb N (k + rn za zb N k + 1) M (by omega) s hs
      · rw [dn_none h (by omega)]
        exact dn_low za zb N (k + 1) M (by omega)
    · rw [dn_end h]
      intro s hs; cases hs
  termination_by N - k
  decreasing_by all_goals omega

theorem byt_splice (zs cs : List Int) (p i : Nat) (hl : p + cs.length ≤ zs.length) : byt (splice zs p cs) i = if p ≤ i ∧ i < p + cs.length then byt cs (i - p) else byt zs i := by
  unfold byt splice
  simp only [List.getD]
  have ht : (zs.take p).length = p := by rw [List.length_take]; omega
  by_cases h1 : i < p
  · rw [if_neg (by omega), List.getElem?_append_left (by omega), List.getElem?_take, if_pos h1]
  · rw [List.getElem?_append_right (by omega), ht]
    by_cases h2 : i < p + cs.length
    · rw [if_pos (by omega), List.getElem?_append_left (by omega)]
    · rw [if_neg (by omega), List.getElem?_append_right (by omega), List.getElem?_drop, show p + cs.length + (i - p - cs.length) = i by omega]

/-- Spans of one page laid over another. -/
def lay (zs zb : List Int) (L : List (Nat × Nat)) : List Int := L.foldl (fun z s => splice z s.1 ((zb.drop s.1).take s.2)) zs
theorem lay_length (zb : List Int) (hb : zb.length = 64) : ∀ (L : List (Nat × Nat)) (zs : List Int), zs.length = 64 → (∀ s ∈ L, s.1 + s.2 ≤ 64) → (lay zs zb L).length = 64
  | [], zs, hz, _ => hz
  | s :: L, zs, hz, hs => by
    have h0 := hs s List.mem_cons_self
    refine lay_length zb hb L _ ?_ (fun t ht => hs t (List.mem_cons_of_mem _ ht))
    rw [length_splice _ _ _ (by simp; omega)]; exact hz
theorem byt_span (zb : List Int) (p m i : Nat) (h0 : p ≤ i) (h1 : i < p + m) : byt ((zb.drop p).take m) (i - p) = byt zb i := by
  unfold byt
  simp only [List.getD, List.getElem?_take, List.getElem?_drop]
  rw [if_pos (by omega), show p + (i - p) = i by omega]
theorem byt_lay (zb : List Int) (hb : zb.length = 64) (j : Nat) : ∀ (L : List (Nat × Nat)) (zs : List Int), zs.length = 64 → (∀ s ∈ L, s.1 + s.2 ≤ 64) → ((cov L j → byt (lay zs zb L) j = byt zb j) ∧ (¬ cov L j → byt (lay zs zb L) j = byt zs j))
  | [], zs, hz, _ => ⟨fun ⟨s, hs, _⟩ => (by cases hs), fun _ => rfl⟩
  | s :: L, zs, hz, hs => by
    have h0 := hs s List.mem_cons_self
    have hl : s.1 + ((zb.drop s.1).take s.2).length ≤ zs.length := by simp; omega
    have hl2 : ((zb.drop s.1).take s.2).length = s.2 := by simp; omega
    have ih := byt_lay zb hb j L (splice zs s.1 ((zb.drop s.1).take s.2)) (by rw [length_splice _ _ _ hl]; exact hz) (fun t ht => hs t (List.mem_cons_of_mem _ ht))
    have hsp := byt_splice zs ((zb.drop s.1).take s.2) s.1 j hl
    rw [hl2] at hsp
    show (cov (s :: L) j → byt (lay (splice zs s.1 ((zb.drop s.1).take s.2)) zb L) j = byt zb j) ∧ (¬ cov (s :: L) j → byt (lay (splice zs s.1 ((zb.drop s.1).take s.2)) zb L) j = byt zs j)
    by_cases hc : cov L j
    · exact ⟨fun _ => ih.1 hc, fun hn => absurd (let ⟨t, ht, h2⟩ := hc; ⟨t, List.mem_cons_of_mem _ ht, h2⟩) hn⟩
    · rw [ih.2 hc, hsp]
      constructor
      · rintro ⟨t, ht, h2, h3⟩
        rcases List.mem_cons.1 ht with rfl | ht
        · rw [if_pos ⟨h2, h3⟩, byt_span zb _ _ j h2 h3]
        · exact absurd ⟨t, ht, h2, h3⟩ hc
      · intro hn
        rw [if_neg (fun h2 => hn ⟨s, List.mem_cons_self, h2.1, h2.2⟩)]

theorem list_byt {xs ys : List Int} (hl : xs.length = ys.length) (h : ∀ j, j < xs.length → byt xs j = byt ys j) : xs = ys := by
  refine List.ext_getElem hl (fun i h1 h2 => ?_)
  have := h i h1
  simpa [byt, List.getD, List.getElem?_eq_getElem h1, List.getElem?_eq_getElem h2] using this

/-- What differs, laid over the one page, makes it the other. -/
theorem lay_dn {za zb : List Int} (ha : za.length = 64) (hb : zb.length = 64) : lay za zb (dn za zb 64 0) = zb := by
  have hs : ∀ s ∈ dn za zb 64 0, s.1 + s.2 ≤ 64 := fun s h => (dn_each za zb 64 0 s h).2
  have hl := lay_length zb hb _ za ha hs
  refine list_byt (by rw [hl, hb]) (fun j hj => ?_)
  have h := byt_lay zb hb j _ za ha hs
  have hc := cov_dn za zb 64 0 j (Nat.zero_le _)
  by_cases h2 : cov (dn za zb 64 0) j
  · exact h.1 h2
  · rw [h.2 h2]
    by_cases h3 : byt za j = byt zb j
    · exact h3
    · exact absurd (hc.2 ⟨by omega, h3⟩) h2
/-- The one page's bytes at those spans, laid over the other, take it back. -/
theorem lay_back {za zb : List Int} (ha : za.length = 64) (hb : zb.length = 64) : lay zb za (dn za zb 64 0) = za := by
  have hs : ∀ s ∈ dn za zb 64 0, s.1 + s.2 ≤ 64 := fun s h => (dn_each za zb 64 0 s h).2
  have hl := lay_length za ha _ zb hb hs
  refine list_byt (by rw [hl, ha]) (fun j hj => ?_)
  have h := byt_lay za ha j _ zb hb hs
  have hc := cov_dn za zb 64 0 j (Nat.zero_le _)
  by_cases h2 : cov (dn za zb 64 0) j
  · exact h.1 h2
  · rw [h.2 h2]
    by_cases h3 : byt za j = byt zb j
    · exact h3.symm
    · exact absurd (hc.2 ⟨by omega, h3⟩) h2

theorem rP_at (L : List (Nat × Nat)) (i : Nat) (h : i < L.length) : rP L i = (L[i].1 : Nat) := by simp [rP, List.getD, List.getElem?_eq_getElem h]
theorem rZ_at (zs : List Int) (L : List (Nat × Nat)) (i : Nat) (h : i < L.length) : rZ zs L i = (zs.drop L[i].1).take L[i].2 := by simp [rZ, List.getD, List.getElem?_eq_getElem h]
theorem apP_lay (zs zb : List Int) (L : List (Nat × Nat)) : ∀ k, k ≤ L.length → apP zs (rP L) (rZ zb L) k = lay zs zb (L.take k)
  | 0, _ => rfl
  | k + 1, hk => by
    have ih := apP_lay zs zb L k (by omega)
    simp only [apP]
    rw [ih, rP_at L k (by omega), rZ_at zb L k (by omega), List.take_add_one, List.getElem?_eq_getElem (show k < L.length by omega)]
    unfold lay
    rw [List.foldl_append]
    rfl
theorem apP_dn {za zb : List Int} (ha : za.length = 64) (hb : zb.length = 64) : apP za (rP (dn za zb 64 0)) (rZ zb (dn za zb 64 0)) (dn za zb 64 0).length = zb := by
  rw [apP_lay _ _ _ _ (Nat.le_refl _), List.take_length, lay_dn ha hb]
theorem apP_back {za zb : List Int} (ha : za.length = 64) (hb : zb.length = 64) : apP zb (rP (dn za zb 64 0)) (rZ za (dn za zb 64 0)) (dn za zb 64 0).length = za := by
  rw [apP_lay _ _ _ _ (Nat.le_refl _), List.take_length, lay_back ha hb]

/-- How many places ahead of j differ. -/
def dc (za zb : List Int) : Nat → Nat
  | 0 => 0
  | j + 1 => dc za zb j + (if byt za j ≠ byt zb j then 1 else 0)
theorem dc_run (za zb : List Int) (k : Nat) : ∀ m, (∀ j, k ≤ j → j < k + m → byt za j ≠ byt zb j) → dc za zb (k + m) = dc za zb k + m
  | 0, _ => rfl
  | m + 1, h => by
    have ih := dc_run za zb k m (fun j h0 h1 => h j h0 (by omega))
    show dc za zb (k + m) + (if byt za (k + m) ≠ byt zb (k + m) then 1 else 0) = dc za zb k + (m + 1)
    rw [if_pos (h (k + m) (by omega) (by omega)), ih]
    omega
def lens (L : List (Nat × Nat)) : Nat := L.foldr (fun s n => s.2 + n) 0
theorem lens_dn (za zb : List Int) (N k : Nat) (hk : k ≤ N) : dc za zb k + lens (dn za zb N k) = dc za zb N := by
  by_cases h : k < N
  · have hle := rn_le za zb N k (Nat.le_of_lt h)
    have hst := rn_stop za zb N k (Nat.le_of_lt h)
    have hrun := dc_run za zb k (rn za zb N k) (fun j h0 h1 => rn_all za zb N k j h0 h1)
    by_cases h1 : 1 ≤ rn za zb N k
    · rw [dn_span h h1]
      show dc za zb k + (rn za zb N k + lens (dn za zb N (k + rn za zb N k + 1))) = _
      by_cases he : k + rn za zb N k = N
      · rw [dn_end (by omega)]
        show dc za zb k + (rn za zb N k + 0) = _
        have e2 : dc za zb N = dc za zb (k + rn za zb N k) := by rw [he]
        omega
      · have h4 : byt za (k + rn za zb N k) = byt zb (k + rn za zb N k) := hst.resolve_left he
        have ih := lens_dn za zb N (k + rn za zb N k + 1) (by omega)
        have e : dc za zb (k + rn za zb N k + 1) = dc za zb (k + rn za zb N k) := by
          show dc za zb (k + rn za zb N k) + _ = _
          rw [if_neg (fun hh => hh h4)]
          omega
        omega
    · have h0 : rn za zb N k = 0 := by omega
      rw [dn_none h h0]
      have h4 : byt za k = byt zb k := by
        rcases hst with h4 | h4
        · omega
        · rw [h0] at h4; exact h4
      have ih := lens_dn za zb N (k + 1) (by omega)
      have e : dc za zb (k + 1) = dc za zb k := by
        show dc za zb k + _ = _
        rw [if_neg (fun hh => hh h4)]
        omega
      omega
  · rw [dn_end h]
    have : k = N := by omega
    rw [this]; rfl
termination_by N - k
decreasing_by all_goals omega

end Go.Proofs.Ytpoccjlngbdjlaa
