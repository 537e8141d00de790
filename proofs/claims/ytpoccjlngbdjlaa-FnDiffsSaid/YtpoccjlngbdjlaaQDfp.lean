/-
  Plain facts: the spans in which two pages differ, place by place.
-/
import Derived.Test.YtpoccjlngbdjlaaQTsp

namespace Go.Proofs.Ytpoccjlngbdjlaa
open Go.RowKit Go.Shelf
set_option linter.unusedVariables false

/-- How many places from k on, below N, differ in a row. -/
def rn (za zb : List Int) (N k : Nat) : Nat := if h : k < N ∧ byt za k ≠ byt zb k then rn za zb N (k + 1) + 1 else 0
termination_by N - k
decreasing_by omega
/-- The longest spans from k on, below N. -/
def dn (za zb : List Int) (N k : Nat) : List (Nat × Nat) :=
  if h : k < N then (if 1 ≤ rn za zb N k then (k, rn za zb N k) :: dn za zb N (k + rn za zb N k + 1) else dn za zb N (k + 1)) else []
termination_by N - k
decreasing_by all_goals omega

section
variable {za zb : List Int} {N k : Nat}
theorem rn_diff (h : k < N) (hd : byt za k ≠ byt zb k) : rn za zb N k = rn za zb N (k + 1) + 1 := by rw [rn, dif_pos ⟨h, hd⟩]
theorem rn_same (hd : byt za k = byt zb k) : rn za zb N k = 0 := by rw [rn, dif_neg (fun e => e.2 hd)]
theorem rn_end (h : ¬ k < N) : rn za zb N k = 0 := by rw [rn, dif_neg (fun e => h e.1)]
theorem dn_span (h : k < N) (h1 : 1 ≤ rn za zb N k) : dn za zb N k = (k, rn za zb N k) :: dn za zb N (k + rn za zb N k + 1) := by rw [dn, dif_pos h, if_pos h1]
theorem dn_none (h : k < N) (h1 : rn za zb N k = 0) : dn za zb N k = dn za zb N (k + 1) := by rw [dn, dif_pos h, if_neg (by omega)]
theorem dn_end (h : ¬ k < N) : dn za zb N k = [] := by rw [dn, dif_neg h]
end

theorem rn_le (za zb : List Int) (N k : Nat) (h : k ≤ N) : k + rn za zb N k ≤ N := by
  rw [rn]
  split
  · rename_i h1
    have := rn_le za zb N (k + 1) h1.1
    omega
  · omega
termination_by N - k
decreasing_by omega

/-- Where the row of places ends there is an end, or a place that is alike. -/
theorem rn_stop (za zb : List Int) (N k : Nat) (h : k ≤ N) : k + rn za zb N k = N ∨ byt za (k + rn za zb N k) = byt zb (k + rn za zb N k) := by
  by_cases h1 : k < N ∧ byt za k ≠ byt zb k
  · rw [rn_diff h1.1 h1.2]
    have := rn_stop za zb N (k + 1) h1.1
    rw [show k + (rn za zb N (k + 1) + 1) = k + 1 + rn za zb N (k + 1) by omega]
    exact this
  · rw [rn, dif_neg h1, Nat.add_zero]
    by_cases h2 : k < N
    · right
      by_cases h3 : byt za k = byt zb k
      · exact h3
      · exact absurd ⟨h2, h3⟩ h1
    · left; omega
termination_by N - k
decreasing_by omega

theorem rl_rn (za zb : List Int) (k : Nat) : rl za zb k = rn za zb 64 k := by
  by_cases h : k < 64 ∧ byt za k ≠ byt zb k
  · rw [rl_diff h.1 h.2, rn_diff h.1 h.2, rl_rn za zb (k + 1)]
  · rw [rl, dif_neg h, rn, dif_neg h]
termination_by 64 - k
decreasing_by omega

theorem dS_dn (za zb : List Int) (k : Nat) : (dS za zb k).map (·.1) = dn za zb 64 k := by
  by_cases h : k < 64
  · by_cases h1 : 1 ≤ rl za zb k
    · have h2 : 1 ≤ rn za zb 64 k := by rw [← rl_rn]; exact h1
      rw [dS_span h h1, dn_span h h2, List.map_cons, dS_dn za zb (k + rl za zb k + 1)]
      show (k, rl za zb k) :: _ = _
      rw [rl_rn]
    · rw [dS_none h (by omega), dn_none h (by rw [← rl_rn]; omega), dS_dn za zb (k + 1)]
  · rw [dS_end h, dn_end h]; rfl
termination_by 64 - k
decreasing_by all_goals omega

/-- One place more, where the pages are alike there. -/
theorem rn_alike {za zb : List Int} {N : Nat} (he : byt za N = byt zb N) (k : Nat) (hk : k ≤ N) : rn za zb (N + 1) k = rn za zb N k := by
  by_cases h : k < N ∧ byt za k ≠ byt zb k
  · rw [rn_diff h.1 h.2, rn_diff (by omega) h.2, rn_alike he (k + 1) h.1]
  · have e0 : rn za zb N k = 0 := by rw [rn, dif_neg h]
    rw [e0]
    by_cases h1 : byt za k = byt zb k
    · exact rn_same h1
    · by_cases h2 : k = N
      · subst h2; exact absurd he h1
      · exact absurd ⟨by omega, h1⟩ h
termination_by N - k
decreasing_by omega
theorem dn_alike {za zb : List Int} {N : Nat} (he : byt za N = byt zb N) (k : Nat) : dn za zb (N + 1) k = dn za zb N k := by
  by_cases h : k < N
  · have e := rn_alike he k (Nat.le_of_lt h)
    by_cases h1 : 1 ≤ rn za zb N k
    · rw [dn_span h h1, dn_span (by omega) (by rw [e]; exact h1), e, dn_alike he]
    · rw [dn_none h (by omega), dn_none (by omega) (by rw [e]; omega), dn_alike he]
  · rw [dn_end h]
    by_cases h1 : k = N
    · subst h1
      rw [dn_none (by omega) (rn_same he), dn_end (by omega)]
    · rw [dn_end (by omega)]
termination_by N - k
decreasing_by all_goals omega

theorem rn_last {za zb : List Int} {N : Nat} (k : Nat) (h : k < N) (h1 : k + rn za zb N k = N) (hs : byt za (N - 1) = byt zb (N - 1)) : False := by
  by_cases h2 : byt za k = byt zb k
  · rw [rn_same h2] at h1; omega
  · by_cases h3 : k + 1 = N
    · exact h2 (by rw [show k = N - 1 by omega]; exact hs)
    · rw [rn_diff h h2] at h1
      exact rn_last (k + 1) (by omega) (by omega) hs
termination_by N - k
decreasing_by omega
theorem rn_short {za zb : List Int} {N : Nat} (k : Nat) (h : k < N) (h1 : k + rn za zb N k < N) : rn za zb (N + 1) k = rn za zb N k := by
  by_cases h2 : byt za k = byt zb k
  · rw [rn_same h2, rn_same h2]
  · rw [rn_diff h h2] at h1 ⊢
    rw [rn_diff (by omega) h2, rn_short (k + 1) (by omega) (by omega)]
termination_by N - k
decreasing_by omega

/-- One place more, where they differ there and are alike just ahead. -/
theorem dn_new {za zb : List Int} {N : Nat} (hd : byt za N ≠ byt zb N) (ha : N = 0 ∨ byt za (N - 1) = byt zb (N - 1)) (k : Nat) (hk : k ≤ N) : dn za zb (N + 1) k = dn za zb N k ++ [(N, 1)] := by
  by_cases h : k < N
  · have hstop := rn_stop za zb N k hk
    have hle := rn_le za zb N k hk
    have hsame : byt za (N - 1) = byt zb (N - 1) := by
      rcases ha with h0 | h0
      · omega
      · exact h0
    have hlt : k + rn za zb N k < N := by
      rcases hstop with h1 | h1
      · exfalso
        exact rn_last k h h1 hsame
      · by_cases h2 : k + rn za zb N k = N
        · exfalso
          exact rn_last k h h2 hsame
        · omega
    have e : rn za zb (N + 1) k = rn za zb N k := rn_short k h hlt
    by_cases h1 : 1 ≤ rn za zb N k
    · rw [dn_span h h1, dn_span (by omega) (by rw [e]; exact h1), e, dn_new hd ha _ (by omega)]
      rfl
    · rw [dn_none h (by omega), dn_none (by omega) (by rw [e]; omega), dn_new hd ha _ (by omega)]
  · have e : k = N := by omega
    subst e
    have h1 : rn za zb (k + 1) k = 1 := by rw [rn_diff (by omega) hd, rn_end (by omega)]
    rw [dn_end h, dn_span (by omega) (by omega), h1, dn_end (by omega)]
    rfl
termination_by N - k
decreasing_by all_goals omega

/-- One place more, where they differ there and just ahead. -/
theorem dn_more {za zb : List Int} {N : Nat} (hd : byt za N ≠ byt zb N) (ha : byt za (N - 1) ≠ byt zb (N - 1)) (k : Nat) (hk : k < N) : ∃ L s l, dn za zb N k = L ++ [(s, l)] ∧ s + l = N ∧ dn za zb (N + 1) k = L ++ [(s, l + 1)] := by
  have hle := rn_le za zb N k (Nat.le_of_lt hk)
  by_cases hend : k + rn za zb N k = N
  · have e1 : rn za zb (N + 1) k = rn za zb N k + 1 := rn_long k (Nat.le_of_lt hk) hend
    refine ⟨[], k, rn za zb N k, ?_, hend, ?_⟩
    · rw [dn_span hk (by omega), dn_end (by omega)]; rfl
    · rw [dn_span (by omega) (by omega), dn_end (by omega), e1]; rfl
  · have hlt : k + rn za zb N k < N := by omega
    have hal : byt za (k + rn za zb N k) = byt zb (k + rn za zb N k) := (rn_stop za zb N k (Nat.le_of_lt hk)).resolve_left hend
    have hne : k + rn za zb N k ≠ N - 1 := fun e => ha (by rw [← e]; exact hal)
    have e : rn za zb (N + 1) k = rn za zb N k := rn_short k hk hlt
    obtain ⟨L, s, l, h1, h2, h3⟩ := dn_more hd ha (k + rn za zb N k + 1) (by omega)
    by_cases h0 : 1 ≤ rn za zb N k
    · refine ⟨(k, rn za zb N k) :: L, s, l, ?_, h2, ?_⟩
      · rw [dn_span hk h0, h1]; rfl
      · rw [dn_span (by omega) (by rw [e]; exact h0), e, h3]; rfl
    · have h00 : rn za zb N k = 0 := by omega
      rw [h00, Nat.add_zero] at h1 h3
      refine ⟨L, s, l, ?_, h2, ?_⟩
      · rw [dn_none hk h00, h1]
      · rw [dn_none (by omega) (by rw [e]; exact h00), h3]
termination_by N - k
decreasing_by omega
where
  rn_long (k : Nat) (h : k ≤ N) (h1 : k + rn za zb N k = N) : rn za zb (N + 1) k = rn za zb N k + 1 := by
    by_cases h0 : k = N
    · subst h0
      rw [rn_end (N := k) (by omega), rn_diff (by omega) hd, rn_end (by omega)]
    · by_cases h2 : byt za k = byt zb k
      · rw [rn_same h2] at h1; omega
      · rw [rn_diff (by omega) h2] at h1 ⊢
        rw [rn_diff (by omega) h2, rn_long (k + 1) (by omega) (by omega)]
  termination_by N - k
  decreasing_by omega

/-- The places and bytes of spans. -/
def rP (L : List (Nat × Nat)) (i : Nat) : Int := (L.map fun s => ((s.1 : Nat) : Int)).getD i 0
def rZ (zs : List Int) (L : List (Nat × Nat)) (i : Nat) : List Int := (L.map fun s => (zs.drop s.1).take s.2).getD i []
theorem rP_sp (xs : List Sp) : spP xs = rP (xs.map (·.1)) := by funext i; simp [spP, rP, List.map_map, Function.comp_def]
theorem rZ_sp (zs : List Int) (xs : List Sp) : spZ zs xs = rZ zs (xs.map (·.1)) := by funext i; simp [spZ, rZ, List.map_map, Function.comp_def]
theorem rP_lt (L : List (Nat × Nat)) (x : Nat × Nat) (i : Nat) (h : i < L.length) : rP (L ++ [x]) i = rP L i := by simp [rP, List.getD, List.getElem?_append, h]
theorem rP_eq (L : List (Nat × Nat)) (x : Nat × Nat) : rP (L ++ [x]) L.length = (x.1 : Nat) := by simp [rP, List.getD]
theorem rZ_lt (zs : List Int) (L : List (Nat × Nat)) (x : Nat × Nat) (i : Nat) (h : i < L.length) : rZ zs (L ++ [x]) i = rZ zs L i := by simp [rZ, List.getD, List.getElem?_append, h]
theorem rZ_eq (zs : List Int) (L : List (Nat × Nat)) (x : Nat × Nat) : rZ zs (L ++ [x]) L.length = (zs.drop x.1).take x.2 := by simp [rZ, List.getD]
theorem take_more (zs : List Int) (s l : Nat) (h : s + l < zs.length) : (zs.drop s).take (l + 1) = (zs.drop s).take l ++ [byt zs (s + l)] := by
  rw [List.take_add_one, List.getElem?_drop, List.getElem?_eq_getElem h]
  simp [byt, List.getD, List.getElem?_eq_getElem h]

/-- Each span below N is no shorter than one place, and ends at N or ahead. -/
theorem dn_each (za zb : List Int) (N k : Nat) : ∀ s ∈ dn za zb N k, 1 ≤ s.2 ∧ s.1 + s.2 ≤ N := by
  by_cases h : k < N
  · have hle := rn_le za zb N k (Nat.le_of_lt h)
    by_cases h1 : 1 ≤ rn za zb N k
    · rw [dn_span h h1]
      intro s hs
      rcases List.mem_cons.1 hs with rfl | hs
      · exact ⟨h1, hle⟩
      · exact dn_each za zb N _ s hs
    · rw [dn_none h (by omega)]
      exact dn_each za zb N _
  · rw [dn_end h]
    intro s hs
    cases hs
termination_by N - k
decreasing_by all_goals omega

end Go.Proofs.Ytpoccjlngbdjlaa
