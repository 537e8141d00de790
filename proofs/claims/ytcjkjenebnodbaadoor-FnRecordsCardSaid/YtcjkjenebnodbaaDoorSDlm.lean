/-
  Runs that are appended byte by byte.
-/
import Derived.Test.YtcjkjenebnodbaaDoorSDls

namespace Go.Proofs.YtcjkjenebnodbaaDoor
open Go.RowKit
set_option linter.unusedVariables false

section
variable {n₀ : Nat} {W W' : World} {v : Value} {k : Nat} {P : Nat → Int} {V : Nat → Value} {Z : Nat → List Int} {B : Nat → Nat}
/-- A run without bytes comes behind. -/
theorem Dlt.open_ (h : Dlt n₀ W v k P V Z B) {v' : Value} (hrow : W'.ownsRow n₀ 82 2 v' (k + 1) (dcells P V k ++ [.int .i64 (P k), .slice none 0 0])) (hg : W.grownBy W' v.ownBlock) (hz : Z k = []) (hn : n₀ ≤ W.heap.size) :
    Dlt n₀ W' v' (k + 1) P (fun i => if i = k then .slice none 0 0 else V i) Z (fun i => if i = k then W'.heap.size else B i) := by
  refine ⟨?_, fun i hi => ?_, fun i hi => ?_, fun i j hij hj g hgb => ?_, fun i hi => by
    by_cases e : i = k
    · simp only [if_pos e]; exact Nat.le_refl _
    · simp only [if_neg e]; exact Nat.le_trans (h.hi i (by omega)) hg.size⟩
  · simp only [dcells, if_true]
    rw [← dcells_congr k (P := P) (V := V) (fun i hi => ⟨rfl, by simp only [if_neg (show ¬ i = k by omega)]⟩)]
    exact hrow
  · by_cases e : i = k
    · subst e
      simp only [if_true]
      rw [hz]
      exact World.ownsRow_nil _ _ _ _
    · simp only [if_neg e]
      refine (h.by' i (by omega)).kept hg ?_
      rcases rows_apart h.row (h.by' i (by omega)) with h1 | h1
      · by_cases h2 : (V i).ownBlock = none
        · exact .inl h2
        · exact .inr (fun e2 => h2 (e2.trans h1))
      · exact .inr (fun e2 => h1 e2.symm)
  · by_cases e : i = k
    · simp only [if_pos e]; have := hg.size; omega
    · simp only [if_neg e]; exact h.lo i (by omega)
  · have hik : ¬ i = k := by omega
    simp only [if_neg hik] at hgb
    by_cases e : j = k
    · simp only [if_pos e]
      have := ((h.by' i (by omega)).lt g hgb).2
      have := hg.size
      omega
    · simp only [if_neg e]; exact h.sep i j hij (by omega) g hgb

/-- A byte comes behind the last run's. -/
theorem Dlt.more (h : Dlt n₀ W v (k + 1) P V Z B) {g cap : Nat} (hv : v = .slice (some ⟨g, 0, none⟩) (k + 1) cap) {u : Value} {z : Int} (hu : W'.ownsRow (B k) 5 1 u ((Z k).length + 1) ((Z k).map (Value.int .u8) ++ [.int .u8 z])) (hg : W.grownBy W' (V k).ownBlock) :
    Dlt n₀ (W'.setCell ⟨g, k * 2 + 1, none⟩ u) v (k + 1) P (fun i => if i = k then u else V i) (fun i => if i = k then Z k ++ [z] else Z i) B := by
  have hrow : W'.ownsRow n₀ 82 2 v (k + 1) (dcells P V (k + 1)) := h.row.kept hg (rows_apart h.row (h.by' k (by omega)))
  have keep : ∀ i, i < k → W'.ownsRow (B i) 5 1 (V i) (Z i).length ((Z i).map (Value.int .u8)) := fun i hi => (h.by' i (by omega)).kept hg (by
    by_cases h2 : (V i).ownBlock = none
    · exact .inl h2
    · refine .inr fun e => ?_
      obtain ⟨gi, hgi⟩ : ∃ gi, (V i).ownBlock = some gi := Option.ne_none_iff_exists'.1 h2
      have h3 := h.sep i k hi (by omega) gi hgi
      have h4 := ((h.by' k (by omega)).lt gi (by rw [← e]; exact hgi)).1
      omega)
  have hgv : v.ownBlock = some g := by rw [hv]; rfl
  have off : ∀ {b n : Nat} {y : Value} {xs : List Value}, W'.ownsRow b 5 1 y n xs → (W'.setCell ⟨g, k * 2 + 1, none⟩ u).ownsRow b 5 1 y n xs := fun {b n y xs} hy => by
    refine ⟨hy.1, ?_⟩
    rcases hy.2 with h0 | ⟨g', cap', cur, e, h1, hgb, hh⟩
    · exact .inl h0
    · refine .inr ⟨g', cap', cur, e, h1, ?_, hh⟩
      rw [Below.heap_setCell _ _ _ _ (fun e2 => ?_)]
      · exact hgb
      · rcases rows_apart hrow hy with h5 | h5
        · rw [hgv] at h5; cases h5
        · exact h5 (by rw [hgv, e, show g' = g from e2]; rfl)
  refine ⟨?_, fun i hi => ?_, h.lo, fun i j hij hj gg hgb => ?_, fun i hi => by rw [World.size_setCell]; exact Nat.le_trans (h.hi i hi) hg.size⟩
  · rw [← dcells_set P V k u]
    rw [hv] at hrow ⊢
    exact (hrow.stored (k * 2 + 1) u).1
  · by_cases e : i = k
    · subst e
      simp only [if_true]
      rw [List.length_append, List.map_append]
      exact off hu
    · simp only [if_neg e]
      exact off (keep i (by omega))
  · have hik : ¬ i = k := by omega
    simp only [if_neg hik] at hgb
    exact h.sep i j hij hj gg hgb

end

end Go.Proofs.YtcjkjenebnodbaaDoor

/-
  Plain facts: the spans in which two pages differ, place by place.
-/
namespace Go.Proofs.YtcjkjenebnodbaaDoor.Df
open Go.RowKit
set_option linter.unusedVariables false

def byt (zs : List Int) (i : Nat) : Int := zs.getD i 0
theorem reads_at {w : World} {b off : Nat} {zs : List Int} (h : Reads w (some ⟨b, off, none⟩) zs) (i : Nat) (hi : i < zs.length) : w.cell? ⟨b, off + i, none⟩ = some (.int .u8 (zs.getD i 0)) := by
  rcases h with h | ⟨b', off', ha, hc⟩
  · rw [h] at hi; simp at hi
  · simp only [Option.some.injEq, Addr.mk.injEq, and_true] at ha
    obtain ⟨rfl, rfl⟩ := ha
    exact hc i hi



/-- How many places from k on, below N, differ in a row. -/
def rn (za zb : List Int) (N k : Nat) : Nat := if h : k < N ∧ byt za k ≠ byt zb k then rn za zb N (k + 1) + 1 else 0
termination_by N - k
decreasing_by omega
/-- The longest spans from k on, below N. -/
def dn (za zb : List Int) (N k : Nat) : List (Nat × Nat) :=
  if h : k < N then (if 1 ≤ rn za zb N k then (k, rn za zb N k) :: dn za zb N (k + rn za zb N k + 1) else dn za zb N (k + 1)) else []
termination_by N - k
decreasing_by all_goals omega

section
variable {za zb : List Int} {N k : Nat}
theorem rn_diff (h : k < N) (hd : byt za k ≠ byt zb k) : rn za zb N k = rn za zb N (k + 1) + 1 := by rw [rn, dif_pos ⟨h, hd⟩]
theorem rn_same (hd : byt za k = byt zb k) : rn za zb N k = 0 := by rw [rn, dif_neg (fun e => e.2 hd)]
theorem rn_end (h : ¬ k < N) : rn za zb N k = 0 := by rw [rn, dif_neg (fun e => h e.1)]
theorem dn_span (h : k < N) (h1 : 1 ≤ rn za zb N k) : dn za zb N k = (k, rn za zb N k) :: dn za zb N (k + rn za zb N k + 1) := by rw [dn, dif_pos h, if_pos h1]
theorem dn_none (h : k < N) (h1 : rn za zb N k = 0) : dn za zb N k = dn za zb N (k + 1) := by rw [dn, dif_pos h, if_neg (by omega)]
theorem dn_end (h : ¬ k < N) : dn za zb N k = [] := by rw [dn, dif_neg h]
end

theorem rn_le (za zb : List Int) (N k : Nat) (h : k ≤ N) : k + rn za zb N k ≤ N := by
  rw [rn]
  split
  · rename_i h1
    have := rn_le za zb N (k + 1) h1.1
    omega
  · omega
termination_by N - k
decreasing_by omega

/-- Where the row of places ends there is an end, or a place that is alike. -/
theorem rn_stop (za zb : List Int) (N k : Nat) (h : k ≤ N) : k + rn za zb N k = N ∨ byt za (k + rn za zb N k) = byt zb (k + rn za zb N k) := by
  by_cases h1 : k < N ∧ byt za k ≠ byt zb k
  · rw [rn_diff h1.1 h1.2]
    have := rn_stop za zb N (k + 1) h1.1
    rw [show k + (rn za zb N (k + 1) + 1) = k + 1 + rn za zb N (k + 1) by omega]
    exact this
  · rw [rn, dif_neg h1, Nat.add_zero]
    by_cases h2 : k < N
    · right
      by_cases h3 : byt za k = byt zb k
      · exact h3
      · exact absurd ⟨h2, h3⟩ h1
    · left; omega
termination_by N - k
decreasing_by omega

/-- One place more, where the pages are alike there. -/
theorem rn_alike {za zb : List Int} {N : Nat} (he : byt za N = byt zb N) (k : Nat) (hk : k ≤ N) : rn za zb (N + 1) k = rn za zb N k := by
  by_cases h : k < N ∧ byt za k ≠ byt zb k
  · rw [rn_diff h.1 h.2, rn_diff (by omega) h.2, rn_alike he (k + 1) h.1]
  · have e0 : rn za zb N k = 0 := by rw [rn, dif_neg h]
    rw [e0]
    by_cases h1 : byt za k = byt zb k
    · exact rn_same h1
    · by_cases h2 : k = N
      · subst h2; exact absurd he h1
      · exact absurd ⟨by omega, h1⟩ h
termination_by N - k
decreasing_by omega
theorem dn_alike {za zb : List Int} {N : Nat} (he : byt za N = byt zb N) (k : Nat) : dn za zb (N + 1) k = dn za zb N k := by
  by_cases h : k < N
  · have e := rn_alike he k (Nat.le_of_lt h)
    by_cases h1 : 1 ≤ rn za zb N k
    · rw [dn_span h h1, dn_span (by omega) (by rw [e]; exact h1), e, dn_alike he]
    · rw [dn_none h (by omega), dn_none (by omega) (by rw [e]; omega), dn_alike he]
  · rw [dn_end h]
    by_cases h1 : k = N
    · subst h1
      rw [dn_none (by omega) (rn_same he), dn_end (by omega)]
    · rw [dn_end (by omega)]
termination_by N - k
decreasing_by all_goals omega

theorem rn_last {za zb : List Int} {N : Nat} (k : Nat) (h : k < N) (h1 : k + rn za zb N k = N) (hs : byt za (N - 1) = byt zb (N - 1)) : False := by
  by_cases h2 : byt za k = byt zb k
  · rw [rn_same h2] at h1; omega
  · by_cases h3 : k + 1 = N
    · exact h2 (by rw [show k = N - 1 by omega]; exact hs)
    · rw [rn_diff h h2] at h1
      exact rn_last (k + 1) (by omega) (by omega) hs
termination_by N - k
decreasing_by omega
theorem rn_short {za zb : List Int} {N : Nat} (k : Nat) (h : k < N) (h1 : k + rn za zb N k < N) : rn za zb (N + 1) k = rn za zb N k := by
  by_cases h2 : byt za k = byt zb k
  · rw [rn_same h2, rn_same h2]
  · rw [rn_diff h h2] at h1 ⊢
    rw [rn_diff (by omega) h2, rn_short (k + 1) (by omega) (by omega)]
termination_by N - k
decreasing_by omega

/-- One place more, where they differ there and are alike just ahead. -/
theorem dn_new {za zb : List Int} {N : Nat} (hd : byt za N ≠ byt zb N) (ha : N = 0 ∨ byt za (N - 1) = byt zb (N - 1)) (k : Nat) (hk : k ≤ N) : dn za zb (N + 1) k = dn za zb N k ++ [(N, 1)] := by
  by_cases h : k < N
  · have hstop := rn_stop za zb N k hk
    have hle := rn_le za zb N k hk
    have hsame : byt za (N - 1) = byt zb (N - 1) := by
      rcases ha with h0 | h0
      · omega
      · exact h0
    have hlt : k + rn za zb N k < N := by
      rcases hstop with h1 | h1
      · exfalso
        exact rn_last k h h1 hsame
      · by_cases h2 : k + rn za zb N k = N
        · exfalso
          exact rn_last k h h2 hsame
        · omega
    have e : rn za zb (N + 1) k = rn za zb N k := rn_short k h hlt
    by_cases h1 : 1 ≤ rn za zb N k
    · rw [dn_span h h1, dn_span (by omega) (by rw [e]; exact h1), e, dn_new hd ha _ (by omega)]
      rfl
    · rw [dn_none h (by omega), dn_none (by omega) (by rw [e]; omega), dn_new hd ha _ (by omega)]
  · have e : k = N := by omega
    subst e
    have h1 : rn za zb (k + 1) k = 1 := by rw [rn_diff (by omega) hd, rn_end (by omega)]
    rw [dn_end h, dn_span (by omega) (by omega), h1, dn_end (by omega)]
    rfl
termination_by N - k
decreasing_by all_goals omega

/-- One place more, where they differ there and just ahead. -/
theorem dn_more {za zb : List Int} {N : Nat} (hd : byt za N ≠ byt zb N) (ha : byt za (N - 1) ≠ byt zb (N - 1)) (k : Nat) (hk : k < N) : ∃ L s l, dn za zb N k = L ++ [(s, l)] ∧ s + l = N ∧ dn za zb (N + 1) k = L ++ [(s, l + 1)] := by
  have hle := rn_le za zb N k (Nat.le_of_lt hk)
  by_cases hend : k + rn za zb N k = N
  · have e1 : rn za zb (N + 1) k = rn za zb N k + 1 := rn_long k (Nat.le_of_lt hk) hend
    refine ⟨[], k, rn za zb N k, ?_, hend, ?_⟩
    · rw [dn_span hk (by omega), dn_end (by omega)]; rfl
    · rw [dn_span (by omega) (by omega), dn_end (by omega), e1]; rfl
  · have hlt : k + rn za zb N k < N := by omega
    have hal : byt za (k + rn za zb N k) = byt zb (k + rn za zb N k) := (rn_stop za zb N k (Nat.le_of_lt hk)).resolve_left hend
    have hne : k + rn za zb N k ≠ N - 1 := fun e => ha (by rw [← e]; exact hal)
    have e : rn za zb (N + 1) k = rn za zb N k := rn_short k hk hlt
    obtain ⟨L, s, l, h1, h2, h3⟩ := dn_more hd ha (k + rn za zb N k + 1) (by omega)
    by_cases h0 : 1 ≤ rn za zb N k
    · refine ⟨(k, rn za zb N k) :: L, s, l, ?_, h2, ?_⟩
      · rw [dn_span hk h0, h1]; rfl
      · rw [dn_span (by omega) (by rw [e]; exact h0), e, h3]; rfl
    · have h00 : rn za zb N k = 0 := by omega
      rw [h00, Nat.add_zero] at h1 h3
      refine ⟨L, s, l, ?_, h2, ?_⟩
      · rw [dn_none hk h00, h1]
      · rw [dn_none (by omega) (by rw [e]; exact h00), h3]
termination_by N - k
decreasing_by omega
where
  rn_long (k : Nat) (h : k ≤ N) (h1 : k + rn za zb N k = N) : rn za zb (N + 1) k = rn za zb N k + 1 := by
    by_cases h0 : k = N
    · subst h0
      rw [rn_end (N := k) (by omega), rn_diff (by omega) hd, rn_end (by omega)]
    · by_cases h2 : byt za k = byt zb k
      · rw [rn_same h2] at h1; omega
      · rw [rn_diff (by omega) h2] at h1 ⊢
        rw [rn_diff (by omega) h2, rn_long (k + 1) (by omega) (by omega)]
  termination_by N - k
  decreasing_by omega

/-- The places and bytes of spans. -/
def rP (L : List (Nat × Nat)) (i : Nat) : Int := (L.map fun s => ((s.1 : Nat) : Int)).getD i 0
def rZ (zs : List Int) (L : List (Nat × Nat)) (i : Nat) : List Int := (L.map fun s => (zs.drop s.1).take s.2).getD i []
theorem rP_lt (L : List (Nat × Nat)) (x : Nat × Nat) (i : Nat) (h : i < L.length) : rP (L ++ [x]) i = rP L i := by simp [rP, List.getD, List.getElem?_append, h]
theorem rP_eq (L : List (Nat × Nat)) (x : Nat × Nat) : rP (L ++ [x]) L.length = (x.1 : Nat) := by simp [rP, List.getD]
theorem rZ_lt (zs : List Int) (L : List (Nat × Nat)) (x : Nat × Nat) (i : Nat) (h : i < L.length) : rZ zs (L ++ [x]) i = rZ zs L i := by simp [rZ, List.getD, List.getElem?_append, h]
theorem rZ_eq (zs : List Int) (L : List (Nat × Nat)) (x : Nat × Nat) : rZ zs (L ++ [x]) L.length = (zs.drop x.1).take x.2 := by simp [rZ, List.getD]
theorem take_more (zs : List Int) (s l : Nat) (h : s + l < zs.length) : (zs.drop s).take (l + 1) = (zs.drop s).take l ++ [byt zs (s + l)] := by
  rw [List.take_add_one, List.getElem?_drop, List.getElem?_eq_getElem h]
  simp [byt, List.getD, List.getElem?_eq_getElem h]

/-- Each span below N is no shorter than one place, and ends at N or ahead. -/
theorem dn_each (za zb : List Int) (N k : Nat) : ∀ s ∈ dn za zb N k, 1 ≤ s.2 ∧ s.1 + s.2 ≤ N := by
  by_cases h : k < N
  · have hle := rn_le za zb N k (Nat.le_of_lt h)
    by_cases h1 : 1 ≤ rn za zb N k
    · rw [dn_span h h1]
      intro s hs
      rcases List.mem_cons.1 hs with rfl | hs
      · exact ⟨h1, hle⟩
      · exact dn_each za zb N _ s hs
    · rw [dn_none h (by omega)]
      exact dn_each za zb N _
  · rw [dn_end h]
    intro s hs
    cases hs
termination_by N - k
decreasing_by all_goals omega



end Go.Proofs.YtcjkjenebnodbaaDoor.Df
