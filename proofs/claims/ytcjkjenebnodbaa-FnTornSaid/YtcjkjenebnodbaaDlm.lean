/-
  Runs that are appended byte by byte.
-/
import Derived.Test.YtcjkjenebnodbaaDls
namespace Go.Proofs.Ytcjkjenebnodbaa
open Go.RowKit
set_option linter.unusedVariables false

section
variable {n₀ : Nat} {W W' : World} {v : Value} {k : Nat} {P : Nat → Int} {V : Nat → Value} {Z : Nat → List Int} {B : Nat → Nat}
/-- A run without bytes comes behind. -/
theorem Dlt.open_ (h : Dlt n₀ W v k P V Z B) {v' : Value} (hrow : W'.ownsRow n₀ 129 2 v' (k + 1) (dcells P V k ++ [.int .i64 (P k), .slice none 0 0])) (hg : W.grownBy W' v.ownBlock) (hz : Z k = []) (hn : n₀ ≤ W.heap.size) :
    Dlt n₀ W' v' (k + 1) P (fun i => if i = k then .slice none 0 0 else V i) Z (fun i => if i = k then W'.heap.size else B i) := by
  refine ⟨?_, fun i hi => ?_, fun i hi => ?_, fun i j hij hj g hgb => ?_, fun i hi => by
    by_cases e : i = k
    · simp only [if_pos e]; exact Nat.le_refl _
    · simp only [if_neg e]; exact Nat.le_trans (h.hi i (by omega)) hg.size⟩
  · simp only [dcells, if_true]
    rw [← dcells_congr k (P := P) (V := V) (fun i hi => ⟨rfl, by simp only [if_neg (show ¬ i = k by omega)]⟩)]
    exact hrow
  · by_cases e : i = k
    · subst e
      simp only [if_true]
      rw [hz]
      exact World.ownsRow_nil _ _ _ _
    · simp only [if_neg e]
      refine (h.by' i (by omega)).kept hg ?_
      rcases rows_apart h.row (h.by' i (by omega)) with h1 | h1
      · by_cases h2 : (V i).ownBlock = none
        · exact .inl h2
        · exact .inr (fun e2 => h2 (e2.trans h1))
      · exact .inr (fun e2 => h1 e2.symm)
  · by_cases e : i = k
    · simp only [if_pos e]; have := hg.size; omega
    · simp only [if_neg e]; exact h.lo i (by omega)
  · have hik : ¬ i = k := by omega
    simp only [if_neg hik] at hgb
    by_cases e : j = k
    · simp only [if_pos e]
      have := ((h.by' i (by omega)).lt g hgb).2
      have := hg.size
      omega
    · simp only [if_neg e]; exact h.sep i j hij (by omega) g hgb

/-- A byte comes behind the last run's. -/
theorem Dlt.more (h : Dlt n₀ W v (k + 1) P V Z B) {g cap : Nat} (hv : v = .slice (some ⟨g, 0, none⟩) (k + 1) cap) {u : Value} {z : Int} (hu : W'.ownsRow (B k) 5 1 u ((Z k).length + 1) ((Z k).map (Value.int .u8) ++ [.int .u8 z])) (hg : W.grownBy W' (V k).ownBlock) :
    Dlt n₀ (W'.setCell ⟨g, k * 2 + 1, none⟩ u) v (k + 1) P (fun i => if i = k then u else V i) (fun i => if i = k then Z k ++ [z] else Z i) B := by
  have hrow : W'.ownsRow n₀ 129 2 v (k + 1) (dcells P V (k + 1)) := h.row.kept hg (rows_apart h.row (h.by' k (by omega)))
  have keep : ∀ i, i < k → W'.ownsRow (B i) 5 1 (V i) (Z i).length ((Z i).map (Value.int .u8)) := fun i hi => (h.by' i (by omega)).kept hg (by
    by_cases h2 : (V i).ownBlock = none
    · exact .inl h2
    · refine .inr fun e => ?_
      obtain ⟨gi, hgi⟩ : ∃ gi, (V i).ownBlock = some gi := Option.ne_none_iff_exists'.1 h2
      have h3 := h.sep i k hi (by omega) gi hgi
      have h4 := ((h.by' k (by omega)).lt gi (by rw [← e]; exact hgi)).1
      omega)
  have hgv : v.ownBlock = some g := by rw [hv]; rfl
  have off : ∀ {b n : Nat} {y : Value} {xs : List Value}, W'.ownsRow b 5 1 y n xs → (W'.setCell ⟨g, k * 2 + 1, none⟩ u).ownsRow b 5 1 y n xs := fun {b n y xs} hy => by
    refine ⟨hy.1, ?_⟩
    rcases hy.2 with h0 | ⟨g', cap', cur, e, h1, hgb, hh⟩
    · exact .inl h0
    · refine .inr ⟨g', cap', cur, e, h1, ?_, hh⟩
      rw [Below.heap_setCell _ _ _ _ (fun e2 => ?_)]
      · exact hgb
      · rcases rows_apart hrow hy with h5 | h5
        · rw [hgv] at h5; cases h5
        · exact h5 (by rw [hgv, e, show g' = g from e2]; rfl)
  refine ⟨?_, fun i hi => ?_, h.lo, fun i j hij hj gg hgb => ?_, fun i hi => by rw [World.size_setCell]; exact Nat.le_trans (h.hi i hi) hg.size⟩
  · rw [← dcells_set P V k u]
    rw [hv] at hrow ⊢
    exact (hrow.stored (k * 2 + 1) u).1
  · by_cases e : i = k
    · subst e
      simp only [if_true]
      rw [List.length_append, List.map_append]
      exact off hu
    · simp only [if_neg e]
      exact off (keep i (by omega))
  · have hik : ¬ i = k := by omega
    simp only [if_neg hik] at hgb
    exact h.sep i j hij hj gg hgb

end

end Go.Proofs.Ytcjkjenebnodbaa
