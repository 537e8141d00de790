/-
  Runs that were appended: one more behind; what they read as; a source is turned.
-/
import Derived.Test.YtpoccjlngbdjlaaDlt
import Derived.Test.YtpoccjlngbdjlaaDTwo
namespace Go.Proofs.Ytpoccjlngbdjlaa
open Go.RowKit Go.Shelf
set_option linter.unusedVariables false

section
variable {n₀ : Nat} {W W' : World} {v : Value} {k : Nat} {P : Nat → Int} {V : Nat → Value} {Z : Nat → List Int} {B : Nat → Nat}
/-- A run comes behind. -/
theorem Dlt.add (h : Dlt n₀ W v k P V Z B) {v' u : Value} {b : Nat} (hu : W.ownsRow b 5 1 u (Z k).length ((Z k).map (Value.int .u8))) (hb : ∀ i, i < k → ∀ g, (V i).ownBlock = some g → g < b) (hn : n₀ ≤ b) (hbW : b ≤ W.heap.size)
    (hrow : W'.ownsRow n₀ 35 2 v' (k + 1) (dcells P V k ++ [.int .i64 (P k), u])) (hg : W.grownBy W' v.ownBlock) :
    Dlt n₀ W' v' (k + 1) P (fun i => if i = k then u else V i) Z (fun i => if i = k then b else B i) := by
  have keep : ∀ {bb n : Nat} {y : Value} {xs : List Value}, W.ownsRow bb 5 1 y n xs → W'.ownsRow bb 5 1 y n xs := fun {bb n y xs} hy => by
    refine hy.kept hg ?_
    rcases rows_apart h.row hy with h1 | h1
    · by_cases h2 : y.ownBlock = none
      · exact .inl h2
      · exact .inr (fun e2 => h2 (e2.trans h1))
    · exact .inr (fun e2 => h1 e2.symm)
  refine ⟨?_, fun i hi => ?_, fun i hi => ?_, fun i j hij hj g hgb => ?_, fun i hi => by
    by_cases e : i = k
    · simp only [if_pos e]; exact Nat.le_trans hbW hg.size
    · simp only [if_neg e]; exact Nat.le_trans (h.hi i (by omega)) hg.size⟩
  · simp only [dcells, if_true]
    rw [← dcells_congr k (P := P) (V := V) (fun i hi => ⟨rfl, by simp only [if_neg (show ¬ i = k by omega)]⟩)]
    exact hrow
  · by_cases e : i = k
    · subst e
      simp only [if_true]
      exact keep hu
    · simp only [if_neg e]
      exact keep (h.by' i (by omega))
  · by_cases e : i = k
    · simp only [if_pos e]; exact hn
    · simp only [if_neg e]; exact h.lo i (by omega)
  · have hik : ¬ i = k := by omega
    simp only [if_neg hik] at hgb
    by_cases e : j = k
    · simp only [if_pos e]
      exact hb i (by omega) g hgb
    · simp only [if_neg e]; exact h.sep i j hij (by omega) g hgb

theorem Dlt.nil (n₀ : Nat) (W : World) (P : Nat → Int) (V : Nat → Value) (Z : Nat → List Int) (B : Nat → Nat) : Dlt n₀ W (.slice none 0 0) 0 P V Z B :=
  ⟨World.ownsRow_nil _ _ _ _, fun i hi => absurd hi (Nat.not_lt_zero _), fun i hi => absurd hi (Nat.not_lt_zero _), fun i j _ hi => absurd hi (Nat.not_lt_zero _), fun i hi => absurd hi (Nat.not_lt_zero _)⟩

/-- Runs that were appended read as what they are. -/
theorem Dlt.reads (h : Dlt n₀ W v k P V Z B) : ∃ a c A C, v = .slice a k c ∧ RunsRead W a k P A C Z := by
  have each : ∀ i, i < k → ∃ q : Option Addr × Nat, V i = .slice q.1 (Z i).length q.2 ∧ Reads W q.1 (Z i) := fun i hi => by
    rcases (h.by' i hi).2 with ⟨e, h0⟩ | ⟨g, cap, cur, e, _⟩
    · exact ⟨(none, 0), by rw [e, h0], .inl (List.eq_nil_of_length_eq_zero h0)⟩
    · refine ⟨(some ⟨g, 0, none⟩, cap), e, ?_⟩
      have hb := h.by' i hi
      rw [e] at hb
      exact (bytesIn_owns hb).reads
  obtain ⟨q, hq⟩ := Go.Deep.choose_lt each
  rcases h.row.2 with ⟨rfl, rfl⟩ | ⟨g, cap, cur, rfl, hn, hg, _⟩
  · exact ⟨none, 0, fun _ => none, fun _ => 0, rfl, .inl rfl⟩
  · have hr := h.row
    refine ⟨some ⟨g, 0, none⟩, cap, fun i => (q i).1, fun i => (q i).2, rfl, .inr ⟨g, 0, rfl, fun i hi => ⟨?_, ?_, (hq i hi).2⟩⟩⟩
    · rw [Nat.zero_add, hr.cellAt (i * 2) (by omega)]; exact (dcells_at P V k i hi).1
    · rw [Nat.zero_add, hr.cellAt (i * 2 + 1) (by omega), (dcells_at P V k i hi).2, (hq i hi).1]


theorem ownsRow_turned {base lo hi n : Nat} {e : TypeId} {size : Nat} {u : Value} {xs : List Value} (h : W.ownsRow base e size u n xs) (ht : Dr.Turned lo hi W W') (hb : hi ≤ base) : W'.ownsRow base e size u n xs := by
  refine ⟨h.1, ?_⟩
  rcases h.2 with h0 | ⟨g, cap, cur, hv, hg0, hg, hr⟩
  · exact .inl h0
  · exact .inr ⟨g, cap, cur, hv, hg0, (ht.block g (Array.getElem?_eq_some_iff.1 hg).1 (by omega)).trans hg, hr⟩
theorem Dlt.turned {lo hi : Nat} (h : Dlt n₀ W v k P V Z B) (ht : Dr.Turned lo hi W W') (hb : hi ≤ n₀) : Dlt n₀ W' v k P V Z B :=
  ⟨ownsRow_turned h.row ht hb, fun i hi => ownsRow_turned (h.by' i hi) ht (Nat.le_trans hb (h.lo i hi)), h.lo, h.sep, fun i hi => Nat.le_trans (h.hi i hi) ht.size⟩
end

end Go.Proofs.Ytpoccjlngbdjlaa
