/-
  The contract of the model's l2Bent: some bytes, a page or nearly one, whatever is drawn.
-/
import Derived.Test.YtcjkjenebnodbaaDRgh
namespace Go.Proofs.Ytcjkjenebnodbaa.Dr
open Go.RowKit
set_option linter.unusedVariables false

/-- Bytes in a new row: 63 or 64 of them. -/
def BtAt (base : Nat) (w : World) (v : Value) : Prop := ∃ g o m d ys, v = .slice (some ⟨g, o, none⟩) m d ∧ List.length ys = m ∧ 1 ≤ m ∧ m ≤ 64 ∧ m ≤ d ∧ BytesIn base w.heap.size w (some ⟨g, o, none⟩) ys ∧ ∀ z ∈ ys, 0 ≤ z ∧ z ≤ 255

theorem bytesIn_tail {lo hi g : Nat} {w : World} {zs : List Int} (h : BytesIn lo hi w (some ⟨g, 0, none⟩) zs) : BytesIn lo hi w (some ⟨g, 1, none⟩) (zs.drop 1) := by
  rcases h with h | ⟨b, off, ha, h1, h2, hc, hf⟩
  · exact .inl (by rw [h]; rfl)
  · simp only [Option.some.injEq, Addr.mk.injEq, and_true] at ha
    obtain ⟨rfl, rfl⟩ := ha
    refine .inr ⟨g, 1, rfl, h1, h2, fun i hi => ?_, fun i hi => ?_⟩
    · have hl : 1 + i < zs.length := by rw [List.length_drop] at hi; omega
      have := hc (1 + i) hl
      rw [Nat.zero_add] at this
      rw [this]
      simp [List.getD, Nat.add_comm]
    · have hl : 1 + i < zs.length := by rw [List.length_drop] at hi; omega
      have := hf (1 + i) hl
      rw [Nat.zero_add] at this
      exact this

theorem bytesIn_store {lo hi g : Nat} {w : World} {zs : List Int} (h : BytesIn lo hi w (some ⟨g, 0, none⟩) zs) (j : Nat) (hj : j < zs.length) (y : Int) : BytesIn lo hi (w.setCell ⟨g, j, none⟩ (.int .u8 y)) (some ⟨g, 0, none⟩) (zs.set j y) := by
  rcases h with h | ⟨b, off, ha, h1, h2, hc, hf⟩
  · rw [h] at hj; simp at hj
  · cases ha
    refine .inr ⟨g, 0, rfl, h1, h2, fun i hi => ?_, fun i hi => ?_⟩
    · simp only [List.length_set] at hi
      have hci := hc i hi
      rw [Nat.zero_add] at hci ⊢
      by_cases e : i = j
      · subst e
        rw [World.cell?_setCell_same _ _ _ hci]
        simp [List.getD, hi]
      · rw [World.cell?_setCell_other _ _ _ _ (fun h => e (by have := congrArg Addr.off h; simp at this; omega)), hci]
        simp [List.getD, Ne.symm e]
    · simp only [List.length_set] at hi
      rw [World.frozen?_setCell]
      exact hf i hi

theorem bytesIn_at {lo hi g : Nat} {w : World} {zs : List Int} (h : BytesIn lo hi w (some ⟨g, 0, none⟩) zs) (j : Nat) (hj : j < zs.length) : w.cell? ⟨g, j, none⟩ = some (.int .u8 (zs.getD j 0)) ∧ w.frozen? ⟨g, j, none⟩ = false ∧ lo ≤ g := by
  rcases h with h | ⟨b, off, ha, h1, _, hc, hf⟩
  · rw [h] at hj; simp at hj
  · cases ha
    have e1 := hc j hj
    have e2 := hf j hj
    rw [Nat.zero_add] at e1 e2
    exact ⟨e1, e2, h1⟩

end Go.Proofs.Ytcjkjenebnodbaa.Dr

