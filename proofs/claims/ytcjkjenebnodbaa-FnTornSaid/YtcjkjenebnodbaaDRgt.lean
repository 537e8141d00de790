/-
  The contract of the model's l2Right: a page without a fault, whatever is drawn.
-/
import Derived.Test.YtcjkjenebnodbaaDLpq
import Derived.Test.YtcjkjenebnodbaaDDrp
import Derived.Test.YtcjkjenebnodbaaDSom
import Derived.Test.YtcjkjenebnodbaaDScp
import Derived.Lib.SmallJoins
namespace Go.Proofs.Ytcjkjenebnodbaa.Dr
open Go.RowKit
set_option linter.unusedVariables false

/-- A page without a fault in a new row. -/
def PgAt (base : Nat) (w : World) (v : Value) : Prop := ∃ g dd ys, v = .slice (some ⟨g, 0, none⟩) 64 dd ∧ 64 ≤ dd ∧ base ≤ g ∧ BytesIn base w.heap.size w (some ⟨g, 0, none⟩) ys ∧ Fine ys

theorem PgAt.turned {base lo hi : Nat} {w w' : World} {v : Value} (h : PgAt base w v) (ht : Turned lo hi w w') (hb : hi ≤ base) : PgAt base w' v := by
  obtain ⟨g, dd, ys, hv, h1, h2, h3, h4⟩ := h
  exact ⟨g, dd, ys, hv, h1, h2, (h3.turned ht (.inr hb)).mono (Nat.le_refl _) ht.size, h4⟩

theorem PgAt.of {base g dd : Nat} {w : World} {ys : List Int} (h1 : 64 ≤ dd) (h2 : base ≤ g) (hA : Sl64 w g ys) (hF : Fine ys) : PgAt base w (.slice (some ⟨g, 0, none⟩) 64 dd) := ⟨g, dd, ys, rfl, h1, h2, hA.bytes h2 hA.lt, hF⟩

theorem Gath.form {base k : Nat} {w : World} {v : Value} (h : Gath base w v k) (h1 : 1 ≤ k) : ∃ x cap ys, v = .slice (some ⟨x, 0, none⟩) k cap ∧ List.length ys = k ∧ (∀ z ∈ ys, 0 ≤ z ∧ z ≤ 255) ∧ BytesIn base w.heap.size w (some ⟨x, 0, none⟩) ys := by
  obtain ⟨ys, yl, yb, hown⟩ := h
  obtain ⟨x, cap, rfl⟩ := Joins.ownsRow_form hown (by omega)
  have hlt := hown.lt x rfl
  refine ⟨x, cap, ys, rfl, yl, yb, .inr ⟨x, 0, rfl, hlt.1, hlt.2, fun i hi => ?_, fun i hi => ?_⟩⟩
  · rw [Nat.zero_add, hown.cellAt i (by omega)]
    simp [List.getElem?_eq_getElem hi, List.getD]
  · rw [Nat.zero_add]; exact hown.frozenAt i

theorem fine_new (f : Int) (h0 : 0 ≤ f) (h1 : f ≤ 255) : Fine (newBytes f) := by
  have e0 : nb (newBytes f) 0 = 0 := rfl
  have e1 : nb (newBytes f) 1 = 64 := rfl
  refine Dirs.fine ⟨⟨by simp [newBytes], fun z hz => ?_⟩, by rw [e0]; omega, by rw [e0, e1]; omega, by rw [e1]; omega, fun j hj => absurd hj (by rw [e0]; omega), fun i k hk hi => absurd hi (by rw [e0]; omega), fun h0 => absurd h0 (by rw [e0]; omega)⟩
  simp only [newBytes, List.mem_cons, List.mem_replicate] at hz
  omega

end Go.Proofs.Ytcjkjenebnodbaa.Dr

