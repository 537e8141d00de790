/-
  The model's l7Delete and DeleteEdits.
-/
import Derived.Test.YtnfolgoloaeanaaGreatUFnr

namespace Go.Proofs.YtnfolgoloaeanaaGreat
open Go.RowKit
set_option linter.unusedVariables false

theorem HpS.out {n₀ : Nat} {X : World} {ob : Nat} {es : List (Int × List Int)} {ps : List (List Int)} {x1 : Option Addr} {k1 : Nat} {V1 : List Value} {x2 : Option Addr} {k2 : Nat} {V2 : List Value} {V : World} (h : HpS n₀ X ob es ps x1 k1 V1 x2 k2 V2 V) {rb m : Nat} (hr : rb < n₀) (hm : m ≤ n₀) :
    Ans m (((V.setCell ⟨rb, 0, none⟩ (.int .i64 0)).setCell ⟨rb, 1, none⟩ (.slice x1 es.length k1)).setCell ⟨rb, 2, none⟩ (.slice x2 ps.length k2)) (.slice x1 es.length k1) es V1 (.slice x2 ps.length k2) ps V2 := by
  have h1 : ∀ g, blkP (.slice x1 es.length k1) V1 g → some rb ≠ some g := fun g hg e => by have := (h.a.e.lt hg).1; cases e; omega
  have h2 : ∀ g, blkP (.slice x2 ps.length k2) V2 g → some rb ≠ some g := fun g hg e => by have := (h.a.p.lt hg).1; cases e; omega
  exact (((h.a.base hm).kept (grownOut V rb 0 _) h1 h2).kept (grownOut _ rb 1 _) h1 h2).kept (grownOut _ rb 2 _) h1 h2
theorem AePost.mk0 {es : List (Int × List Int)} {qs : List (List Int)} {q : Int} {es' : List (Int × List Int)} {qs' : List (List Int)} {v1 v2 : Value} {V1 V2 : List Value} {w w' : World} (hq : q = 0) (h1 : es = es') (h2 : qs = qs') (hg : Below w.heap.size w w') (hA : Ans w.heap.size w' v1 es' V1 v2 qs' V2) : AePost q es qs w (.returned (.agg #[.int .i64 0, v1, v2])) w' :=
  ⟨v1, V1, v2, V2, by rw [hq], hg, by rw [h1, h2]; exact hA⟩
theorem AePost.nil {es : List (Int × List Int)} {qs : List (List Int)} {q : Int} {w w' : World} (h1 : es = []) (h2 : qs = []) (hg : Below w.heap.size w w') : AePost q es qs w (.returned (.agg #[.int .i64 q, .slice none 0 0, .slice none 0 0])) w' :=
  ⟨_, [], _, [], rfl, hg, by rw [h1, h2]; exact ans_nil _ _⟩

/-- What is read of the cell that was found. -/
def SpH (b pn sn : Nat) (f cp cl : Int) (V : World) : Prop := V.cell? ⟨b, 0, none⟩ = some (.int .i64 (pn : Nat)) ∧ V.cell? ⟨b, 1, none⟩ = some (.int .i64 (sn : Nat)) ∧ V.cell? ⟨b, 3, none⟩ = some (.int .i64 f) ∧ V.cell? ⟨b, 4, none⟩ = some (.int .i64 cp) ∧ V.cell? ⟨b, 5, none⟩ = some (.int .i64 cl)
theorem SpH.below {b pn sn : Nat} {f cp cl : Int} {V V' : World} {B : Nat} (h : SpH b pn sn f cp cl V) (hb : Below B V V') (hB : b < B) : SpH b pn sn f cp cl V' :=
  ⟨(hb.cell (p := ⟨b, 0, none⟩) hB).trans h.1, (hb.cell (p := ⟨b, 1, none⟩) hB).trans h.2.1, (hb.cell (p := ⟨b, 3, none⟩) hB).trans h.2.2.1, (hb.cell (p := ⟨b, 4, none⟩) hB).trans h.2.2.2.1, (hb.cell (p := ⟨b, 5, none⟩) hB).trans h.2.2.2.2⟩

end Go.Proofs.YtnfolgoloaeanaaGreat

