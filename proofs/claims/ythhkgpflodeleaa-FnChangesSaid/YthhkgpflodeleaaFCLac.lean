/-
  The model's ApplyChanges.
-/
import Derived.Test.YthhkgpflodeleaaFCLdo
import Derived.Test.YthhkgpflodeleaaFCChq

namespace Go.Proofs.Ythhkgpflodeleaa
open Go.RowKit Go.Maps
set_option linter.unusedVariables false

theorem rowsQ_ris {rs : List Rw} (h : rowsQ rs = 0) : RisL rs ∧ rs.length ≤ 60 := by
  have h0 := rowsQ_zero h
  unfold rowsQ at h
  split at h
  · exact absurd h (by decide)
  · obtain ⟨h1, h2, _⟩ := rsF_zero rs none h
    exact ⟨⟨h2, fun r hr => rwF_zero (h1 r hr)⟩, h0.1⟩
def acQ (rs : List Rw) (cs : List Chg) : Int := if rowsQ rs = 0 then (if (apR rs cs).1 = 0 then (if 60 < (apR rs cs).2.length then 2 else 0) else (apR rs cs).1) else rowsQ rs
def acL (rs : List Rw) (cs : List Chg) : List Rw := if acQ rs cs = 0 then (apR rs cs).2 else []
theorem acQ_bad {rs : List Rw} {cs : List Chg} (h : rowsQ rs ≠ 0) : acQ rs cs = rowsQ rs := by unfold acQ; rw [if_neg h]
theorem acQ_code {rs : List Rw} {cs : List Chg} (h : rowsQ rs = 0) {q : Int} {l : List Rw} (ha : apR rs cs = (q, l)) (hq : q ≠ 0) : acQ rs cs = q := by unfold acQ; rw [if_pos h, ha]; simp [hq]
theorem acQ_end {rs : List Rw} {cs : List Chg} (h : rowsQ rs = 0) {l : List Rw} (ha : apR rs cs = (0, l)) : acQ rs cs = (if 60 < l.length then 2 else 0) := by unfold acQ; rw [if_pos h, ha]; simp
theorem acL_nil {rs : List Rw} {cs : List Chg} (h : acQ rs cs ≠ 0) : acL rs cs = [] := by unfold acL; rw [if_neg h]
theorem acL_len (rs : List Rw) (cs : List Chg) : (acL rs cs).length ≤ 60 := by
  unfold acL
  split
  · rename_i h
    unfold acQ at h
    split at h
    · split at h
      · split at h
        · exact absurd h (by decide)
        · omega
      · rename_i h1; exact absurd h h1
    · rename_i h1; exact absurd h h1
  · simp
/-- What ApplyChanges hands back. -/
def AcPost (rs : List Rw) (cs : List Chg) (w : World) (e : Ending) (w' : World) : Prop :=
  ∃ v, e = .returned (.agg #[.int .i64 (acQ rs cs), v]) ∧ Below w.heap.size w w' ∧ w'.ownsRow w.heap.size 44 4 v (acL rs cs).length (flat rwE (acL rs cs))
theorem AcPost.form {rs : List Rw} {cs : List Chg} {w w' : World} {e : Ending} (h : AcPost rs cs w e w') : ∃ a c, e = .returned (.agg #[.int .i64 (acQ rs cs), .slice a (acL rs cs).length c]) ∧ Below w.heap.size w w' ∧ SlIn rwE 4 w.heap.size w'.heap.size w' a (acL rs cs) := by
  obtain ⟨v, rfl, g, ho⟩ := h
  obtain ⟨a, c, rfl, _, hi, _⟩ := SlIn.ofRow rwE_len ho
  exact ⟨a, c, rfl, g, hi⟩
theorem AcPost.code {rs : List Rw} {cs : List Chg} {w w' : World} {q : Int} (hq : acQ rs cs = q) (h0 : q ≠ 0) (g : Below w.heap.size w w') : AcPost rs cs w (.returned (.agg #[.int .i64 q, .slice none 0 0])) w' := by
  refine ⟨_, by rw [hq], g, ?_⟩
  rw [acL_nil (by rw [hq]; exact h0)]
  exact ownsRow_nil _ _ _ _
theorem drop_chg {cs : List Chg} {j : Nat} {c : Chg} (h : cs[j]? = some c) : cs.drop j = c :: cs.drop (j + 1) := by
  obtain ⟨hl, e⟩ := List.getElem?_eq_some_iff.1 h
  rw [← e]; exact List.drop_eq_getElem_cons hl

end Go.Proofs.Ythhkgpflodeleaa
