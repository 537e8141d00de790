/-
  The contract of the model's UnpackCell, and what compares two answers of UnpackCell.
-/
import Derived.Test.YtmboclfgldgefaaUnpR
import Derived.Test.YtmboclfgldgefaaUnpI
import Derived.Deep.Cut
namespace Go.Proofs.Ytmboclfgldgefaa
open Go.RowKit

/-- What l1Read tells. -/
def readC (zs : List Int) : Cel × Bool :=
  if zs.length = 3 ∧ zs.getD 0 0 = 1 then (⟨0, 1, zs.getD 1 0, zs.getD 2 0, 0, 0, 0, ⟨#[]⟩⟩, stubB (zs.getD 1 0) (zs.getD 2 0))
  else if 6 ≤ zs.length ∧ (zs.getD 0 0 = 0 ∨ zs.getD 0 0 = 2) ∧ (zs.length : Int) = 6 + zs.getD 5 0 then
    (⟨0, zs.getD 0 0, 0, 0, zs.getD 1 0, zs.getD 2 0, zs.getD 3 0 * 256 + zs.getD 4 0, textC zs⟩, faultI (zs.getD 1 0) (zs.getD 2 0) (zs.getD 3 0 * 256 + zs.getD 4 0) (textC zs) == 0)
  else (⟨0, 0, 0, 0, 0, 0, 0, ⟨#[]⟩⟩, false)

theorem unp_read (zs : List Int) : unp zs = if (readC zs).2 = true then (readC zs).1 else errC := by
  unfold unp
  by_cases h0 : zs = []
  · subst h0; simp [readC]
  rw [if_neg h0]
  by_cases h1 : zs.getD 0 0 = 1
  · rw [if_pos h1]
    by_cases h3 : zs.length = 3
    · have e : readC zs = (⟨0, 1, zs.getD 1 0, zs.getD 2 0, 0, 0, 0, ⟨#[]⟩⟩, stubB (zs.getD 1 0) (zs.getD 2 0)) := if_pos ⟨h3, h1⟩
      rw [e]
      by_cases hs : stubB (zs.getD 1 0) (zs.getD 2 0) = true
      · exact (if_pos ⟨h3, hs⟩).trans (if_pos hs).symm
      · exact (if_neg (fun h => hs h.2)).trans (if_neg hs).symm
    · have e : readC zs = (⟨0, 0, 0, 0, 0, 0, 0, ⟨#[]⟩⟩, false) := (if_neg (fun h => h3 h.1)).trans (if_neg (fun h => by omega))
      rw [e]
      exact (if_neg (fun h => h3 h.1)).trans (if_neg (by simp)).symm
  · rw [if_neg h1]
    by_cases h2 : zs.getD 0 0 = 0 ∨ zs.getD 0 0 = 2
    · rw [if_pos h2]
      by_cases h6 : 6 ≤ zs.length ∧ (zs.length : Int) = 6 + zs.getD 5 0
      · have e : readC zs = (⟨0, zs.getD 0 0, 0, 0, zs.getD 1 0, zs.getD 2 0, zs.getD 3 0 * 256 + zs.getD 4 0, textC zs⟩, faultI (zs.getD 1 0) (zs.getD 2 0) (zs.getD 3 0 * 256 + zs.getD 4 0) (textC zs) == 0) :=
          (if_neg (fun h => h1 h.2)).trans (if_pos ⟨h6.1, h2, h6.2⟩)
        rw [e]
        by_cases hq : faultI (zs.getD 1 0) (zs.getD 2 0) (zs.getD 3 0 * 256 + zs.getD 4 0) (textC zs) = 0
        · exact (if_pos ⟨h6.1, h6.2, hq⟩).trans (if_pos (beq_iff_eq.2 hq)).symm
        · exact (if_neg (fun h => hq h.2.2)).trans (if_neg (fun h => hq (beq_iff_eq.1 h))).symm
      · have e : readC zs = (⟨0, 0, 0, 0, 0, 0, 0, ⟨#[]⟩⟩, false) := (if_neg (fun h => h1 h.2)).trans (if_neg (fun h => h6 ⟨h.1, h.2.2⟩))
        rw [e]
        exact (if_neg (fun h => h6 ⟨h.1, h.2.1⟩)).trans (if_neg (by simp)).symm
    · have e : readC zs = (⟨0, 0, 0, 0, 0, 0, 0, ⟨#[]⟩⟩, false) := (if_neg (fun h => h1 h.2)).trans (if_neg (fun h => h2 h.2.1))
      rw [e, if_neg h2]
      exact (if_neg (by simp)).symm

set_option maxHeartbeats 400000 in
theorem eqRow_same (t k v : Int) (s : ByteArray) (w : World) :
    Calls Try.prog 67 #[.agg #[.int .i64 t, .int .i64 k, .int .i64 v, .string s], .agg #[.int .i64 t, .int .i64 k, .int .i64 v, .string s]] w fun e w' => e = .returned (.bool true) ∧ Below w.heap.size w w' := by
  go_enter Try.func67, Try.ntmps67
  go_wp2_with fail
  go_ret
  exact ⟨rfl, by go_grown⟩

end Go.Proofs.Ytmboclfgldgefaa




