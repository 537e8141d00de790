/-
  What came in, opened: a slice of rows.
-/
import Derived.Test.YtmnnkgcknkhgdaaGreatDoorRwg
import Derived.Deep.SlicePairs
import Derived.OpenShut
import Derived.ProofKit
namespace Go.Proofs.YtmnnkgcknkhgdaaGreatDoor
open Go.ChangeShapes Go.WideShapes Go.RowKit
set_option linter.unusedVariables false

structure IsRows (w : World) (a : Option Addr) (len : Nat) (rs : List Rw) : Prop where
  rd : Rs rwE 4 w a rs
  eq : rs.length = len
  ln : len ≤ 9223372036854775807
  sz : ∀ r ∈ rs, r.s.size ≤ maxLen
  wf : ∀ r ∈ rs, (Lit.int .i64 r.t).wf = true ∧ (Lit.int .i64 r.k).wf = true ∧ (Lit.int .i64 r.v).wf = true

instance : Inhabited Rw := ⟨⟨0, 0, 0, ⟨#[]⟩⟩⟩
theorem four {α : Type} (xs : List α) (h : xs.length = 4) : ∃ a b c d, xs = [a, b, c, d] := by
  match xs, h with
  | [a, b, c, d], _ => exact ⟨a, b, c, d, rfl⟩

theorem list_of_fun {α : Type} (q : Nat → α) (n : Nat) {i : Nat} {r : α} (h : ((List.range n).map q)[i]? = some r) : i < n ∧ r = q i := by
  rw [List.getElem?_map] at h
  cases e : (List.range n)[i]? with
  | none => rw [e] at h; simp at h
  | some m =>
    rw [e] at h
    simp at h
    obtain ⟨hl, hm⟩ := List.getElem?_eq_some_iff.1 e
    simp at hl hm
    exact ⟨hl, by rw [← h, ← hm]⟩

end Go.Proofs.YtmnnkgcknkhgdaaGreatDoor

