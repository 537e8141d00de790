/-
  The contract of writeAheadOfLow.
-/
import Derived.Test.YtcjkjenebnodbaaDWri
namespace Go.Proofs.Ytcjkjenebnodbaa.Dr
open Go.RowKit
set_option linter.unusedVariables false

theorem mem_splice {zs cs : List Int} {p : Nat} {z : Int} (h : z ∈ splice zs p cs) : z ∈ zs ∨ z ∈ cs := by
  unfold splice at h
  rw [List.mem_append, List.mem_append] at h
  rcases h with h | h | h
  · exact .inl (List.mem_of_mem_take h)
  · exact .inr h
  · exact .inl (List.mem_of_mem_drop h)
theorem isPg_splice {zs cs : List Int} {p : Nat} (h : IsPg zs) (hc : ∀ z ∈ cs, 0 ≤ z ∧ z ≤ 255) (hl : p + cs.length ≤ 64) : IsPg (splice zs p cs) :=
  ⟨by rw [length_splice _ _ _ (by rw [h.len]; exact hl)]; exact h.len, fun z hz => by rcases mem_splice hz with h1 | h1; exact h.bd z h1; exact hc z h1⟩
theorem isPg_set {zs : List Int} (h : IsPg zs) (i v : Nat) (hv : v ≤ 255) : IsPg (zs.set i (v : Int)) :=
  ⟨by rw [List.length_set]; exact h.len, fun z hz => by
    rcases List.mem_or_eq_of_mem_set hz with h1 | h1
    · exact h.bd z h1
    · rw [h1]; omega⟩
theorem isPg_span {zs : List Int} (h : IsPg zs) (s p l : Nat) (hp : p ≤ 255) (hl : l ≤ 255) : IsPg (spanSet zs s p l) := isPg_set (isPg_set h _ p hp) _ l hl
theorem nb_set_same {zs : List Int} (i v : Nat) (hi : i < zs.length) : nb (zs.set i (v : Int)) i = v := by simp [nb, byt, List.getD, hi]
theorem nb_set_other {zs : List Int} (i j : Nat) (v : Int) (hij : i ≠ j) : nb (zs.set i v) j = nb zs j := by simp [nb, byt, List.getD, hij]
theorem nb_span_place {zs : List Int} (h : IsPg zs) (s p l : Nat) (hs : s < 31) : nb (spanSet zs s p l) (2 + 2 * s) = p := by
  unfold spanSet
  rw [nb_set_other _ _ _ (by omega), nb_set_same _ _ (by rw [h.len]; omega)]
theorem nb_span_len {zs : List Int} (h : IsPg zs) (s p l : Nat) (hs : s < 30) : nb (spanSet zs s p l) (3 + 2 * s) = l := by
  unfold spanSet
  rw [nb_set_same _ _ (by rw [List.length_set, h.len]; omega)]

def WaS (w : World) (b : Nat) (V : World) : Prop := (∃ xs, Arr V b xs) ∧ Turned b (b + 1) w V
theorem waKeep {w : World} {b : Nat} {W V : World} (h : WaS w b W) (hb : Below W.heap.size W V) : WaS w b V := ⟨⟨_, h.1.choose_spec.grown hb⟩, h.2.trans (Turned.ofBelow hb)⟩

/-- A page behind writeAheadOfLow. -/
def aheadP (zs : List Int) (s : Nat) (cs : List Int) : List Int := (spanSet (splice zs (nb zs 1 - cs.length) cs) s (nb zs 1 - cs.length) cs.length).set 1 ((nb zs 1 - cs.length : Nat) : Int)

end Go.Proofs.Ytcjkjenebnodbaa.Dr

