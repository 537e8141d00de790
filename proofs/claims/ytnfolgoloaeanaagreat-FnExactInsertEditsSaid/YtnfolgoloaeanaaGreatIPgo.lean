/-
  Pages in memory of one's own: compared, marked, looked through.
-/
import Derived.Test.YtnfolgoloaeanaaGreatIEdc
import Derived.Test.YtnfolgoloaeanaaGreatIPgs

namespace Go.Proofs.YtnfolgoloaeanaaGreat
open Go.RowKit
set_option linter.unusedVariables false

/-- Block b, one of lo to below hi, holds n slices of bytes: of the i-th the bytes Z i, which stand at A i in block F i; no two share any. -/
structure OwnP (lo hi : Nat) (w : World) (b n : Nat) (A : Nat → Option Addr) (C : Nat → Nat) (Z : Nat → List Int) (F : Nat → Nat) : Prop where
  l0 : lo ≤ b
  h0 : b < hi
  c1 : ∀ i, i < n → w.cell? ⟨b, i, none⟩ = some (.slice (A i) (Z i).length (C i))
  f1 : ∀ i, i < n → w.frozen? ⟨b, i, none⟩ = false
  by' : ∀ i, i < n → BytesIn (F i) (F i + 1) w (A i) (Z i)
  fr : ∀ i, i < n → Z i ≠ [] → lo ≤ F i ∧ F i < hi ∧ F i ≠ b
  ne : ∀ i j, i < n → j < n → i ≠ j → Z i ≠ [] → Z j ≠ [] → F i ≠ F j

section
variable {lo hi b n : Nat} {w w' : World} {A : Nat → Option Addr} {C : Nat → Nat} {Z Z' : Nat → List Int} {F : Nat → Nat}
theorem OwnP.turned (h : OwnP lo hi w b n A C Z F) {x y : Nat} (ht : Turned x y w w') (hn : hi ≤ x ∨ y ≤ lo) : OwnP lo hi w' b n A C Z F := by
  have h1 := h.l0
  have h2 := h.h0
  exact ⟨h.l0, h.h0, fun i hi => ht.cell (h.c1 i hi) (by simp only; omega), fun i hi => (ht.frozen (h.c1 i hi) (by simp only; omega)).trans (h.f1 i hi),
    fun i hi => (h.by' i hi).turnedE ht (fun e => by have := h.fr i hi e; omega), h.fr, h.ne⟩
theorem OwnP.below (h : OwnP lo hi w b n A C Z F) (hb : Below w.heap.size w w') : OwnP lo hi w' b n A C Z F :=
  h.turned (x := hi) (y := hi) (Turned.ofBelow hb) (.inl (Nat.le_refl _))
theorem OwnP.mono (h : OwnP lo hi w b n A C Z F) {lo' hi' : Nat} (hl : lo' ≤ lo) (hh : hi ≤ hi') : OwnP lo' hi' w b n A C Z F :=
  ⟨Nat.le_trans hl h.l0, Nat.lt_of_lt_of_le h.h0 hh, h.c1, h.f1, h.by', fun i hi e => by have := h.fr i hi e; omega, h.ne⟩
theorem OwnP.congr (h : OwnP lo hi w b n A C Z F) (hZ : ∀ i, i < n → Z i = Z' i) : OwnP lo hi w b n A C Z' F :=
  ⟨h.l0, h.h0, fun i hi => by rw [← hZ i hi]; exact h.c1 i hi, h.f1, fun i hi => by rw [← hZ i hi]; exact h.by' i hi, fun i hi e => h.fr i hi (by rw [hZ i hi]; exact e), fun i j hi hj hn e1 e2 => h.ne i j hi hj hn (by rw [hZ i hi]; exact e1) (by rw [hZ j hj]; exact e2)⟩
theorem OwnP.setBytes (h : OwnP lo hi w b n A C Z F) {j : Nat} (hj : j < n) (hne : Z j ≠ []) (ht : Turned (F j) (F j + 1) w w') {ys : List Int} (hl : ys.length = (Z j).length) (hy : BytesIn (F j) (F j + 1) w' (A j) ys) : OwnP lo hi w' b n A C (fun i => if i = j then ys else Z i) F := by
  have hfj := h.fr j hj hne
  refine ⟨h.l0, h.h0, fun i hi => ?_, fun i hi => (ht.frozen (h.c1 i hi) (by simp only; omega)).trans (h.f1 i hi), fun i hi => ?_, fun i hi e => ?_, fun i k hi hk hn e1 e2 => ?_⟩
  · rw [ht.cell (h.c1 i hi) (by simp only; omega)]
    by_cases e : i = j
    · subst e
      simp only [if_true]
      rw [hl]
    · simp only [if_neg e]
  · by_cases e : i = j
    · subst e
      simp only [if_true]
      exact hy
    · simp only [if_neg e]
      exact (h.by' i hi).turnedE ht (fun e2 => by have := h.ne i j hi hj e e2 hne; omega)
  · by_cases e3 : i = j
    · subst e3; exact hfj
    · simp only [if_neg e3] at e; exact h.fr i hi e
  · refine h.ne i k hi hk hn ?_ ?_
    · by_cases e3 : i = j
      · subst e3; exact hne
      · simpa only [if_neg e3] using e1
    · by_cases e3 : k = j
      · subst e3; exact hne
      · simpa only [if_neg e3] using e2
end

/-- The number with which the i-th page's marks begin, and its bytes then. -/
def mkP (Z : Nat → List Int) (k : Int) (i : Nat) : Int := k + took Z i
theorem mkP_succ (Z : Nat → List Int) (k : Int) (i : Nat) : mkP Z k (i + 1) = mkP Z k i + (Z i).length := by unfold mkP; simp only [took]; omega
def mZP (Z : Nat → List Int) (k : Int) (i : Nat) : List Int := marked (mkP Z k i) (Z i).length (Z i)
theorem mZP_len (Z : Nat → List Int) (k : Int) (i : Nat) : (mZP Z k i).length = (Z i).length := marked_length _ _ _ (Nat.le_refl _)

end Go.Proofs.YtnfolgoloaeanaaGreat

