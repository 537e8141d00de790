/-
  Runs marked and looked through: markRunS, heldRunS; RunsResult.
-/
import Derived.Test.YtcjkjenebnodbaaDoorSRunC

namespace Go.Proofs.YtcjkjenebnodbaaDoor
open Go.RowKit
set_option linter.unusedVariables false

section
variable {lo hi b n : Nat} {w w' : World} {P P' : Nat → Int} {A : Nat → Option Addr} {C : Nat → Nat} {Z Z' : Nat → List Int} {F : Nat → Nat}

theorem Own.congr (h : Own lo hi w b n P A C Z F) (hP : ∀ i, i < n → P i = P' i) (hZ : ∀ i, i < n → Z i = Z' i) : Own lo hi w b n P' A C Z' F :=
  ⟨h.l0, h.h0, fun i hi => by rw [← hP i hi]; exact h.c0 i hi, fun i hi => by rw [← hZ i hi]; exact h.c1 i hi, h.f0, h.f1, fun i hi => by rw [← hZ i hi]; exact h.by' i hi, fun i hi e => h.fr i hi (by rw [hZ i hi]; exact e), fun i j hi hj hn e1 e2 => h.ne i j hi hj hn (by rw [hZ i hi]; exact e1) (by rw [hZ j hj]; exact e2)⟩

theorem Own.lt (h : Own lo hi w b n P A C Z F) (h0 : 0 < n) : b < w.heap.size := World.block_lt_of_cell? w _ (h.c0 0 h0)

theorem BytesIn.setCellE {l u : Nat} {a : Option Addr} {zs : List Int} (h : BytesIn l u w a zs) {p : Addr} (hp : zs ≠ [] → p.block < l ∨ u ≤ p.block) (v : Value) : BytesIn l u (w.setCell p v) a zs := by
  by_cases e : zs = []
  · exact .inl e
  · exact h.turned (lo := p.block) (hi := p.block + 1) ((Turned.refl _ _ _).setCell (Nat.le_refl _) (Nat.lt_succ_self _) v) (by have := hp e; omega)

/-- The place of the j-th run is turned. -/
theorem Own.setAt (h : Own lo hi w b n P A C Z F) {j : Nat} (hj : j < n) (v : Int) : Own lo hi (w.setCell ⟨b, j * 2, none⟩ (.int .i64 v)) b n (fun i => if i = j then v else P i) A C Z F := by
  refine ⟨h.l0, h.h0, fun i hi => ?_, fun i hi => ?_, fun i hi => by rw [World.frozen?_setCell]; exact h.f0 i hi, fun i hi => by rw [World.frozen?_setCell]; exact h.f1 i hi, fun i hi => (h.by' i hi).setCellE (fun e => by have := h.fr i hi e; simp only; omega) _, h.fr, h.ne⟩
  · by_cases e : i = j
    · subst e
      simp only [if_true]
      exact World.cell?_setCell_same _ _ _ (h.c0 i hi)
    · simp only [if_neg e]
      rw [World.cell?_setCell_other _ _ _ _ (fun e2 => e (by have := congrArg Addr.off e2; simp at this; omega))]
      exact h.c0 i hi
  · rw [World.cell?_setCell_other _ _ _ _ (fun e2 => by have := congrArg Addr.off e2; simp at this; omega)]
    exact h.c1 i hi

/-- The bytes of the j-th run are turned. -/
theorem Own.setBytes (h : Own lo hi w b n P A C Z F) {j : Nat} (hj : j < n) (hne : Z j ≠ []) (ht : Turned (F j) (F j + 1) w w') {ys : List Int} (hl : ys.length = (Z j).length) (hy : BytesIn (F j) (F j + 1) w' (A j) ys) : Own lo hi w' b n P A C (fun i => if i = j then ys else Z i) F := by
  have hfj := h.fr j hj hne
  have hyn : ys ≠ [] := fun e => hne (by rw [e] at hl; exact List.eq_nil_of_length_eq_zero hl.symm)
  refine ⟨h.l0, h.h0, fun i hi => ht.cell (h.c0 i hi) (by simp only; omega), fun i hi => ?_, fun i hi => (ht.frozen (h.c0 i hi) (by simp only; omega)).trans (h.f0 i hi), fun i hi => (ht.frozen (h.c1 i hi) (by simp only; omega)).trans (h.f1 i hi), fun i hi => ?_, fun i hi e => ?_, fun i k hi hk hn e1 e2 => ?_⟩
  · rw [ht.cell (h.c1 i hi) (by simp only; omega)]
    by_cases e : i = j
    · subst e
      simp only [if_true]
      rw [hl]
    · simp only [if_neg e]
  · by_cases e : i = j
    · subst e
      simp only [if_true]
      exact hy
    · simp only [if_neg e]
      exact (h.by' i hi).turnedE ht (fun e2 => by have := h.ne i j hi hj e e2 hne; omega)
  · by_cases e3 : i = j
    · subst e3; exact hfj
    · simp only [if_neg e3] at e; exact h.fr i hi e
  · refine h.ne i k hi hk hn ?_ ?_
    · by_cases e3 : i = j
      · subst e3; exact hne
      · simpa only [if_neg e3] using e1
    · by_cases e3 : k = j
      · subst e3; exact hne
      · simpa only [if_neg e3] using e2
end

/-- The number with which the i-th run's marks begin. -/
def mk (Z : Nat → List Int) (k : Int) (i : Nat) : Int := k + i + took Z i
theorem mk_succ (Z : Nat → List Int) (k : Int) (i : Nat) : mk Z k (i + 1) = mk Z k i + 1 + (Z i).length := by unfold mk; simp only [took]; omega
/-- The bytes of the i-th run, marked. -/
def mZ (Z : Nat → List Int) (k : Int) (i : Nat) : List Int := marked (mk Z k i + 1) (Z i).length (Z i)
theorem mZ_len (Z : Nat → List Int) (k : Int) (i : Nat) : (mZ Z k i).length = (Z i).length := marked_length _ _ _ (Nat.le_refl _)

end Go.Proofs.YtcjkjenebnodbaaDoor
