/-
  Records marked, compared and looked through: eqRecordS, markRecordS, heldRecordS.
-/
import Derived.Test.YtcjkjenebnodbaaDoorSRss

namespace Go.Proofs.YtcjkjenebnodbaaDoor
open Go.RowKit
set_option linter.unusedVariables false

section
variable {lo hi b n : Nat} {w w' : World} {R R' : Nat → Rc} {D : Nat → Ad}
theorem OwnR.congr (h : OwnR lo hi w b n R D) (hR : ∀ i, i < n → R i = R' i) : OwnR lo hi w b n R' D :=
  ⟨h.l0, h.h0, fun i hi => by rw [← hR i hi]; exact h.c0 i hi, fun i hi => by rw [← hR i hi]; exact h.c1 i hi, fun i hi => by rw [← hR i hi]; exact h.c2 i hi, fun i hi => by rw [← hR i hi]; exact h.c3 i hi, h.f0, h.f1, h.f2, h.f3, fun i hi => by rw [← hR i hi]; exact h.rn i hi, h.fr, h.ne⟩
theorem OwnRS.congr {a : Option Addr} (h : OwnRS lo hi w a n R D) (hR : ∀ i, i < n → R i = R' i) : OwnRS lo hi w a n R' D := h.imp id (fun ⟨b, e, ho⟩ => ⟨b, e, ho.congr hR⟩)

/-- The three numbers of the j-th record are turned. -/
theorem OwnR.set3 (h : OwnR lo hi w b n R D) {j : Nat} (hj : j < n) (x y z : Int) :
    OwnR lo hi (((w.setCell ⟨b, j * 4, none⟩ (.int .i64 x)).setCell ⟨b, j * 4 + 1, none⟩ (.int .i64 y)).setCell ⟨b, j * 4 + 2, none⟩ (.int .i64 z)) b n (fun i => if i = j then { R i with k := x, t := y, g := z } else R i) D := by
  have T : Turned b (b + 1) w (((w.setCell ⟨b, j * 4, none⟩ (.int .i64 x)).setCell ⟨b, j * 4 + 1, none⟩ (.int .i64 y)).setCell ⟨b, j * 4 + 2, none⟩ (.int .i64 z)) :=
    (((Turned.refl b (b + 1) w).setCell (p := ⟨b, j * 4, none⟩) (Nat.le_refl b) (Nat.lt_succ_self b) _).setCell (p := ⟨b, j * 4 + 1, none⟩) (Nat.le_refl b) (Nat.lt_succ_self b) _).setCell (p := ⟨b, j * 4 + 2, none⟩) (Nat.le_refl b) (Nat.lt_succ_self b) _
  have oth : ∀ (o : Nat) (v : Value), o ≠ j * 4 → o ≠ j * 4 + 1 → o ≠ j * 4 + 2 → w.cell? ⟨b, o, none⟩ = some v → (((w.setCell ⟨b, j * 4, none⟩ (.int .i64 x)).setCell ⟨b, j * 4 + 1, none⟩ (.int .i64 y)).setCell ⟨b, j * 4 + 2, none⟩ (.int .i64 z)).cell? ⟨b, o, none⟩ = some v := fun o v h0 h1 h2 hv => by
    rw [World.cell?_setCell_other _ _ _ _ (fun e => h2 (by have := congrArg Addr.off e; simp at this; omega)), World.cell?_setCell_other _ _ _ _ (fun e => h1 (by have := congrArg Addr.off e; simp at this; omega)), World.cell?_setCell_other _ _ _ _ (fun e => h0 (by have := congrArg Addr.off e; simp at this; omega))]
    exact hv
  have e0 : (((w.setCell ⟨b, j * 4, none⟩ (.int .i64 x)).setCell ⟨b, j * 4 + 1, none⟩ (.int .i64 y)).setCell ⟨b, j * 4 + 2, none⟩ (.int .i64 z)).cell? ⟨b, j * 4, none⟩ = some (.int .i64 x) := by
    rw [World.cell?_setCell_other _ _ _ _ (fun e => by have := congrArg Addr.off e; simp at this), World.cell?_setCell_other _ _ _ _ (fun e => by have := congrArg Addr.off e; simp at this)]
    exact World.cell?_setCell_same _ _ _ (h.c0 j hj)
  have e1 : (((w.setCell ⟨b, j * 4, none⟩ (.int .i64 x)).setCell ⟨b, j * 4 + 1, none⟩ (.int .i64 y)).setCell ⟨b, j * 4 + 2, none⟩ (.int .i64 z)).cell? ⟨b, j * 4 + 1, none⟩ = some (.int .i64 y) := by
    rw [World.cell?_setCell_other _ _ _ _ (fun e => by have := congrArg Addr.off e; simp at this)]
    refine World.cell?_setCell_same _ _ _ (u := .int .i64 (R j).t) ?_
    rw [World.cell?_setCell_other _ _ _ _ (fun e => by have := congrArg Addr.off e; simp at this)]
    exact h.c1 j hj
  have e2 : (((w.setCell ⟨b, j * 4, none⟩ (.int .i64 x)).setCell ⟨b, j * 4 + 1, none⟩ (.int .i64 y)).setCell ⟨b, j * 4 + 2, none⟩ (.int .i64 z)).cell? ⟨b, j * 4 + 2, none⟩ = some (.int .i64 z) := by
    refine World.cell?_setCell_same _ _ _ (u := .int .i64 (R j).g) ?_
    rw [World.cell?_setCell_other _ _ _ _ (fun e => by have := congrArg Addr.off e; simp at this), World.cell?_setCell_other _ _ _ _ (fun e => by have := congrArg Addr.off e; simp at this)]
    exact h.c2 j hj
  refine ⟨h.l0, h.h0, fun i hi => ?_, fun i hi => ?_, fun i hi => ?_, fun i hi => ?_, fun i hi => ?_, fun i hi => ?_, fun i hi => ?_, fun i hi => ?_, fun i hi => ?_, h.fr, h.ne⟩
  · by_cases e : i = j
    · subst e; simp only [if_true]; exact e0
    · simp only [if_neg e]; exact oth _ _ (by omega) (by omega) (by omega) (h.c0 i hi)
  · by_cases e : i = j
    · subst e; simp only [if_true]; exact e1
    · simp only [if_neg e]; exact oth _ _ (by omega) (by omega) (by omega) (h.c1 i hi)
  · by_cases e : i = j
    · subst e; simp only [if_true]; exact e2
    · simp only [if_neg e]; exact oth _ _ (by omega) (by omega) (by omega) (h.c2 i hi)
  · by_cases e : i = j
    · subst e; simp only [if_true]; exact oth _ _ (by omega) (by omega) (by omega) (h.c3 i hi)
    · simp only [if_neg e]; exact oth _ _ (by omega) (by omega) (by omega) (h.c3 i hi)
  · rw [World.frozen?_setCell, World.frozen?_setCell, World.frozen?_setCell]; exact h.f0 i hi
  · rw [World.frozen?_setCell, World.frozen?_setCell, World.frozen?_setCell]; exact h.f1 i hi
  · rw [World.frozen?_setCell, World.frozen?_setCell, World.frozen?_setCell]; exact h.f2 i hi
  · rw [World.frozen?_setCell, World.frozen?_setCell, World.frozen?_setCell]; exact h.f3 i hi
  · have hf := h.fr i hi
    have := (h.rn i hi).turned T (by omega)
    by_cases e : i = j
    · simp only [if_pos e]; exact this
    · simp only [if_neg e]; exact this

/-- The runs of the j-th record are turned. -/
theorem OwnR.setRuns (h : OwnR lo hi w b n R D) {j : Nat} (hj : j < n) {r : Rc} (hk : r.k = (R j).k) (ht' : r.t = (R j).t) (hg : r.g = (R j).g) (hn : r.n = (R j).n) (ht : Turned (D j).lo (D j).hi w w') (hr : RunsAt w' r (D j)) : OwnR lo hi w' b n (fun i => if i = j then r else R i) D := by
  have hf := h.fr j hj
  have hl := h.l0
  have hh := h.h0
  refine ⟨h.l0, h.h0, fun i hi => ?_, fun i hi => ?_, fun i hi => ?_, fun i hi => ?_, fun i hi => (ht.frozen (h.c0 i hi) (by simp only; omega)).trans (h.f0 i hi), fun i hi => (ht.frozen (h.c1 i hi) (by simp only; omega)).trans (h.f1 i hi), fun i hi => (ht.frozen (h.c2 i hi) (by simp only; omega)).trans (h.f2 i hi), fun i hi => (ht.frozen (h.c3 i hi) (by simp only; omega)).trans (h.f3 i hi), fun i hi => ?_, h.fr, h.ne⟩
  · rw [ht.cell (h.c0 i hi) (by simp only; omega)]
    by_cases e : i = j
    · subst e; simp only [if_true]; rw [hk]
    · simp only [if_neg e]
  · rw [ht.cell (h.c1 i hi) (by simp only; omega)]
    by_cases e : i = j
    · subst e; simp only [if_true]; rw [ht']
    · simp only [if_neg e]
  · rw [ht.cell (h.c2 i hi) (by simp only; omega)]
    by_cases e : i = j
    · subst e; simp only [if_true]; rw [hg]
    · simp only [if_neg e]
  · rw [ht.cell (h.c3 i hi) (by simp only; omega)]
    by_cases e : i = j
    · subst e; simp only [if_true]; rw [hn]
    · simp only [if_neg e]
  · by_cases e : i = j
    · subst e; simp only [if_true]; exact hr
    · simp only [if_neg e]
      refine (h.rn i hi).turned ht ?_
      rcases Nat.lt_or_gt_of_ne e with h1 | h1
      · have := h.ne i j h1 hj; omega
      · have := h.ne j i h1 hi; omega
end

/-- How many marks the first i records take. -/
def tookR (R : Nat → Rc) : Nat → Nat
  | 0 => 0
  | i + 1 => tookR R i + 3 + (R i).n + took (R i).Z (R i).n
theorem tookR_mono (R : Nat → Rc) (k n : Nat) (h : k ≤ n) : tookR R k ≤ tookR R n := by
  induction n with
  | zero => have : k = 0 := by omega
            subst this; exact Nat.le_refl _
  | succ n ih =>
    by_cases e : k = n + 1
    · subst e; exact Nat.le_refl _
    · have := ih (by omega); simp only [tookR]; omega
theorem tookR_one (R : Nat → Rc) (k n : Nat) (h : k < n) : 3 + (R k).n + took (R k).Z (R k).n ≤ tookR R n := by
  have := tookR_mono R (k + 1) n h
  simp only [tookR] at this
  omega
/-- The number with which the i-th record's marks begin. -/
def rmk (R : Nat → Rc) (k : Int) (i : Nat) : Int := k + tookR R i
/-- The i-th record, marked. -/
def mR (R : Nat → Rc) (k : Int) (i : Nat) : Rc := { k := rmk R k i, t := rmk R k i + 1, g := rmk R k i + 1 + 1, n := (R i).n, P := mk (R i).Z (rmk R k i + 1 + 1 + 1), Z := mZ (R i).Z (rmk R k i + 1 + 1 + 1) }
theorem rmk_succ (R : Nat → Rc) (k : Int) (i : Nat) : rmk R k (i + 1) = mk (R i).Z (rmk R k i + 1 + 1 + 1) (R i).n := by unfold rmk mk; simp only [tookR]; omega

end Go.Proofs.YtcjkjenebnodbaaDoor
