/-
  Plain facts: what SlotIn tells behind a cell was put, and behind a page was compacted.
-/
import Derived.Test.YtjbopcplpgoiaaaKef
import Derived.Test.YtjbopcplpgoiaaaSlo
namespace Go.Proofs.Ytjbopcplpgoiaaa
set_option linter.unusedVariables false

theorem wrgN_none (zs : List Int) : ∀ m, (∀ s, s < m → wrgS zs s = false) → wrgN zs m = false
  | 0, _ => rfl
  | m + 1, h => by
    rw [wrgN, wrgN_none zs m (fun s hs => h s (by omega)), h m (by omega)]
    rfl

theorem Fine.flt {zs : List Int} (h : Fine zs) : fltOf zs = 0 := by
  have hh : headB zs = false := by
    have h1 := h.few
    have h2 := h.dir
    have h3 := h.low
    simp [headB]
    omega
  unfold fltOf
  rw [if_pos h.pg.len]
  unfold faultP
  rw [hh, wrgN_none zs _ h.ok, h.com, h.ends]
  rfl

theorem hasC_nat (zs : List Int) (i : Nat) : hasC zs (i : Int) = (decide (i < nb zs 0) && !(empB zs i)) := by
  unfold hasC inR
  rw [Int.toNat_natCast]
  congr 1
  by_cases h : i < nb zs 0
  · rw [decide_eq_true h, decide_eq_true (show (0 : Int) ≤ (i : Int) by omega), decide_eq_true (show (i : Int) ≤ (nb zs 0 : Int) - 1 by omega)]
    rfl
  · rw [decide_eq_false h, decide_eq_false (show ¬ (i : Int) ≤ (nb zs 0 : Int) - 1 by omega), Bool.and_false]

theorem slot_alike {zs ys : List Int} (h : Fine zs) (g : Fine ys) (i : Nat) (hh : hasC zs (i : Int) = hasC ys (i : Int)) (hc : hasC zs (i : Int) = true → cellOf ys i = cellOf zs i) : slotQ zs i = slotQ ys i ∧ slotB zs i = slotB ys i := by
  unfold slotQ slotB
  rw [h.flt, g.flt, ← hh, if_pos rfl, if_pos rfl, if_pos rfl, Int.toNat_natCast]
  refine ⟨rfl, ?_⟩
  split
  · rename_i e; rw [hc e]
  · rfl

/-- A compacted page has the same cells. -/
theorem slots_compact {zs : List Int} (h : Fine zs) (i : Nat) : slotQ zs i = slotQ (cpP zs (nb zs 0)) i ∧ slotB zs i = slotB (cpP zs (nb zs 0)) i := by
  have C := cps_all h (nb zs 0) (Nat.le_refl _)
  refine slot_alike h (fine_compact h) i ?_ (fun hc => ?_)
  · rw [hasC_nat, hasC_nat, C.h0]
    by_cases hi : i < nb zs 0
    · rw [emp_compact h i hi]
    · rw [decide_eq_false hi, Bool.false_and, Bool.false_and]
  · rw [hasC_nat, Bool.and_eq_true, decide_eq_true_eq, Bool.not_eq_true'] at hc
    exact (C.used i hc.1 hc.2).2.2

/-- Behind a cell was put it is there, nothing was there before, and all others stay. -/
theorem slots_put {zs cs : List Int} (h : Fine zs) (hc : ∀ z ∈ cs, 0 ≤ z ∧ z ≤ 255) (h1 : 1 ≤ cs.length) (hq : putQ zs cs.length = 0) :
    (∀ i : Nat, i ≠ putS zs → slotQ zs i = slotQ (putP zs cs) i ∧ slotB zs i = slotB (putP zs cs) i) ∧ slotQ (putP zs cs) (putS zs) = 0 ∧ slotB (putP zs cs) (putS zs) = cs ∧ slotQ zs (putS zs) = 4 := by
  have hF := fine_put h hc h1 hq
  have hd := h.dirs
  have hle := putS_le zs
  have hlow := hd.low
  have hfew := hd.few
  have hq' : ¬ (putS zs = nb zs 0 ∧ 16 ≤ nb zs 0) ∧ cs.length + (2 + 2 * putM zs) ≤ nb zs 1 := by
    unfold putQ at hq
    split at hq
    · cases hq
    · split at hq
      · cases hq
      · split at hq
        · cases hq
        · exact ⟨by assumption, by omega⟩
  obtain ⟨a1, a3⟩ := hq'
  have hM : putM zs = nb zs 0 ∧ putS zs < nb zs 0 ∨ putM zs = nb zs 0 + 1 ∧ putS zs = nb zs 0 := by
    unfold putM
    split <;> omega
  have S := stood zs cs (putM zs) (nb zs 1 - cs.length) (putS zs) (nb zs 1 - cs.length) h.pg.len (by omega) (by omega) (by omega)
  have hself := stand_self zs cs (putM zs) (nb zs 1 - cs.length) (putS zs) (nb zs 1 - cs.length) h.pg.len (by omega) (by omega) (by omega)
  have hoth := fun j hj hjq hr hd2 h2 ha => stand_other zs cs (putM zs) (nb zs 1 - cs.length) (putS zs) (nb zs 1 - cs.length) j h.pg.len (by omega) (by omega) (by omega) hj hjq hr hd2 h2 ha
  rw [putP_stand] at hF ⊢
  have hes : hasC (stand zs cs (putM zs) (nb zs 1 - cs.length) (putS zs) (nb zs 1 - cs.length)) ((putS zs : Nat) : Int) = true := by
    rw [hasC_nat, S.h0, decide_eq_true (show putS zs < putM zs by omega), Bool.true_and]
    have hl := S.hl
    simp only [ln] at hl
    unfold empB
    rw [hl]
    have : ¬ cs.length = 0 := by omega
    simp [this]
  have hez : hasC zs ((putS zs : Nat) : Int) = false := by
    rw [hasC_nat]
    by_cases e : putS zs < nb zs 0
    · rw [putS_emp e]; simp
    · rw [decide_eq_false e, Bool.false_and]
  refine ⟨fun i hi => ?_, ?_, ?_, ?_⟩
  · refine slot_alike h hF i ?_ (fun hc => ?_)
    · rw [hasC_nat, hasC_nat, S.h0]
      by_cases hi0 : i < nb zs 0
      · have e1 := S.op i hi (by omega)
        have e2 := S.ol i hi (by omega)
        simp only [pl, ln] at e1 e2
        rw [decide_eq_true hi0, decide_eq_true (show i < putM zs by omega)]
        unfold empB
        rw [e1, e2]
      · rw [decide_eq_false hi0, decide_eq_false (show ¬ i < putM zs by omega), Bool.false_and, Bool.false_and]
    · rw [hasC_nat, Bool.and_eq_true, decide_eq_true_eq, Bool.not_eq_true'] at hc
      have hnz := emp_ln h hc.1 hc.2
      have hp := hd.place i hc.1
      exact hoth i hi (by omega) (by omega) (by omega) (by omega) (.inr (by omega))
  · unfold slotQ
    rw [hF.flt, if_pos rfl, hes, if_pos rfl]
  · unfold slotB
    rw [hF.flt, if_pos rfl, hes, if_pos rfl, Int.toNat_natCast]
    exact hself
  · unfold slotQ
    rw [h.flt, if_pos rfl, hez]
    rfl

end Go.Proofs.Ytjbopcplpgoiaaa
