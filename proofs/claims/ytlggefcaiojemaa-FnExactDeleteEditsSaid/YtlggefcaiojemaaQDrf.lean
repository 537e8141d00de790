/-
  Plain facts: a page without a fault stays so when a cell is dropped, and the other cells are still there.
-/
import Derived.Test.YtlggefcaiojemaaQDsl
import Derived.Test.YtlggefcaiojemaaQMod

namespace Go.Proofs.Ytlggefcaiojemaa
open Go.RowKit
set_option linter.unusedVariables false

theorem byt_set (zs : List Int) (j i : Nat) (v : Int) (hj : j < zs.length) : byt (zs.set j v) i = if i = j then v else byt zs i := by
  unfold byt
  simp only [List.getD, List.getElem?_set]
  by_cases h : j = i
  · subst h; simp [hj]
  · rw [if_neg h, if_neg (fun e => h e.symm)]
theorem byt_span (zs : List Int) (s p l i : Nat) (hs : 3 + 2 * s < zs.length) : byt (spanSet zs s p l) i = if i = 3 + 2 * s then (l : Int) else if i = 2 + 2 * s then (p : Int) else byt zs i := by
  unfold spanSet
  rw [byt_set _ _ _ _ (by rw [List.length_set]; exact hs), byt_set _ _ _ _ (by omega)]
/-- Where the cell of slot s begins, and how long it is. -/
abbrev pl (zs : List Int) (s : Nat) : Nat := nb zs (2 + 2 * s)
abbrev ln (zs : List Int) (s : Nat) : Nat := nb zs (3 + 2 * s)

structure Dirs (zs : List Int) : Prop where
  pg : IsPg zs
  few : nb zs 0 ≤ 16
  dir : 2 + 2 * nb zs 0 ≤ nb zs 1
  low : nb zs 1 ≤ 64
  place : ∀ s, s < nb zs 0 → (pl zs s = 0 ∧ ln zs s = 0) ∨ (pl zs s ≠ 0 ∧ ln zs s ≠ 0 ∧ nb zs 1 ≤ pl zs s ∧ pl zs s + ln zs s ≤ 64)
  apart : ∀ i k, k < i → i < nb zs 0 → ln zs i ≠ 0 → ln zs k ≠ 0 → pl zs i + ln zs i ≤ pl zs k ∨ pl zs k + ln zs k ≤ pl zs i
  last : 0 < nb zs 0 → ln zs (nb zs 0 - 1) ≠ 0

theorem Fine.dirs {zs : List Int} (h : Fine zs) : Dirs zs := by
  refine ⟨h.pg, h.few, h.dir, h.low, h.place, fun i k hk hi h1 h2 => ?_, fun h0 => ?_⟩
  · cases ha : apartB zs i k
    · have := hit_of zs i k hk (h.end64 i hi) ha
      rw [comB_at zs _ h.com i hi] at this
      cases this
    · simp only [apartB, Bool.or_eq_true, beq_iff_eq, decide_eq_true_eq] at ha
      rcases ha with (ha | ha) | ha
      · exact absurd ha h1
      · exact absurd ha h2
      · exact ha
  · have he := h.ends
    unfold endB at he
    rw [decide_eq_true h0, Bool.true_and] at he
    rcases h.place _ (show nb zs 0 - 1 < nb zs 0 by omega) with hp | hp
    · exfalso
      unfold empB at he
      simp [hp.1, hp.2] at he
    · exact hp.2.1

theorem Dirs.fine {zs : List Int} (h : Dirs zs) : Fine zs := by
  refine ⟨h.pg, h.few, h.dir, h.low, fun s hs => ?_, ?_, ?_⟩
  · unfold wrgS wrongB
    rcases h.place s hs with hp | hp
    · have h1 := hp.1
      have h2 := hp.2
      simp only [pl, ln] at h1 h2
      rw [h1, h2]
      rfl
    · have h1 := hp.1
      have h2 := hp.2.1
      have h3 := hp.2.2
      simp only [pl, ln] at h1 h2 h3
      simp [h1, h2]
      omega
  · have : ∀ m, m ≤ nb zs 0 → comB zs m = false := by
      intro m
      induction m with
      | zero => intro _; rfl
      | succ m ih =>
        intro hm
        rw [comB, ih (by omega), Bool.false_or]
        refine not_hit zs m (fun k hk => ?_)
        cases ha : apartB zs m k
        · obtain ⟨a1, a2, a3, a4⟩ := (apart_iff zs m k).1 ha
          have := h.apart m k hk (by omega) a1 a2
          simp only [pl, ln] at this
          omega
        · rfl
    exact this _ (Nat.le_refl _)
  · unfold endB
    by_cases h0 : 0 < nb zs 0
    · have := h.last h0
      simp only [ln] at this
      rw [decide_eq_true h0, Bool.true_and]
      unfold empB
      simp [this]
    · rw [decide_eq_false h0]
      rfl

theorem nb_of_byt {zs ys : List Int} {i j : Nat} (h : byt zs i = byt ys j) : nb zs i = nb ys j := by unfold nb; rw [h]
theorem nb_nat {zs : List Int} {i n : Nat} (h : byt zs i = (n : Int)) : nb zs i = n := by unfold nb; rw [h]; omega

/-- A slot that is emptied, and a head that tells no empty slot at the end: the page stays without a fault. -/
theorem dirs_drop {zs : List Int} {s m : Nat} (h : Dirs zs) (hs : s < nb zs 0) (hm : m ≤ nb zs 0) (hlast : 0 < m → m - 1 ≠ s ∧ ln zs (m - 1) ≠ 0) : Dirs ((spanSet zs s 0 0).set 0 (m : Int)) := by
  have hfew := h.few
  have hlow := h.low
  have hdir := h.dir
  have hlen : (spanSet zs s 0 0).length = 64 := by simp [spanSet, h.pg.len]
  have B : ∀ i, byt ((spanSet zs s 0 0).set 0 (m : Int)) i = if i = 0 then (m : Int) else if i = 3 + 2 * s then ((0 : Nat) : Int) else if i = 2 + 2 * s then ((0 : Nat) : Int) else byt zs i := fun i => by
    rw [byt_set _ _ _ _ (by omega), byt_span _ _ _ _ _ (by rw [h.pg.len]; omega)]
  have e0 : nb ((spanSet zs s 0 0).set 0 (m : Int)) 0 = m := nb_nat (by rw [B, if_pos rfl])
  have e1 : nb ((spanSet zs s 0 0).set 0 (m : Int)) 1 = nb zs 1 := nb_of_byt (by rw [B, if_neg (by omega), if_neg (by omega), if_neg (by omega)])
  have es : pl ((spanSet zs s 0 0).set 0 (m : Int)) s = 0 ∧ ln ((spanSet zs s 0 0).set 0 (m : Int)) s = 0 := ⟨nb_nat (by rw [B, if_neg (by omega), if_neg (by omega), if_pos rfl]), nb_nat (by rw [B, if_neg (by omega), if_pos rfl])⟩
  have eo : ∀ j, j ≠ s → pl ((spanSet zs s 0 0).set 0 (m : Int)) j = pl zs j ∧ ln ((spanSet zs s 0 0).set 0 (m : Int)) j = ln zs j := fun j hj => ⟨nb_of_byt (by rw [B, if_neg (by omega), if_neg (by omega), if_neg (by omega)]), nb_of_byt (by rw [B, if_neg (by omega), if_neg (by omega), if_neg (by omega)])⟩
  refine ⟨isPg_set (isPg_span h.pg s 0 0 (by omega) (by omega)) 0 m (by omega), by rw [e0]; omega, by rw [e0, e1]; omega, by rw [e1]; exact hlow, fun j hj => ?_, fun i k hk hi li lk => ?_, fun h0 => ?_⟩
  · rw [e0] at hj
    rw [e1]
    by_cases e : j = s
    · subst e; exact .inl es
    · rw [(eo j e).1, (eo j e).2]
      exact h.place j (by omega)
  · rw [e0] at hi
    have ni : i ≠ s := fun e => by rw [e] at li; exact li es.2
    have nk : k ≠ s := fun e => by rw [e] at lk; exact lk es.2
    rw [(eo i ni).2] at li
    rw [(eo k nk).2] at lk
    rw [(eo i ni).1, (eo i ni).2, (eo k nk).1, (eo k nk).2]
    exact h.apart i k hk (by omega) li lk
  · rw [e0] at h0 ⊢
    obtain ⟨a1, a2⟩ := hlast h0
    rw [(eo _ a1).2]
    exact a2


/-- What is left of the head: behind it there are empty slots alone. -/
theorem dropE_form : ∀ (k : Nat) (zs : List Int), IsPg zs → nb zs 0 ≤ k → ∃ m, m ≤ nb zs 0 ∧ dropE k zs = zs.set 0 (m : Int) ∧ (0 < m → empB zs (m - 1) = false) ∧ ∀ t, m ≤ t → t < nb zs 0 → empB zs t = true
  | 0, zs, h, hk => by
    refine ⟨0, Nat.zero_le _, ?_, fun h => by omega, fun t _ ht => by omega⟩
    have e := nb_byt h 0
    have hl := h.len
    have e0 : byt zs 0 = 0 := by omega
    unfold dropE
    apply List.ext_getElem (by simp)
    intro i h1 h2
    by_cases hi : i = 0
    · subst hi
      unfold byt at e0
      simp [List.getD, hl] at e0
      simp [e0]
    · rw [List.getElem_set_ne (by omega)]
  | k + 1, zs, h, hk => by
    cases he : endB zs
    · refine ⟨nb zs 0, Nat.le_refl _, ?_, fun h0 => ?_, fun t h1 h2 => by omega⟩
      · rw [dropE, if_neg (by rw [he]; decide)]
        have e := nb_byt h 0
        have hl := h.len
        apply List.ext_getElem (by simp)
        intro i h1 h2
        by_cases hi : i = 0
        · subst hi
          rw [List.getElem_set_self]
          rw [← e]
          unfold byt
          simp [List.getD, hl]
        · rw [List.getElem_set_ne (by omega)]
      · unfold endB at he
        rw [decide_eq_true h0, Bool.true_and] at he
        exact he
    · have h0 := endB_pos he
      have hle := nb_less h h0
      obtain ⟨m, h1, h2, h3, h4⟩ := dropE_form k (lessP zs) (isPg_less h h0) (by omega)
      have emp : ∀ t, empB (lessP zs) t = empB zs t := fun t => by
        unfold empB
        rw [nb_less_other _ (by omega), nb_less_other _ (by omega)]
      refine ⟨m, by omega, ?_, fun hm => by rw [← emp]; exact h3 hm, fun t ht1 ht2 => ?_⟩
      · rw [dropE, if_pos he, h2]
        unfold lessP
        rw [List.set_set]
      · by_cases e : t = nb zs 0 - 1
        · unfold endB at he
          rw [decide_eq_true h0, Bool.true_and] at he
          rw [e]; exact he
        · rw [← emp]; exact h4 t ht1 (by omega)

theorem empB_span {zs : List Int} (h : IsPg zs) {s : Nat} (hs : s < 16) (t : Nat) : empB (spanSet zs s 0 0) t = (decide (t = s) || empB zs t) := by
  have B := fun i => byt_span zs s 0 0 i (by rw [h.len]; omega)
  by_cases e : t = s
  · subst e
    have e1 : nb (spanSet zs t 0 0) (2 + 2 * t) = 0 := nb_nat (by rw [B, if_neg (by omega), if_pos rfl])
    have e2 : nb (spanSet zs t 0 0) (3 + 2 * t) = 0 := nb_nat (by rw [B, if_pos rfl])
    unfold empB
    rw [e1, e2]
    simp
  · have e1 : nb (spanSet zs s 0 0) (2 + 2 * t) = nb zs (2 + 2 * t) := nb_of_byt (by rw [B, if_neg (by omega), if_neg (by omega)])
    have e2 : nb (spanSet zs s 0 0) (3 + 2 * t) = nb zs (3 + 2 * t) := nb_of_byt (by rw [B, if_neg (by omega), if_neg (by omega)])
    unfold empB
    rw [e1, e2]
    simp [e]

theorem drpP_form {zs : List Int} (h : Fine zs) {s : Nat} (hs : s < nb zs 0) : ∃ m, m ≤ nb zs 0 ∧ drpP zs s = (spanSet zs s 0 0).set 0 (m : Int) ∧ (0 < m → m - 1 ≠ s ∧ ln zs (m - 1) ≠ 0) ∧ ∀ t, t ≠ s → t < nb zs 0 → empB zs t = false → t < m := by
  have hf := h.few
  have e0 : nb (spanSet zs s 0 0) 0 = nb zs 0 := nb_span_head s 0 0
  obtain ⟨m, h1, h2, h3, h4⟩ := dropE_form (nb (spanSet zs s 0 0) 0) (spanSet zs s 0 0) (isPg_span h.pg s 0 0 (by omega) (by omega)) (Nat.le_refl _)
  have E := empB_span h.pg (s := s) (by omega)
  rw [e0] at h1 h4
  refine ⟨m, h1, h2, fun h0 => ?_, fun t ht1 ht2 ht3 => ?_⟩
  · have h5 := h3 h0
    rw [E] at h5
    simp only [Bool.or_eq_false_iff, decide_eq_false_iff_not] at h5
    refine ⟨h5.1, ?_⟩
    rcases h.place (m - 1) (by omega) with hp | hp
    · exfalso
      have h6 := h5.2
      unfold empB at h6
      simp [hp.1, hp.2] at h6
    · exact hp.2.1
  · by_cases e : t < m
    · exact e
    · exfalso
      have h5 := h4 t (by omega) ht2
      rw [E] at h5
      simp [ht1, ht3] at h5

theorem fine_drop {zs : List Int} (h : Fine zs) {s : Nat} (hs : s < nb zs 0) : Fine (drpP zs s) := by
  obtain ⟨m, h1, h2, h3, _⟩ := drpP_form h hs
  rw [h2]
  exact (dirs_drop h.dirs hs h1 h3).fine

theorem hasC_iff {zs : List Int} (s : Nat) : hasC zs s = true ↔ s < nb zs 0 ∧ empB zs s = false := by
  unfold hasC inR
  simp only [Bool.and_eq_true, decide_eq_true_eq, Bool.not_eq_true', Int.toNat_natCast]
  constructor
  · rintro ⟨⟨_, h1⟩, h2⟩
    exact ⟨by omega, h2⟩
  · rintro ⟨h1, h2⟩
    exact ⟨⟨by omega, by omega⟩, h2⟩

/-- The cells of the other slots are still there. -/
theorem has_drop {zs : List Int} (h : Fine zs) {s t : Nat} (hs : s < nb zs 0) (ht : hasC zs t = true) (hn : t ≠ s) : hasC (drpP zs s) t = true := by
  obtain ⟨h1, h2⟩ := (hasC_iff t).1 ht
  obtain ⟨m, m1, m2, m3, m4⟩ := drpP_form h hs
  have hf := h.few
  have hlen : (spanSet zs s 0 0).length = 64 := by simp [spanSet, h.pg.len]
  have B : ∀ i, byt ((spanSet zs s 0 0).set 0 (m : Int)) i = if i = 0 then (m : Int) else byt (spanSet zs s 0 0) i := fun i => byt_set _ _ _ _ (by omega)
  have e0 : nb (drpP zs s) 0 = m := by rw [m2]; exact nb_nat (by rw [B, if_pos rfl])
  have ee : ∀ i, i ≠ 0 → nb (drpP zs s) i = nb (spanSet zs s 0 0) i := fun i hi => by rw [m2]; exact nb_of_byt (by rw [B, if_neg hi])
  refine (hasC_iff t).2 ⟨by rw [e0]; exact m4 t hn h1 h2, ?_⟩
  have E := empB_span h.pg (s := s) (by omega) t
  have : empB (drpP zs s) t = empB (spanSet zs s 0 0) t := by
    unfold empB
    rw [ee _ (by omega), ee _ (by omega)]
  rw [this, E, h2]
  simp [hn]

end Go.Proofs.Ytlggefcaiojemaa
