/-
  Plain facts: a page without a fault stays so when a cell is dropped, and the other cells are still there.
-/
import Derived.Test.YtnfolgoloaeanaaGreatULpu
import Derived.Test.YtnfolgoloaeanaaGreatUMod
import Derived.Test.YtnfolgoloaeanaaGreatUBas

namespace Go.Proofs.YtnfolgoloaeanaaGreat
open Go.RowKit
set_option linter.unusedVariables false

theorem byt_set (zs : List Int) (j i : Nat) (v : Int) (hj : j < zs.length) : byt (zs.set j v) i = if i = j then v else byt zs i := by
  unfold byt
  simp only [List.getD, List.getElem?_set]
  by_cases h : j = i
  · subst h; simp [hj]
  · rw [if_neg h, if_neg (fun e => h e.symm)]
theorem byt_span (zs : List Int) (s p l i : Nat) (hs : 3 + 2 * s < zs.length) : byt (spanSet zs s p l) i = if i = 3 + 2 * s then (l : Int) else if i = 2 + 2 * s then (p : Int) else byt zs i := by
  unfold spanSet
  rw [byt_set _ _ _ _ (by rw [List.length_set]; exact hs), byt_set _ _ _ _ (by omega)]
/-- Where the cell of slot s begins, and how long it is. -/
abbrev pl (zs : List Int) (s : Nat) : Nat := nb zs (2 + 2 * s)
abbrev ln (zs : List Int) (s : Nat) : Nat := nb zs (3 + 2 * s)

structure Dirs (zs : List Int) : Prop where
  pg : IsPg zs
  few : nb zs 0 ≤ 16
  dir : 2 + 2 * nb zs 0 ≤ nb zs 1
  low : nb zs 1 ≤ 64
  place : ∀ s, s < nb zs 0 → (pl zs s = 0 ∧ ln zs s = 0) ∨ (pl zs s ≠ 0 ∧ ln zs s ≠ 0 ∧ nb zs 1 ≤ pl zs s ∧ pl zs s + ln zs s ≤ 64)
  apart : ∀ i k, k < i → i < nb zs 0 → ln zs i ≠ 0 → ln zs k ≠ 0 → pl zs i + ln zs i ≤ pl zs k ∨ pl zs k + ln zs k ≤ pl zs i
  last : 0 < nb zs 0 → ln zs (nb zs 0 - 1) ≠ 0

theorem Fine.dirs {zs : List Int} (h : Fine zs) : Dirs zs := by
  refine ⟨h.pg, h.few, h.dir, h.low, h.place, fun i k hk hi h1 h2 => ?_, fun h0 => ?_⟩
  · cases ha : apartB zs i k
    · have := hit_of zs i k hk (h.end64 i hi) ha
      rw [comB_at zs _ h.com i hi] at this
      cases this
    · simp only [apartB, Bool.or_eq_true, beq_iff_eq, decide_eq_true_eq] at ha
      rcases ha with (ha | ha) | ha
      · exact absurd ha h1
      · exact absurd ha h2
      · exact ha
  · have he := h.ends
    unfold endB at he
    rw [decide_eq_true h0, Bool.true_and] at he
    rcases h.place _ (show nb zs 0 - 1 < nb zs 0 by omega) with hp | hp
    · exfalso
      unfold empB at he
      simp [hp.1, hp.2] at he
    · exact hp.2.1

theorem Dirs.fine {zs : List Int} (h : Dirs zs) : Fine zs := by
  refine ⟨h.pg, h.few, h.dir, h.low, fun s hs => ?_, ?_, ?_⟩
  · unfold wrgS wrongB
    rcases h.place s hs with hp | hp
    · have h1 := hp.1
      have h2 := hp.2
      simp only [pl, ln] at h1 h2
      rw [h1, h2]
      rfl
    · have h1 := hp.1
      have h2 := hp.2.1
      have h3 := hp.2.2
      simp only [pl, ln] at h1 h2 h3
      simp [h1, h2]
      omega
  · have : ∀ m, m ≤ nb zs 0 → comB zs m = false := by
      intro m
      induction m with
      | zero => intro _; rfl
      | succ m ih =>
        intro hm
        rw [comB, ih (by omega), Bool.false_or]
        refine not_hit zs m (fun k hk => ?_)
        cases ha : apartB zs m k
        · obtain ⟨a1, a2, a3, a4⟩ := (apart_iff zs m k).1 ha
          have := h.apart m k hk (by omega) a1 a2
          simp only [pl, ln] at this
          omega
        · rfl
    exact this _ (Nat.le_refl _)
  · unfold endB
    by_cases h0 : 0 < nb zs 0
    · have := h.last h0
      simp only [ln] at this
      rw [decide_eq_true h0, Bool.true_and]
      unfold empB
      simp [this]
    · rw [decide_eq_false h0]
      rfl

theorem nb_of_byt {zs ys : List Int} {i j : Nat} (h : byt zs i = byt ys j) : nb zs i = nb ys j := by unfold nb; rw [h]
theorem nb_nat {zs : List Int} {i n : Nat} (h : byt zs i = (n : Int)) : nb zs i = n := by unfold nb; rw [h]; omega

/-- A slot that is emptied, and a head that tells no empty slot at the end: the page stays without a fault. -/
theorem dirs_drop {zs : List Int} {s m : Nat} (h : Dirs zs) (hs : s < nb zs 0) (hm : m ≤ nb zs 0) (hlast : 0 < m → m - 1 ≠ s ∧ ln zs (m - 1) ≠ 0) : Dirs ((spanSet zs s 0 0).set 0 (m : Int)) := by
  have hfew := h.few
  have hlow := h.low
  have hdir := h.dir
  have hlen : (spanSet zs s 0 0).length = 64 := by simp [spanSet, h.pg.len]
  have B : ∀ i, byt ((spanSet zs s 0 0).set 0 (m : Int)) i = if i = 0 then (m : Int) else if i = 3 + 2 * s then ((0 : Nat) : Int) else if i = 2 + 2 * s then ((0 : Nat) : Int) else byt zs i := fun i => by
    rw [byt_set _ _ _ _ (by omega), byt_span _ _ _ _ _ (by rw [h.pg.len]; omega)]
  have e0 : nb ((spanSet zs s 0 0).set 0 (m : Int)) 0 = m := nb_nat (by rw [B, if_pos rfl])
  have e1 : nb ((spanSet zs s 0 0).set 0 (m : Int)) 1 = nb zs 1 := nb_of_byt (by rw [B, if_neg (by omega), if_neg (by omega), if_neg (by omega)])
  have es : pl ((spanSet zs s 0 0).set 0 (m : Int)) s = 0 ∧ ln ((spanSet zs s 0 0).set 0 (m : Int)) s = 0 := ⟨nb_nat (by rw [B, if_neg (by omega), if_neg (by omega), if_pos rfl]), nb_nat (by rw [B, if_neg (by omega), if_pos rfl])⟩
  have eo : ∀ j, j ≠ s → pl ((spanSet zs s 0 0).set 0 (m : Int)) j = pl zs j ∧ ln ((spanSet zs s 0 0).set 0 (m : Int)) j = ln zs j := fun j hj => ⟨nb_of_byt (by rw [B, if_neg (by omega), if_neg (by omega), if_neg (by omega)]), nb_of_byt (by rw [B, if_neg (by omega), if_neg (by omega), if_neg (by omega)])⟩
  refine ⟨isPg_set (isPg_span h.pg s 0 0 (by omega) (by omega)) 0 m (by omega), by rw [e0]; omega, by rw [e0, e1]; omega, by rw [e1]; exact hlow, fun j hj => ?_, fun i k hk hi li lk => ?_, fun h0 => ?_⟩
  · rw [e0] at hj
    rw [e1]
    by_cases e : j = s
    · subst e; exact .inl es
    · rw [(eo j e).1, (eo j e).2]
      exact h.place j (by omega)
  · rw [e0] at hi
    have ni : i ≠ s := fun e => by rw [e] at li; exact li es.2
    have nk : k ≠ s := fun e => by rw [e] at lk; exact lk es.2
    rw [(eo i ni).2] at li
    rw [(eo k nk).2] at lk
    rw [(eo i ni).1, (eo i ni).2, (eo k nk).1, (eo k nk).2]
    exact h.apart i k hk (by omega) li lk
  · rw [e0] at h0 ⊢
    obtain ⟨a1, a2⟩ := hlast h0
    rw [(eo _ a1).2]
    exact a2

/-- What is left of the head: behind it there are empty slots alone. -/
theorem dropE_form : ∀ (k : Nat) (zs : List Int), IsPg zs → nb zs 0 ≤ k → ∃ m, m ≤ nb zs 0 ∧ dropE k zs = zs.set 0 (m : Int) ∧ (0 < m → empB zs (m - 1) = false) ∧ ∀ t, m ≤ t → t < nb zs 0 → empB zs t = true
  | 0, zs, h, hk => by
    refine ⟨0, Nat.zero_le _, ?_, fun h => by omega, fun t _ ht => by omega⟩
    have e := nb_byt h 0
    have hl := h.len
    have e0 : byt zs 0 = 0 := by omega
    unfold dropE
    apply List.ext_getElem (by simp)
    intro i h1 h2
    by_cases hi : i = 0
    · subst hi
      unfold byt at e0
      simp [List.getD, hl] at e0
      simp [e0]
    · rw [List.getElem_set_ne (by omega)]
  | k + 1, zs, h, hk => by
    cases he : endB zs
    · refine ⟨nb zs 0, Nat.le_refl _, ?_, fun h0 => ?_, fun t h1 h2 => by omega⟩
      · rw [dropE, if_neg (by rw [he]; decide)]
        have e := nb_byt h 0
        have hl := h.len
        apply List.ext_getElem (by simp)
        intro i h1 h2
        by_cases hi : i = 0
        · subst hi
          rw [List.getElem_set_self]
          rw [← e]
          unfold byt
          simp [List.getD, hl]
        · rw [List.getElem_set_ne (by omega)]
      · unfold endB at he
        rw [decide_eq_true h0, Bool.true_and] at he
        exact he
    · have h0 := endB_pos he
      have hle := nb_less h h0
      obtain ⟨m, h1, h2, h3, h4⟩ := dropE_form k (lessP zs) (isPg_less h h0) (by omega)
      have emp : ∀ t, empB (lessP zs) t = empB zs t := fun t => by
        unfold empB
        rw [nb_less_other _ (by omega), nb_less_other _ (by omega)]
      refine ⟨m, by omega, ?_, fun hm => by rw [← emp]; exact h3 hm, fun t ht1 ht2 => ?_⟩
      · rw [dropE, if_pos he, h2]
        unfold lessP
        rw [List.set_set]
      · by_cases e : t = nb zs 0 - 1
        · unfold endB at he
          rw [decide_eq_true h0, Bool.true_and] at he
          rw [e]; exact he
        · rw [← emp]; exact h4 t ht1 (by omega)

theorem empB_span {zs : List Int} (h : IsPg zs) {s : Nat} (hs : s < 16) (t : Nat) : empB (spanSet zs s 0 0) t = (decide (t = s) || empB zs t) := by
  have B := fun i => byt_span zs s 0 0 i (by rw [h.len]; omega)
  by_cases e : t = s
  · subst e
    have e1 : nb (spanSet zs t 0 0) (2 + 2 * t) = 0 := nb_nat (by rw [B, if_neg (by omega), if_pos rfl])
    have e2 : nb (spanSet zs t 0 0) (3 + 2 * t) = 0 := nb_nat (by rw [B, if_pos rfl])
    unfold empB
    rw [e1, e2]
    simp
  · have e1 : nb (spanSet zs s 0 0) (2 + 2 * t) = nb zs (2 + 2 * t) := nb_of_byt (by rw [B, if_neg (by omega), if_neg (by omega)])
    have e2 : nb (spanSet zs s 0 0) (3 + 2 * t) = nb zs (3 + 2 * t) := nb_of_byt (by rw [B, if_neg (by omega), if_neg (by omega)])
    unfold empB
    rw [e1, e2]
    simp [e]

theorem drpP_form {zs : List Int} (h : Fine zs) {s : Nat} (hs : s < nb zs 0) : ∃ m, m ≤ nb zs 0 ∧ drpP zs s = (spanSet zs s 0 0).set 0 (m : Int) ∧ (0 < m → m - 1 ≠ s ∧ ln zs (m - 1) ≠ 0) ∧ ∀ t, t ≠ s → t < nb zs 0 → empB zs t = false → t < m := by
  have hf := h.few
  have e0 : nb (spanSet zs s 0 0) 0 = nb zs 0 := nb_span_head s 0 0
  obtain ⟨m, h1, h2, h3, h4⟩ := dropE_form (nb (spanSet zs s 0 0) 0) (spanSet zs s 0 0) (isPg_span h.pg s 0 0 (by omega) (by omega)) (Nat.le_refl _)
  have E := empB_span h.pg (s := s) (by omega)
  rw [e0] at h1 h4
  refine ⟨m, h1, h2, fun h0 => ?_, fun t ht1 ht2 ht3 => ?_⟩
  · have h5 := h3 h0
    rw [E] at h5
    simp only [Bool.or_eq_false_iff, decide_eq_false_iff_not] at h5
    refine ⟨h5.1, ?_⟩
    rcases h.place (m - 1) (by omega) with hp | hp
    · exfalso
      have h6 := h5.2
      unfold empB at h6
      simp [hp.1, hp.2] at h6
    · exact hp.2.1
  · by_cases e : t < m
    · exact e
    · exfalso
      have h5 := h4 t (by omega) ht2
      rw [E] at h5
      simp [ht1, ht3] at h5

theorem fine_drop {zs : List Int} (h : Fine zs) {s : Nat} (hs : s < nb zs 0) : Fine (drpP zs s) := by
  obtain ⟨m, h1, h2, h3, _⟩ := drpP_form h hs
  rw [h2]
  exact (dirs_drop h.dirs hs h1 h3).fine

theorem hasC_iff {zs : List Int} (s : Nat) : hasC zs s = true ↔ s < nb zs 0 ∧ empB zs s = false := by
  unfold hasC inR
  simp only [Bool.and_eq_true, decide_eq_true_eq, Bool.not_eq_true', Int.toNat_natCast]
  constructor
  · rintro ⟨⟨_, h1⟩, h2⟩
    exact ⟨by omega, h2⟩
  · rintro ⟨h1, h2⟩
    exact ⟨⟨by omega, by omega⟩, h2⟩

set_option maxRecDepth 20000

theorem byt_splice (zs cs : List Int) (p i : Nat) (hl : p + cs.length ≤ zs.length) : byt (splice zs p cs) i = if p ≤ i ∧ i < p + cs.length then byt cs (i - p) else byt zs i := by
  unfold byt splice
  simp only [List.getD]
  have ht : (zs.take p).length = p := by rw [List.length_take]; omega
  by_cases h1 : i < p
  · rw [if_neg (by omega), List.getElem?_append_left (by omega), List.getElem?_take, if_pos h1]
  · rw [List.getElem?_append_right (by omega), ht]
    by_cases h2 : i < p + cs.length
    · rw [if_pos (by omega), List.getElem?_append_left (by omega)]
    · rw [if_neg (by omega), List.getElem?_append_right (by omega), List.getElem?_drop, show p + cs.length + (i - p - cs.length) = i by omega]
theorem byt_filled (i : Nat) : byt (filled 0 0) i = 0 := filled_zero 0 i
theorem byt_ext {xs ys : List Int} (h : xs.length = ys.length) (he : ∀ i, i < xs.length → byt xs i = byt ys i) : xs = ys := by
  apply List.ext_getElem h
  intro i h1 h2
  have := he i h1
  simpa [byt, List.getD, h1, h2] using this

theorem length_span (zs : List Int) (s p l : Nat) : (spanSet zs s p l).length = zs.length := by simp [spanSet]

/-- The program's page behind k slots. -/
def cpP (zs : List Int) : Nat → List Int
  | 0 => ((filled 0 0).set 0 (byt zs 0)).set 1 64
  | k + 1 => if empB zs k = true then cpP zs k else aheadP (cpP zs k) k (cellOf zs k)
/-- The model's page behind k slots. -/
def cmM (zs : List Int) : Nat → List Int
  | 0 => splice (filled 0 0) 0 (zs.take (2 + 2 * nb zs 0))
  | k + 1 => if empB zs k = true then cmM zs k else spanSet (splice (cmM zs k) (64 - lens zs (k + 1)) (cellOf zs k)) k (64 - lens zs (k + 1)) (nb zs (3 + 2 * k))

/-- What both know behind k slots. -/
structure Both (zs : List Int) (k : Nat) : Prop where
  pg : IsPg (cpP zs k)
  ln : (cmM zs k).length = 64
  low : nb (cpP zs k) 1 = 64 - lens zs k
  eq : ∀ i, i ≠ 1 → (i < 2 + 2 * k ∨ 2 + 2 * nb zs 0 ≤ i) → byt (cmM zs k) i = byt (cpP zs k) i
  dm : ∀ i, 2 + 2 * k ≤ i → i < 2 + 2 * nb zs 0 → byt (cmM zs k) i = byt zs i
  dp : ∀ i, 2 + 2 * k ≤ i → i < 2 + 2 * nb zs 0 → byt (cpP zs k) i = 0

theorem cellOf_bd {zs : List Int} (h : IsPg zs) (s : Nat) : ∀ z ∈ cellOf zs s, 0 ≤ z ∧ z ≤ 255 := fun z hz => h.bd z (List.mem_of_mem_drop (List.mem_of_mem_take hz))

theorem both_all {zs : List Int} (h : Fine zs) : ∀ k, k ≤ nb zs 0 → Both zs k
  | 0, _ => by
    have hz := h.pg.len
    have hfew := h.few
    have b0 := byt_bd h.pg.bd 0
    have hf : (filled 0 0).length = 64 := rfl
    refine ⟨⟨by simp [cpP, hf], fun z hz => ?_⟩, ?_, ?_, fun i h1 h2 => ?_, fun i h1 h2 => ?_, fun i h1 h2 => ?_⟩
    · simp only [cpP] at hz
      rcases List.mem_or_eq_of_mem_set hz with h1 | h1
      · rcases List.mem_or_eq_of_mem_set h1 with h2 | h2
        · simp [filled] at h2; omega
        · omega
      · omega
    · simp only [cmM]
      rw [length_splice _ _ _ (by simp [hf]; omega)]
      exact hf
    · simp only [cpP, nb, lens]
      rw [byt_set _ _ _ _ (by rw [List.length_set, hf]; omega), if_pos rfl]
      rfl
    · simp only [cmM, cpP]
      rw [byt_splice _ _ _ _ (by simp [hf]; omega), byt_set _ _ _ _ (by rw [List.length_set, hf]; omega), byt_set _ _ _ _ (by rw [hf]; omega), if_neg h1, byt_filled]
      by_cases e : i = 0
      · subst e
        rw [if_pos (by simp; omega), if_pos rfl]
        simp only [byt, List.getD, Nat.sub_zero, List.getElem?_take]
        rw [if_pos (by omega)]
      · rw [if_neg (by simp; omega), if_neg e]
    · simp only [cmM]
      rw [byt_splice _ _ _ _ (by simp [hf]; omega), if_pos (by simp; omega)]
      simp only [byt, List.getD, Nat.sub_zero, List.getElem?_take]
      rw [if_pos h2]
    · simp only [cpP]
      rw [byt_set _ _ _ _ (by rw [List.length_set, hf]; omega), byt_set _ _ _ _ (by rw [hf]; omega), if_neg (by omega), if_neg (by omega), byt_filled]
  | k + 1, hk => by
    have ih := both_all h k (by omega)
    have hz := h.pg.len
    have hfew := h.few
    have hsum := h.sum
    have hle := lens_le zs (k + 1) (nb zs 0 - (k + 1))
    rw [show k + 1 + (nb zs 0 - (k + 1)) = nb zs 0 by omega] at hle
    have hlk : lens zs (k + 1) = lens zs k + nb zs (3 + 2 * k) := rfl
    by_cases he : empB zs k = true
    · have e1 : cpP zs (k + 1) = cpP zs k := by simp only [cpP]; rw [if_pos he]
      have e2 : cmM zs (k + 1) = cmM zs k := by simp only [cmM]; rw [if_pos he]
      have hem : nb zs (2 + 2 * k) = 0 ∧ nb zs (3 + 2 * k) = 0 := by simpa [empB] using he
      rw [show nb zs (3 + 2 * k) = 0 from hem.2] at hlk
      refine ⟨by rw [e1]; exact ih.pg, by rw [e2]; exact ih.ln, by rw [e1, hlk]; exact ih.low, fun i h1 h2 => ?_, fun i h1 h2 => by rw [e2]; exact ih.dm i (by omega) h2, fun i h1 h2 => by rw [e1]; exact ih.dp i (by omega) h2⟩
      rw [e1, e2]
      by_cases e : i = 2 + 2 * k ∨ i = 3 + 2 * k
      · rw [ih.dm i (by omega) (by omega), ih.dp i (by omega) (by omega), nb_byt h.pg i]
        rcases e with rfl | rfl
        · rw [hem.1]; rfl
        · rw [hem.2]; rfl
      · exact ih.eq i h1 (by omega)
    · have hcl := cellOf_length h k (by omega)
      have e1 : cpP zs (k + 1) = aheadP (cpP zs k) k (cellOf zs k) := by simp only [cpP]; rw [if_neg he]
      have e2 : cmM zs (k + 1) = spanSet (splice (cmM zs k) (64 - lens zs (k + 1)) (cellOf zs k)) k (64 - lens zs (k + 1)) (nb zs (3 + 2 * k)) := by simp only [cmM]; rw [if_neg he]
      obtain ⟨p, hp⟩ : ∃ p, p = 64 - lens zs (k + 1) := ⟨_, rfl⟩
      have hpl : nb (cpP zs k) 1 - (cellOf zs k).length = p := by rw [ih.low, hcl, hp]; omega
      have hpn : p + (cellOf zs k).length ≤ 64 := by rw [hcl]; omega
      have hpd : 2 + 2 * nb zs 0 ≤ p := by omega
      rw [← hp] at e2
      have e1' : cpP zs (k + 1) = (spanSet (splice (cpP zs k) p (cellOf zs k)) k p (cellOf zs k).length).set 1 (p : Int) := by rw [e1]; unfold aheadP; rw [hpl]
      have hl1 : (splice (cpP zs k) p (cellOf zs k)).length = 64 := by rw [length_splice _ _ _ (by rw [ih.pg.len]; exact hpn)]; exact ih.pg.len
      have hl2 : (splice (cmM zs k) p (cellOf zs k)).length = 64 := by rw [length_splice _ _ _ (by rw [ih.ln]; exact hpn)]; exact ih.ln
      have bp : ∀ i, byt (cpP zs (k + 1)) i = if i = 1 then (p : Int) else if i = 3 + 2 * k then ((cellOf zs k).length : Int) else if i = 2 + 2 * k then (p : Int) else if p ≤ i ∧ i < p + (cellOf zs k).length then byt (cellOf zs k) (i - p) else byt (cpP zs k) i := fun i => by
        rw [e1', byt_set _ _ _ _ (by rw [length_span, hl1]; omega), byt_span _ _ _ _ _ (by rw [hl1]; omega), byt_splice _ _ _ _ (by rw [ih.pg.len]; exact hpn)]
      have bm : ∀ i, byt (cmM zs (k + 1)) i = if i = 3 + 2 * k then ((cellOf zs k).length : Int) else if i = 2 + 2 * k then (p : Int) else if p ≤ i ∧ i < p + (cellOf zs k).length then byt (cellOf zs k) (i - p) else byt (cmM zs k) i := fun i => by
        rw [e2, byt_span _ _ _ _ _ (by rw [hl2]; omega), byt_splice _ _ _ _ (by rw [ih.ln]; exact hpn), hcl]
      refine ⟨?_, by rw [e2, length_span]; exact hl2, ?_, fun i h1 h2 => ?_, fun i h1 h2 => ?_, fun i h1 h2 => ?_⟩
      · rw [e1']
        exact isPg_set (isPg_span (isPg_splice ih.pg (cellOf_bd h.pg k) hpn) k p _ (by omega) (by omega)) 1 p (by omega)
      · unfold nb
        rw [bp 1, if_pos rfl, ← hp]
        rfl
      · rw [bp, bm, if_neg h1]
        by_cases a1 : i = 3 + 2 * k
        · rw [if_pos a1, if_pos a1]
        · rw [if_neg a1, if_neg a1]
          by_cases a2 : i = 2 + 2 * k
          · rw [if_pos a2, if_pos a2]
          · rw [if_neg a2, if_neg a2]
            by_cases a3 : p ≤ i ∧ i < p + (cellOf zs k).length
            · rw [if_pos a3, if_pos a3]
            · rw [if_neg a3, if_neg a3]
              exact ih.eq i h1 (by omega)
      · rw [bm, if_neg (by omega), if_neg (by omega), if_neg (by omega)]
        exact ih.dm i (by omega) h2
      · rw [bp, if_neg (by omega), if_neg (by omega), if_neg (by omega), if_neg (by omega)]
        exact ih.dp i (by omega) h2

theorem both_end {zs : List Int} (h : Fine zs) : (cmM zs (nb zs 0)).set 1 ((64 - lens zs (nb zs 0) : Nat) : Int) = cpP zs (nb zs 0) := by
  have hb := both_all h (nb zs 0) (Nat.le_refl _)
  apply byt_ext
  · rw [List.length_set, hb.ln, hb.pg.len]
  · intro i hi
    rw [byt_set _ _ _ _ (by rw [hb.ln]; omega)]
    by_cases e : i = 1
    · subst e
      rw [if_pos rfl, nb_byt hb.pg, hb.low]
    · rw [if_neg e]
      exact hb.eq i e (by omega)


theorem psKeep {w W V : World} {b : Nat} {ys : List Int} {x : Nat} {q s : Int} {v : Value} (h : Arr W b ys ∧ PRes W x q s v ∧ Below w.heap.size w W) (hb : Below W.heap.size W V) : Arr V b ys ∧ PRes V x q s v ∧ Below w.heap.size w V :=
  ⟨h.1.grown hb, h.2.1.grown hb, h.2.2.trans (hb.mono h.2.2.size)⟩

theorem wrapU (x : Int) (h0 : 0 ≤ x) (h1 : x ≤ 1000) : IntKind.u64.wrap x = x := by
  rw [IntKind.wrap_u64]
  omega

theorem putS_le (zs : List Int) : putS zs ≤ nb zs 0 := by have := firstE_le zs (nb zs 0) 0; unfold putS; omega

end Go.Proofs.YtnfolgoloaeanaaGreat

