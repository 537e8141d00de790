/-
  Plain facts: a page without a fault, told by its slots; what is put keeps a page without a fault.
-/
import Derived.Test.YtnfolgoloaeanaaGreatUDrf

namespace Go.Proofs.YtnfolgoloaeanaaGreat
set_option linter.unusedVariables false

/-- A cell cs at place q, for slot s; the head is m and low. -/
def stand (zs cs : List Int) (m low s q : Nat) : List Int := spanSet (splice ((zs.set 0 (m : Int)).set 1 (low : Int)) q cs) s q cs.length

theorem byt_stand (zs cs : List Int) (m low s q i : Nat) (hz : zs.length = 64) (hl : q + cs.length ≤ 64) (hs : s < 30) :
    byt (stand zs cs m low s q) i = if i = 3 + 2 * s then (cs.length : Int) else if i = 2 + 2 * s then (q : Int) else if q ≤ i ∧ i < q + cs.length then byt cs (i - q) else if i = 1 then (low : Int) else if i = 0 then (m : Int) else byt zs i := by
  unfold stand
  have hlen : (splice ((zs.set 0 (m : Int)).set 1 (low : Int)) q cs).length = 64 := by
    simp [splice, hz]
    omega
  rw [byt_span _ _ _ _ _ (by rw [hlen]; omega), byt_splice _ _ _ _ (by simp [hz]; omega), byt_set _ _ _ _ (by simp [hz]), byt_set _ _ _ _ (by omega)]

/-- What stands behind a cell was laid: the head, the slots. -/
structure Stood (zs cs : List Int) (m low s q : Nat) : Prop where
  h0 : nb (stand zs cs m low s q) 0 = m
  h1 : nb (stand zs cs m low s q) 1 = low
  hp : pl (stand zs cs m low s q) s = q
  hl : ln (stand zs cs m low s q) s = cs.length
  op : ∀ j, j ≠ s → 2 + 2 * j < q → pl (stand zs cs m low s q) j = pl zs j
  ol : ∀ j, j ≠ s → 3 + 2 * j < q → ln (stand zs cs m low s q) j = ln zs j

theorem stood (zs cs : List Int) (m low s q : Nat) (hz : zs.length = 64) (hl : q + cs.length ≤ 64) (hs : s < 30) (hq : 2 + 2 * s + 2 ≤ q) : Stood zs cs m low s q := by
  have B := fun i => byt_stand zs cs m low s q i hz hl hs
  refine ⟨nb_nat ?_, nb_nat ?_, nb_nat ?_, nb_nat ?_, fun j hj hjq => nb_of_byt ?_, fun j hj hjq => nb_of_byt ?_⟩
  · rw [B, if_neg (by omega), if_neg (by omega), if_neg (by omega), if_neg (by omega), if_pos rfl]
  · rw [B, if_neg (by omega), if_neg (by omega), if_neg (by omega), if_pos rfl]
  · rw [B, if_neg (by omega), if_pos rfl]
  · rw [B, if_pos rfl]
  · rw [B, if_neg (by omega), if_neg (by omega), if_neg (by omega), if_neg (by omega), if_neg (by omega)]
  · rw [B, if_neg (by omega), if_neg (by omega), if_neg (by omega), if_neg (by omega), if_neg (by omega)]

theorem isPg_stand {zs cs : List Int} (m low s q : Nat) (h : IsPg zs) (hc : ∀ z ∈ cs, 0 ≤ z ∧ z ≤ 255) (hl : q + cs.length ≤ 64) (hm : m ≤ 255) (hlow : low ≤ 255) : IsPg (stand zs cs m low s q) :=
  isPg_span (isPg_splice (isPg_set (isPg_set h 0 m hm) 1 low hlow) hc hl) s q cs.length (by omega) (by omega)

/-- A cell that is laid ahead of all, for a slot that is empty or new, or in the place of one: the page stays without a fault. -/
theorem dirs_ahead {zs cs : List Int} {m s : Nat} (h : Dirs zs) (hc : ∀ z ∈ cs, 0 ≤ z ∧ z ≤ 255) (h1 : 1 ≤ cs.length) (hm : m ≤ 16) (hs : s < m) (hms : m = nb zs 0 ∨ (m = nb zs 0 + 1 ∧ s = nb zs 0)) (hroom : 2 + 2 * m + cs.length ≤ nb zs 1) : Dirs (stand zs cs m (nb zs 1 - cs.length) s (nb zs 1 - cs.length)) := by
  have hlow := h.low
  have S := stood zs cs m (nb zs 1 - cs.length) s (nb zs 1 - cs.length) h.pg.len (by omega) (by omega) (by omega)
  have hother : ∀ j, j < m → j ≠ s → j < nb zs 0 := by intro j hj hne; omega
  refine ⟨isPg_stand _ _ _ _ h.pg hc (by omega) (by omega) (by omega), by rw [S.h0]; exact hm, by rw [S.h0, S.h1]; omega, by rw [S.h1]; omega, fun j hj => ?_, fun i k hk hi li lk => ?_, fun h0 => ?_⟩
  · rw [S.h0] at hj
    rw [S.h1]
    by_cases e : j = s
    · subst e
      rw [S.hp, S.hl]
      omega
    · rw [S.op j e (by omega), S.ol j e (by omega)]
      have := h.place j (hother j hj e)
      omega
  · rw [S.h0] at hi
    by_cases ei : i = s
    · subst ei
      have ek : k ≠ i := by omega
      rw [S.ol k ek (by omega)] at lk
      rw [S.hp, S.hl, S.op k ek (by omega), S.ol k ek (by omega)]
      have := h.place k (hother k (by omega) ek)
      omega
    · by_cases ek : k = s
      · subst ek
        rw [S.ol i ei (by omega)] at li
        rw [S.hp, S.hl, S.op i ei (by omega), S.ol i ei (by omega)]
        have := h.place i (hother i hi ei)
        omega
      · rw [S.ol i ei (by omega)] at li
        rw [S.ol k ek (by omega)] at lk
        rw [S.op i ei (by omega), S.ol i ei (by omega), S.op k ek (by omega), S.ol k ek (by omega)]
        exact h.apart i k hk (hother i hi ei) li lk
  · rw [S.h0] at h0 ⊢
    by_cases e : m - 1 = s
    · rw [e, S.hl]; omega
    · rw [S.ol _ e (by omega)]
      have hm0 : m = nb zs 0 := by omega
      rw [hm0]
      exact h.last (by omega)

theorem putP_stand (zs cs : List Int) : putP zs cs = stand zs cs (putM zs) (nb zs 1 - cs.length) (putS zs) (nb zs 1 - cs.length) := rfl

theorem fine_put {zs cs : List Int} (h : Fine zs) (hc : ∀ z ∈ cs, 0 ≤ z ∧ z ≤ 255) (h1 : 1 ≤ cs.length) (hq : putQ zs cs.length = 0) : Fine (putP zs cs) := by
  have hd := h.dirs
  have hle := putS_le zs
  unfold putQ at hq
  split at hq
  · cases hq
  · rename_i a1
    split at hq
    · cases hq
    · split at hq
      · cases hq
      · rename_i a2 a3
        rw [putP_stand]
        have hf := hd.few
        have hM : putM zs = nb zs 0 ∧ putS zs < nb zs 0 ∨ putM zs = nb zs 0 + 1 ∧ putS zs = nb zs 0 := by
          unfold putM
          split <;> omega
        exact (dirs_ahead hd hc h1 (by omega) (by omega) (by omega) (by omega)).fine

/-- A cell that is no longer than the one in whose place it is laid, at its end: the page stays without a fault. -/
theorem dirs_inner {zs cs : List Int} {s : Nat} (h : Dirs zs) (hc : ∀ z ∈ cs, 0 ≤ z ∧ z ≤ 255) (h1 : 1 ≤ cs.length) (hs : s < nb zs 0) (hn : ln zs s ≠ 0) (hle : cs.length ≤ ln zs s) : Dirs (stand zs cs (nb zs 0) (nb zs 1) s (pl zs s + ln zs s - cs.length)) := by
  have hlow := h.low
  have hdir := h.dir
  have hfew := h.few
  have hps := h.place s hs
  have S := stood zs cs (nb zs 0) (nb zs 1) s (pl zs s + ln zs s - cs.length) h.pg.len (by omega) (by omega) (by omega)
  refine ⟨isPg_stand _ _ _ _ h.pg hc (by omega) (by omega) (by omega), by rw [S.h0]; exact hfew, by rw [S.h0, S.h1]; exact hdir, by rw [S.h1]; exact hlow, fun j hj => ?_, fun i k hk hi li lk => ?_, fun h0 => ?_⟩
  · rw [S.h0] at hj
    rw [S.h1]
    by_cases e : j = s
    · subst e
      rw [S.hp, S.hl]
      omega
    · rw [S.op j e (by omega), S.ol j e (by omega)]
      exact h.place j hj
  · rw [S.h0] at hi
    by_cases ei : i = s
    · subst ei
      have ek : k ≠ i := by omega
      rw [S.ol k ek (by omega)] at lk
      rw [S.hp, S.hl, S.op k ek (by omega), S.ol k ek (by omega)]
      have := h.apart i k hk hi hn lk
      omega
    · by_cases ek : k = s
      · subst ek
        rw [S.ol i ei (by omega)] at li
        rw [S.hp, S.hl, S.op i ei (by omega), S.ol i ei (by omega)]
        have := h.apart i k hk hi li hn
        omega
      · rw [S.ol i ei (by omega)] at li
        rw [S.ol k ek (by omega)] at lk
        rw [S.op i ei (by omega), S.ol i ei (by omega), S.op k ek (by omega), S.ol k ek (by omega)]
        exact h.apart i k hk hi li lk
  · rw [S.h0] at h0 ⊢
    by_cases e : nb zs 0 - 1 = s
    · rw [e, S.hl]; omega
    · rw [S.ol _ e (by omega)]
      exact h.last h0


theorem byt_cell (zs : List Int) (s i : Nat) (hi : i < ln zs s) : byt (cellOf zs s) i = byt zs (pl zs s + i) := by
  unfold cellOf byt
  simp [List.getD, List.getElem?_drop, hi]

theorem cell_len (zs : List Int) (s : Nat) (hz : zs.length = 64) (h : pl zs s + ln zs s ≤ 64) : (cellOf zs s).length = ln zs s := by
  simp only [pl, ln] at h ⊢
  unfold cellOf
  simp [hz]
  omega

theorem cell_ext {zs ys : List Int} {s : Nat} (hz : zs.length = 64) (hy : ys.length = 64) (hp : pl ys s = pl zs s) (hl : ln ys s = ln zs s) (hr : pl zs s + ln zs s ≤ 64) (he : ∀ i, pl zs s ≤ i → i < pl zs s + ln zs s → byt ys i = byt zs i) : cellOf ys s = cellOf zs s := by
  apply byt_ext
  · rw [cell_len ys s hy (by omega), cell_len zs s hz hr, hl]
  · intro i hi
    rw [cell_len ys s hy (by omega), hl] at hi
    rw [byt_cell ys s i (by omega), byt_cell zs s i hi, hp]
    exact he _ (by omega) (by omega)

theorem stand_len (zs cs : List Int) (m low s q : Nat) (hz : zs.length = 64) (hl : q + cs.length ≤ 64) : (stand zs cs m low s q).length = 64 := by
  simp [stand, spanSet, splice, hz]
  omega

theorem stand_self (zs cs : List Int) (m low s q : Nat) (hz : zs.length = 64) (hl : q + cs.length ≤ 64) (hs : s < 30) (hq : 2 + 2 * s + 2 ≤ q) : cellOf (stand zs cs m low s q) s = cs := by
  have S := stood zs cs m low s q hz hl hs hq
  apply byt_ext
  · rw [cell_len _ s (stand_len zs cs m low s q hz hl) (by rw [S.hp, S.hl]; exact hl), S.hl]
  · intro i hi
    rw [cell_len _ s (stand_len zs cs m low s q hz hl) (by rw [S.hp, S.hl]; exact hl), S.hl] at hi
    rw [byt_cell _ s i (by rw [S.hl]; exact hi), S.hp, byt_stand zs cs m low s q _ hz hl hs, if_neg (by omega), if_neg (by omega), if_pos (by omega), show q + i - q = i by omega]

theorem stand_other (zs cs : List Int) (m low s q j : Nat) (hz : zs.length = 64) (hl : q + cs.length ≤ 64) (hs : s < 30) (hq : 2 + 2 * s + 2 ≤ q) (hj : j ≠ s) (hjq : 3 + 2 * j < q) (hr : pl zs j + ln zs j ≤ 64) (hd : 2 + 2 * s + 2 ≤ pl zs j) (h2 : 2 ≤ pl zs j) (ha : pl zs j + ln zs j ≤ q ∨ q + cs.length ≤ pl zs j) : cellOf (stand zs cs m low s q) j = cellOf zs j := by
  have S := stood zs cs m low s q hz hl hs hq
  refine cell_ext hz (stand_len zs cs m low s q hz hl) (S.op j hj (by omega)) (S.ol j hj hjq) hr (fun i h1 h2 => ?_)
  rw [byt_stand zs cs m low s q _ hz hl hs, if_neg (by omega), if_neg (by omega), if_neg (by omega), if_neg (by omega), if_neg (by omega)]

theorem set0_self {zs : List Int} (h : IsPg zs) : zs.set 0 ((nb zs 0 : Nat) : Int) = zs := by
  apply byt_ext (by simp)
  intro i hi
  rw [byt_set _ _ _ _ (by rw [h.len]; omega)]
  split
  · rename_i e; rw [e, nb_byt h]
  · rfl

theorem ahead_stand (zs cs : List Int) (s : Nat) (h : IsPg zs) (hp : cs.length + 1 < nb zs 1) (h64 : nb zs 1 ≤ 64) : aheadP zs s cs = stand zs cs (nb zs 0) (nb zs 1 - cs.length) s (nb zs 1 - cs.length) := by
  unfold aheadP stand
  rw [set0_self h, span_set1, splice_set1 _ _ _ _ (by omega) (by rw [h.len]; omega)]

theorem lens_mono (zs : List Int) (k : Nat) : ∀ m, lens zs k ≤ lens zs (k + m)
  | 0 => Nat.le_refl _
  | m + 1 => by rw [← Nat.add_assoc, lens]; have := lens_mono zs k m; omega
theorem lens_up (zs : List Int) {k m : Nat} (h : k ≤ m) : lens zs k ≤ lens zs m := by have := lens_mono zs k (m - k); rwa [show k + (m - k) = m by omega] at this

/-- What the compacted page is behind k slots. -/
structure CpT (zs : List Int) (k : Nat) : Prop where
  h0 : nb (cpP zs k) 0 = nb zs 0
  used : ∀ j, j < k → empB zs j = false → pl (cpP zs k) j = 64 - lens zs (j + 1) ∧ ln (cpP zs k) j = ln zs j ∧ cellOf (cpP zs k) j = cellOf zs j
  emp : ∀ j, j < nb zs 0 → (k ≤ j ∨ empB zs j = true) → pl (cpP zs k) j = 0 ∧ ln (cpP zs k) j = 0

theorem emp_ln {zs : List Int} (h : Fine zs) {s : Nat} (hs : s < nb zs 0) (he : empB zs s = false) : ln zs s ≠ 0 := by
  rcases h.place s hs with hp | hp
  · unfold empB at he
    simp [hp.1, hp.2] at he
  · exact hp.2.1
theorem emp_zero {zs : List Int} {s : Nat} (he : empB zs s = true) : pl zs s = 0 ∧ ln zs s = 0 := by simpa [empB] using he

theorem cps_all {zs : List Int} (h : Fine zs) : ∀ k, k ≤ nb zs 0 → CpT zs k
  | 0, _ => by
    have hl : (filled 0 0).length = 64 := by simp [filled]
    have B : ∀ i, byt (cpP zs 0) i = if i = 1 then 64 else if i = 0 then byt zs 0 else 0 := fun i => by
      rw [cpP, byt_set _ _ _ _ (by rw [List.length_set, hl]; omega), byt_set _ _ _ _ (by rw [hl]; omega), byt_filled]
    have z : ∀ i, 2 ≤ i → nb (cpP zs 0) i = 0 := fun i hi => nb_nat (by rw [B, if_neg (by omega), if_neg (by omega)]; rfl)
    exact ⟨nb_of_byt (by rw [B, if_neg (by omega), if_pos rfl]), fun j hj => absurd hj (Nat.not_lt_zero _), fun j hj _ => ⟨z _ (by omega), z _ (by omega)⟩⟩
  | k + 1, hk => by
    have ih := cps_all h k (by omega)
    have hb := both_all h k (by omega)
    have hsum := h.sum
    have hfew := h.few
    have hm := lens_up zs hk
    cases he : empB zs k
    · have hlk : lens zs (k + 1) = lens zs k + ln zs k := rfl
      have hcl : (cellOf zs k).length = ln zs k := cellOf_length h k (by omega)
      have hlow := hb.low
      have hnz := emp_ln h (show k < nb zs 0 by omega) he
      have e : cpP zs (k + 1) = stand (cpP zs k) (cellOf zs k) (nb zs 0) (64 - lens zs (k + 1)) k (64 - lens zs (k + 1)) := by
        rw [cpP, he, if_neg (by simp), ahead_stand _ _ _ hb.pg (by rw [hcl, hlow]; omega) (by rw [hlow]; omega), ih.h0, hlow, hcl, show 64 - lens zs k - ln zs k = 64 - lens zs (k + 1) by omega]
      have S := stood (cpP zs k) (cellOf zs k) (nb zs 0) (64 - lens zs (k + 1)) k (64 - lens zs (k + 1)) hb.pg.len (by rw [hcl]; omega) (by omega) (by omega)
      refine ⟨by rw [e]; exact S.h0, fun j hj hje => ?_, fun j hj hje => ?_⟩
      · rw [e]
        by_cases ej : j = k
        · subst ej
          refine ⟨S.hp, by rw [S.hl, hcl], ?_⟩
          exact stand_self _ _ _ _ _ _ hb.pg.len (by rw [hcl]; omega) (by omega) (by omega)
        · obtain ⟨u1, u2, u3⟩ := ih.used j (by omega) hje
          have hmj := lens_up zs (show j + 1 ≤ k by omega)
          have hlj : lens zs (j + 1) = lens zs j + ln zs j := rfl
          refine ⟨by rw [S.op j ej (by omega)]; exact u1, by rw [S.ol j ej (by omega)]; exact u2, ?_⟩
          rw [stand_other _ _ _ _ _ _ j hb.pg.len (by rw [hcl]; omega) (by omega) (by omega) ej (by omega) (by rw [u1, u2]; omega) (by rw [u1]; omega) (by rw [u1]; omega) (.inr (by rw [u1, hcl]; omega))]
          exact u3
      · have ej : j ≠ k := by
          intro ee
          rcases hje with h1 | h1
          · omega
          · rw [ee, he] at h1; cases h1
        rw [e, S.op j ej (by omega), S.ol j ej (by omega)]
        exact ih.emp j hj (by rcases hje with h1 | h1; exact .inl (by omega); exact .inr h1)
    · have e : cpP zs (k + 1) = cpP zs k := by rw [cpP, he, if_pos rfl]
      refine ⟨by rw [e]; exact ih.h0, fun j hj hje => ?_, fun j hj hje => ?_⟩
      · have ej : j ≠ k := by intro ej; rw [ej, he] at hje; cases hje
        rw [e]
        exact ih.used j (by omega) hje
      · rw [e]
        refine ih.emp j hj ?_
        rcases hje with h1 | h1
        · exact .inl (by omega)
        · exact .inr h1

theorem fine_compact {zs : List Int} (h : Fine zs) : Fine (cpP zs (nb zs 0)) := by
  have C := cps_all h (nb zs 0) (Nat.le_refl _)
  have hb := both_all h (nb zs 0) (Nat.le_refl _)
  have hsum := h.sum
  have hfew := h.few
  have hlow := hb.low
  have hd := h.dirs
  refine Dirs.fine ⟨hb.pg, by rw [C.h0]; exact hfew, by rw [C.h0, hlow]; omega, by rw [hlow]; omega, fun j hj => ?_, fun i k hk hi li lk => ?_, fun h0 => ?_⟩
  · rw [C.h0] at hj
    have hm := lens_up zs (show j + 1 ≤ nb zs 0 by omega)
    cases he : empB zs j
    · obtain ⟨u1, u2, _⟩ := C.used j hj he
      have hlj : lens zs (j + 1) = lens zs j + ln zs j := rfl
      have hnz := emp_ln h hj he
      rw [u1, u2, hlow]
      omega
    · exact .inl (C.emp j hj (.inr he))
  · rw [C.h0] at hi
    have hei : empB zs i = false := by
      cases he : empB zs i
      · rfl
      · exact absurd (C.emp i hi (.inr he)).2 li
    have hek : empB zs k = false := by
      cases he : empB zs k
      · rfl
      · exact absurd (C.emp k (by omega) (.inr he)).2 lk
    obtain ⟨u1, u2, _⟩ := C.used i hi hei
    obtain ⟨v1, v2, _⟩ := C.used k (by omega) hek
    have hm := lens_up zs (show k + 1 ≤ i by omega)
    have hm2 := lens_up zs (show i + 1 ≤ nb zs 0 by omega)
    have hli : lens zs (i + 1) = lens zs i + ln zs i := rfl
    have hlk : lens zs (k + 1) = lens zs k + ln zs k := rfl
    rw [u1, u2, v1, v2]
    omega
  · rw [C.h0] at h0 ⊢
    have hl := hd.last h0
    have he : empB zs (nb zs 0 - 1) = false := by
      cases he : empB zs (nb zs 0 - 1)
      · rfl
      · exact absurd (emp_zero he).2 hl
    rw [(C.used _ (by omega) he).2.1]
    exact hl


theorem lens_same {zs ys : List Int} : ∀ k, (∀ j, j < k → ln ys j = ln zs j) → lens ys k = lens zs k
  | 0, _ => rfl
  | k + 1, h => by
    have h1 := h k (by omega)
    simp only [ln] at h1
    rw [lens, lens, lens_same k (fun j hj => h j (by omega)), h1]

theorem firstE_emp (zs : List Int) : ∀ m k, firstE zs k m < k + m → empB zs (firstE zs k m) = true
  | 0, k, h => by simp [firstE] at h
  | m + 1, k, h => by
    rw [firstE] at h ⊢
    split
    · assumption
    · rename_i he
      rw [if_neg he] at h
      exact firstE_emp zs m (k + 1) (by omega)

theorem putS_emp {zs : List Int} (h : putS zs < nb zs 0) : empB zs (putS zs) = true := by
  have := firstE_emp zs (nb zs 0) 0
  rw [Nat.zero_add] at this
  exact this h

/-- A compacted page has as much free as before. -/
theorem free_compact {zs : List Int} (h : Fine zs) : freeN (cpP zs (nb zs 0)) = freeN zs := by
  have C := cps_all h (nb zs 0) (Nat.le_refl _)
  unfold freeN
  rw [C.h0, lens_same (nb zs 0) (fun j hj => ?_)]
  cases he : empB zs j
  · exact (C.used j hj he).2.1
  · rw [(C.emp j hj (.inr he)).2, (emp_zero he).2]

end Go.Proofs.YtnfolgoloaeanaaGreat

