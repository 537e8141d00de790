/-
  Plain facts: a page without a fault, told by its slots; what is put keeps a page without a fault.
-/
import Derived.Test.YtdgonddimenmdaaGreatQLpo

namespace Go.Proofs.YtdgonddimenmdaaGreat
set_option maxRecDepth 20000
set_option linter.unusedVariables false

/-- Where the cell of slot s begins, and how long it is. -/
abbrev pl (zs : List Int) (s : Nat) : Nat := nb zs (2 + 2 * s)
abbrev ln (zs : List Int) (s : Nat) : Nat := nb zs (3 + 2 * s)

structure Dirs (zs : List Int) : Prop where
  pg : IsPg zs
  few : nb zs 0 ≤ 16
  dir : 2 + 2 * nb zs 0 ≤ nb zs 1
  low : nb zs 1 ≤ 64
  place : ∀ s, s < nb zs 0 → (pl zs s = 0 ∧ ln zs s = 0) ∨ (pl zs s ≠ 0 ∧ ln zs s ≠ 0 ∧ nb zs 1 ≤ pl zs s ∧ pl zs s + ln zs s ≤ 64)
  apart : ∀ i k, k < i → i < nb zs 0 → ln zs i ≠ 0 → ln zs k ≠ 0 → pl zs i + ln zs i ≤ pl zs k ∨ pl zs k + ln zs k ≤ pl zs i
  last : 0 < nb zs 0 → ln zs (nb zs 0 - 1) ≠ 0

theorem Fine.dirs {zs : List Int} (h : Fine zs) : Dirs zs := by
  refine ⟨h.pg, h.few, h.dir, h.low, h.place, fun i k hk hi h1 h2 => ?_, fun h0 => ?_⟩
  · cases ha : apartB zs i k
    · have := hit_of zs i k hk (h.end64 i hi) ha
      rw [comB_at zs _ h.com i hi] at this
      cases this
    · simp only [apartB, Bool.or_eq_true, beq_iff_eq, decide_eq_true_eq] at ha
      rcases ha with (ha | ha) | ha
      · exact absurd ha h1
      · exact absurd ha h2
      · exact ha
  · have he := h.ends
    unfold endB at he
    rw [decide_eq_true h0, Bool.true_and] at he
    rcases h.place _ (show nb zs 0 - 1 < nb zs 0 by omega) with hp | hp
    · exfalso
      unfold empB at he
      simp [hp.1, hp.2] at he
    · exact hp.2.1

theorem Dirs.fine {zs : List Int} (h : Dirs zs) : Fine zs := by
  refine ⟨h.pg, h.few, h.dir, h.low, fun s hs => ?_, ?_, ?_⟩
  · unfold wrgS wrongB
    rcases h.place s hs with hp | hp
    · have h1 := hp.1
      have h2 := hp.2
      simp only [pl, ln] at h1 h2
      rw [h1, h2]
      rfl
    · have h1 := hp.1
      have h2 := hp.2.1
      have h3 := hp.2.2
      simp only [pl, ln] at h1 h2 h3
      simp [h1, h2]
      omega
  · have : ∀ m, m ≤ nb zs 0 → comB zs m = false := by
      intro m
      induction m with
      | zero => intro _; rfl
      | succ m ih =>
        intro hm
        rw [comB, ih (by omega), Bool.false_or]
        refine not_hit zs m (fun k hk => ?_)
        cases ha : apartB zs m k
        · obtain ⟨a1, a2, a3, a4⟩ := (apart_iff zs m k).1 ha
          have := h.apart m k hk (by omega) a1 a2
          simp only [pl, ln] at this
          omega
        · rfl
    exact this _ (Nat.le_refl _)
  · unfold endB
    by_cases h0 : 0 < nb zs 0
    · have := h.last h0
      simp only [ln] at this
      rw [decide_eq_true h0, Bool.true_and]
      unfold empB
      simp [this]
    · rw [decide_eq_false h0]
      rfl

theorem nb_of_byt {zs ys : List Int} {i j : Nat} (h : byt zs i = byt ys j) : nb zs i = nb ys j := by unfold nb; rw [h]
theorem nb_nat {zs : List Int} {i n : Nat} (h : byt zs i = (n : Int)) : nb zs i = n := by unfold nb; rw [h]; omega

/-- A cell cs at place q, for slot s; the head is m and low. -/
def stand (zs cs : List Int) (m low s q : Nat) : List Int := spanSet (splice ((zs.set 0 (m : Int)).set 1 (low : Int)) q cs) s q cs.length

theorem byt_stand (zs cs : List Int) (m low s q i : Nat) (hz : zs.length = 64) (hl : q + cs.length ≤ 64) (hs : s < 30) :
    byt (stand zs cs m low s q) i = if i = 3 + 2 * s then (cs.length : Int) else if i = 2 + 2 * s then (q : Int) else if q ≤ i ∧ i < q + cs.length then byt cs (i - q) else if i = 1 then (low : Int) else if i = 0 then (m : Int) else byt zs i := by
  unfold stand
  have hlen : (splice ((zs.set 0 (m : Int)).set 1 (low : Int)) q cs).length = 64 := by
    simp [splice, hz]
    omega
  rw [byt_span _ _ _ _ _ (by rw [hlen]; omega), byt_splice _ _ _ _ (by simp [hz]; omega), byt_set _ _ _ _ (by simp [hz]), byt_set _ _ _ _ (by omega)]

/-- What stands behind a cell was laid: the head, the slots. -/
structure Stood (zs cs : List Int) (m low s q : Nat) : Prop where
  h0 : nb (stand zs cs m low s q) 0 = m
  h1 : nb (stand zs cs m low s q) 1 = low
  hp : pl (stand zs cs m low s q) s = q
  hl : ln (stand zs cs m low s q) s = cs.length
  op : ∀ j, j ≠ s → 2 + 2 * j < q → pl (stand zs cs m low s q) j = pl zs j
  ol : ∀ j, j ≠ s → 3 + 2 * j < q → ln (stand zs cs m low s q) j = ln zs j

theorem stood (zs cs : List Int) (m low s q : Nat) (hz : zs.length = 64) (hl : q + cs.length ≤ 64) (hs : s < 30) (hq : 2 + 2 * s + 2 ≤ q) : Stood zs cs m low s q := by
  have B := fun i => byt_stand zs cs m low s q i hz hl hs
  refine ⟨nb_nat ?_, nb_nat ?_, nb_nat ?_, nb_nat ?_, fun j hj hjq => nb_of_byt ?_, fun j hj hjq => nb_of_byt ?_⟩
  · rw [B, if_neg (by omega), if_neg (by omega), if_neg (by omega), if_neg (by omega), if_pos rfl]
  · rw [B, if_neg (by omega), if_neg (by omega), if_neg (by omega), if_pos rfl]
  · rw [B, if_neg (by omega), if_pos rfl]
  · rw [B, if_pos rfl]
  · rw [B, if_neg (by omega), if_neg (by omega), if_neg (by omega), if_neg (by omega), if_neg (by omega)]
  · rw [B, if_neg (by omega), if_neg (by omega), if_neg (by omega), if_neg (by omega), if_neg (by omega)]

theorem isPg_stand {zs cs : List Int} (m low s q : Nat) (h : IsPg zs) (hc : ∀ z ∈ cs, 0 ≤ z ∧ z ≤ 255) (hl : q + cs.length ≤ 64) (hm : m ≤ 255) (hlow : low ≤ 255) : IsPg (stand zs cs m low s q) :=
  isPg_span (isPg_splice (isPg_set (isPg_set h 0 m hm) 1 low hlow) hc hl) s q cs.length (by omega) (by omega)

/-- A cell that is laid ahead of all, for a slot that is empty or new, or in the place of one: the page stays without a fault. -/
theorem dirs_ahead {zs cs : List Int} {m s : Nat} (h : Dirs zs) (hc : ∀ z ∈ cs, 0 ≤ z ∧ z ≤ 255) (h1 : 1 ≤ cs.length) (hm : m ≤ 16) (hs : s < m) (hms : m = nb zs 0 ∨ (m = nb zs 0 + 1 ∧ s = nb zs 0)) (hroom : 2 + 2 * m + cs.length ≤ nb zs 1) : Dirs (stand zs cs m (nb zs 1 - cs.length) s (nb zs 1 - cs.length)) := by
  have hlow := h.low
  have S := stood zs cs m (nb zs 1 - cs.length) s (nb zs 1 - cs.length) h.pg.len (by omega) (by omega) (by omega)
  have hother : ∀ j, j < m → j ≠ s → j < nb zs 0 := by intro j hj hne; omega
  refine ⟨isPg_stand _ _ _ _ h.pg hc (by omega) (by omega) (by omega), by rw [S.h0]; exact hm, by rw [S.h0, S.h1]; omega, by rw [S.h1]; omega, fun j hj => ?_, fun i k hk hi li lk => ?_, fun h0 => ?_⟩
  · rw [S.h0] at hj
    rw [S.h1]
    by_cases e : j = s
    · subst e
      rw [S.hp, S.hl]
      omega
    · rw [S.op j e (by omega), S.ol j e (by omega)]
      have := h.place j (hother j hj e)
      omega
  · rw [S.h0] at hi
    by_cases ei : i = s
    · subst ei
      have ek : k ≠ i := by omega
      rw [S.ol k ek (by omega)] at lk
      rw [S.hp, S.hl, S.op k ek (by omega), S.ol k ek (by omega)]
      have := h.place k (hother k (by omega) ek)
      omega
    · by_cases ek : k = s
      · subst ek
        rw [S.ol i ei (by omega)] at li
        rw [S.hp, S.hl, S.op i ei (by omega), S.ol i ei (by omega)]
        have := h.place i (hother i hi ei)
        omega
      · rw [S.ol i ei (by omega)] at li
        rw [S.ol k ek (by omega)] at lk
        rw [S.op i ei (by omega), S.ol i ei (by omega), S.op k ek (by omega), S.ol k ek (by omega)]
        exact h.apart i k hk (hother i hi ei) li lk
  · rw [S.h0] at h0 ⊢
    by_cases e : m - 1 = s
    · rw [e, S.hl]; omega
    · rw [S.ol _ e (by omega)]
      have hm0 : m = nb zs 0 := by omega
      rw [hm0]
      exact h.last (by omega)

theorem putP_stand (zs cs : List Int) : putP zs cs = stand zs cs (putM zs) (nb zs 1 - cs.length) (putS zs) (nb zs 1 - cs.length) := rfl

theorem fine_put {zs cs : List Int} (h : Fine zs) (hc : ∀ z ∈ cs, 0 ≤ z ∧ z ≤ 255) (h1 : 1 ≤ cs.length) (hq : putQ zs cs.length = 0) : Fine (putP zs cs) := by
  have hd := h.dirs
  have hle := putS_le zs
  unfold putQ at hq
  split at hq
  · cases hq
  · rename_i a1
    split at hq
    · cases hq
    · split at hq
      · cases hq
      · rename_i a2 a3
        rw [putP_stand]
        have hf := hd.few
        have hM : putM zs = nb zs 0 ∧ putS zs < nb zs 0 ∨ putM zs = nb zs 0 + 1 ∧ putS zs = nb zs 0 := by
          unfold putM
          split <;> omega
        exact (dirs_ahead hd hc h1 (by omega) (by omega) (by omega) (by omega)).fine

/-- A cell that is no longer than the one in whose place it is laid, at its end: the page stays without a fault. -/
theorem dirs_inner {zs cs : List Int} {s : Nat} (h : Dirs zs) (hc : ∀ z ∈ cs, 0 ≤ z ∧ z ≤ 255) (h1 : 1 ≤ cs.length) (hs : s < nb zs 0) (hn : ln zs s ≠ 0) (hle : cs.length ≤ ln zs s) : Dirs (stand zs cs (nb zs 0) (nb zs 1) s (pl zs s + ln zs s - cs.length)) := by
  have hlow := h.low
  have hdir := h.dir
  have hfew := h.few
  have hps := h.place s hs
  have S := stood zs cs (nb zs 0) (nb zs 1) s (pl zs s + ln zs s - cs.length) h.pg.len (by omega) (by omega) (by omega)
  refine ⟨isPg_stand _ _ _ _ h.pg hc (by omega) (by omega) (by omega), by rw [S.h0]; exact hfew, by rw [S.h0, S.h1]; exact hdir, by rw [S.h1]; exact hlow, fun j hj => ?_, fun i k hk hi li lk => ?_, fun h0 => ?_⟩
  · rw [S.h0] at hj
    rw [S.h1]
    by_cases e : j = s
    · subst e
      rw [S.hp, S.hl]
      omega
    · rw [S.op j e (by omega), S.ol j e (by omega)]
      exact h.place j hj
  · rw [S.h0] at hi
    by_cases ei : i = s
    · subst ei
      have ek : k ≠ i := by omega
      rw [S.ol k ek (by omega)] at lk
      rw [S.hp, S.hl, S.op k ek (by omega), S.ol k ek (by omega)]
      have := h.apart i k hk hi hn lk
      omega
    · by_cases ek : k = s
      · subst ek
        rw [S.ol i ei (by omega)] at li
        rw [S.hp, S.hl, S.op i ei (by omega), S.ol i ei (by omega)]
        have := h.apart i k hk hi li hn
        omega
      · rw [S.ol i ei (by omega)] at li
        rw [S.ol k ek (by omega)] at lk
        rw [S.op i ei (by omega), S.ol i ei (by omega), S.op k ek (by omega), S.ol k ek (by omega)]
        exact h.apart i k hk hi li lk
  · rw [S.h0] at h0 ⊢
    by_cases e : nb zs 0 - 1 = s
    · rw [e, S.hl]; omega
    · rw [S.ol _ e (by omega)]
      exact h.last h0

/-- A slot that is emptied, and a head that tells no empty slot at the end: the page stays without a fault. -/
theorem dirs_drop {zs : List Int} {s m : Nat} (h : Dirs zs) (hs : s < nb zs 0) (hm : m ≤ nb zs 0) (hlast : 0 < m → m - 1 ≠ s ∧ ln zs (m - 1) ≠ 0) : Dirs ((spanSet zs s 0 0).set 0 (m : Int)) := by
  have hfew := h.few
  have hlow := h.low
  have hdir := h.dir
  have hlen : (spanSet zs s 0 0).length = 64 := by simp [spanSet, h.pg.len]
  have B : ∀ i, byt ((spanSet zs s 0 0).set 0 (m : Int)) i = if i = 0 then (m : Int) else if i = 3 + 2 * s then ((0 : Nat) : Int) else if i = 2 + 2 * s then ((0 : Nat) : Int) else byt zs i := fun i => by
    rw [byt_set _ _ _ _ (by omega), byt_span _ _ _ _ _ (by rw [h.pg.len]; omega)]
  have e0 : nb ((spanSet zs s 0 0).set 0 (m : Int)) 0 = m := nb_nat (by rw [B, if_pos rfl])
  have e1 : nb ((spanSet zs s 0 0).set 0 (m : Int)) 1 = nb zs 1 := nb_of_byt (by rw [B, if_neg (by omega), if_neg (by omega), if_neg (by omega)])
  have es : pl ((spanSet zs s 0 0).set 0 (m : Int)) s = 0 ∧ ln ((spanSet zs s 0 0).set 0 (m : Int)) s = 0 := ⟨nb_nat (by rw [B, if_neg (by omega), if_neg (by omega), if_pos rfl]), nb_nat (by rw [B, if_neg (by omega), if_pos rfl])⟩
  have eo : ∀ j, j ≠ s → pl ((spanSet zs s 0 0).set 0 (m : Int)) j = pl zs j ∧ ln ((spanSet zs s 0 0).set 0 (m : Int)) j = ln zs j := fun j hj => ⟨nb_of_byt (by rw [B, if_neg (by omega), if_neg (by omega), if_neg (by omega)]), nb_of_byt (by rw [B, if_neg (by omega), if_neg (by omega), if_neg (by omega)])⟩
  refine ⟨isPg_set (isPg_span h.pg s 0 0 (by omega) (by omega)) 0 m (by omega), by rw [e0]; omega, by rw [e0, e1]; omega, by rw [e1]; exact hlow, fun j hj => ?_, fun i k hk hi li lk => ?_, fun h0 => ?_⟩
  · rw [e0] at hj
    rw [e1]
    by_cases e : j = s
    · subst e; exact .inl es
    · rw [(eo j e).1, (eo j e).2]
      exact h.place j (by omega)
  · rw [e0] at hi
    have ni : i ≠ s := fun e => by rw [e] at li; exact li es.2
    have nk : k ≠ s := fun e => by rw [e] at lk; exact lk es.2
    rw [(eo i ni).2] at li
    rw [(eo k nk).2] at lk
    rw [(eo i ni).1, (eo i ni).2, (eo k nk).1, (eo k nk).2]
    exact h.apart i k hk (by omega) li lk
  · rw [e0] at h0 ⊢
    obtain ⟨a1, a2⟩ := hlast h0
    rw [(eo _ a1).2]
    exact a2

end Go.Proofs.YtdgonddimenmdaaGreat
