/-
  PackRecord: the program's and the model's.
-/
import Derived.Test.YtcjkjenebnodbaaRLpk

namespace Go.Proofs.Ytcjkjenebnodbaa
open Go.RowKit
set_option linter.unusedVariables false

theorem rfFrom_all {P : Nat → Int} {Z : Nat → List Int} : ∀ m j, rfFrom P Z m j = 0 → ∀ i, j ≤ i → i < j + m → runQ (P i) (Z i).length (lst P Z i) = 0
  | 0, j, _, i, h1, h2 => by omega
  | m + 1, j, h, i, h1, h2 => by
    simp only [rfFrom] at h
    split at h
    · rename_i h0
      by_cases e : i = j
      · rw [e]; exact h0
      · exact rfFrom_all m (j + 1) h i (by omega) (by omega)
    · rename_i h0
      exact absurd h h0

/-- What runs without a fault keep. -/
theorem rf_ok {n : Nat} {P : Nat → Int} {Z : Nat → List Int} (h : rfQ n P Z = 0) : n ≤ 32 ∧ (∀ i, i < n → 0 ≤ P i ∧ 1 ≤ (Z i).length ∧ P i + (Z i).length ≤ 64 ∧ lst P Z i ≤ P i) ∧ took Z n + n ≤ 65 := by
  have hall : ∀ i, i < n → 0 ≤ P i ∧ 1 ≤ (Z i).length ∧ P i + (Z i).length ≤ 64 ∧ lst P Z i ≤ P i := by
    unfold rfQ at h
    split at h
    · cases h
    · exact fun i hi => runQ_zero (rfFrom_all n 0 h i (by omega) (by omega))
  have hup : ∀ j, j ≤ n → ((took Z j + j : Nat) : Int) ≤ lst P Z j ∧ j ≤ took Z j := by
    intro j
    induction j with
    | zero => intro _; simp [took, lst]
    | succ j ih =>
      intro hj
      have h1 := ih (by omega)
      have h2 := hall j (by omega)
      simp only [took, lst]
      omega
  have hn := hup n (Nat.le_refl _)
  have hl : n = 0 ∨ lst P Z n ≤ 65 := by
    cases n with
    | zero => exact .inl rfl
    | succ m =>
      have h2 := hall m (by omega)
      right
      simp only [lst]
      omega
  rcases hl with rfl | hl
  · exact ⟨by omega, hall, by simp [took]⟩
  · exact ⟨by omega, hall, by omega⟩

theorem or2_zero {x y : Int} (h : or2 x y = 0) : x = 0 ∧ y = 0 := by
  unfold or2 at h
  split at h
  · rename_i e; exact ⟨e, h⟩
  · rename_i e; exact absurd h e
theorem txQ_zero {x : Int} (h : txQ x = 0) : 1 ≤ x ∧ x ≤ 99 := by
  unfold txQ at h
  split at h
  · rename_i e; simpa [inR] using e
  · cases h
theorem pgQ_zero {x : Int} (h : pgQ x = 0) : 0 ≤ x ∧ x ≤ 11 := by
  unfold pgQ at h
  split at h
  · rename_i e; simpa [inR] using e
  · cases h

/-- What a record without a fault keeps. -/
theorem rec_ok {k tx pg : Int} {n : Nat} {P : Nat → Int} {Z : Nat → List Int} (h : recQ k tx pg n P Z = 0) : 1 ≤ k ∧ k ≤ 6 ∧ 0 ≤ tx ∧ tx ≤ 99 ∧ 0 ≤ pg ∧ pg ≤ 11 ∧ rfQ n P Z = 0 := by
  unfold recQ at h
  split at h
  · rename_i hk
    split at h
    · cases h
    · rename_i hm
      have ht := txQ_zero h
      have hm2 : pg = 0 ∧ n = 0 := by simp [muchB] at hm; omega
      obtain ⟨rfl, rfl⟩ := hm2
      exact ⟨by omega, by omega, by omega, by omega, by omega, by omega, rfl⟩
  · split at h
    · rename_i hk
      unfold deQ at h
      split at h
      · rename_i e
        obtain ⟨e1, e2⟩ := or2_zero e
        obtain ⟨e2, e3⟩ := or2_zero e2
        have ht := txQ_zero e1
        have hp := pgQ_zero e2
        exact ⟨by omega, by omega, by omega, by omega, by omega, by omega, e3⟩
      · rename_i e; exact absurd h e
    · split at h
      · rename_i hk
        split at h
        · cases h
        · rename_i ht
          unfold imQ at h
          split at h
          · rename_i e
            obtain ⟨e2, e3⟩ := or2_zero e
            have hp := pgQ_zero e2
            have ht : tx = 0 := by omega
            exact ⟨by omega, by omega, by omega, by omega, by omega, by omega, e3⟩
          · rename_i e; exact absurd h e
      · cases h

theorem rec_runs {k tx pg : Int} {n : Nat} {P : Nat → Int} {Z : Nat → List Int} (h : recQ k tx pg n P Z = 0) (hb : ∀ i, i < n → ∀ z ∈ Z i, 0 ≤ z ∧ z ≤ 255) : RunsOk n Z := by
  obtain ⟨h1, h2, h3⟩ := rf_ok (rec_ok h).2.2.2.2.2.2
  exact ⟨by omega, fun i hi => by have := h2 i hi; omega, hb, by omega⟩

/-- The bytes that PackRecord answers. -/
def pkB (k tx pg : Int) (n : Nat) (P : Nat → Int) (Z : Nat → List Int) : List Int := if recQ k tx pg n P Z = 0 then packB k tx pg n P Z else []

set_option maxHeartbeats 1000000 in
theorem specPackRecord_any (k tx pg : Int) (a : Option Addr) (n c : Nat) (P : Nat → Int) (A : Nat → Option Addr) (C : Nat → Nat) (Z : Nat → List Int) (w : World) (hm : n ≤ 1048576) (hz : Hid (∀ i, i < n → (Z i).length ≤ 1048576)) (hzb : Hid (∀ i, i < n → ∀ z ∈ Z i, 0 ≤ z ∧ z ≤ 255)) (hr : RunsRead w a n P A C Z) :
    Calls Try.prog 35 #[.agg #[.int .i64 k, .int .i64 tx, .int .i64 pg, .slice a n c]] w fun e w' => ∃ a' d', e = .returned (.agg #[.int .i64 (recQ k tx pg n P Z), .slice a' (pkB k tx pg n P Z).length d']) ∧ (pkB k tx pg n P Z).length ≤ d' ∧ Below w.heap.size w w' ∧ BytesIn w.heap.size w'.heap.size w' a' (pkB k tx pg n P Z) := by
  have HR : Hid (RunsRead w a n P A C Z) := hr
  clear hr
  go_enter Try.func35, Try.ntmps35
  go_upto_region 1 with (fail)
  generalize hY : World.alloc _ _ = Y
  have g : Below w.heap.size w Y := by rw [← hY]; go_grown
  have hB : RcAt Y w.heap.size k tx pg a n c := by rw [← hY]; exact ⟨by simp [go_sem], by simp [go_sem], by simp [go_sem], by simp [go_sem]⟩
  have y0 : Y.cell? ⟨w.heap.size + 1, 0, none⟩ = some (.int .i64 0) := by rw [← hY]; simp [go_sem]
  have y1 : Y.cell? ⟨w.heap.size + 1, 1, none⟩ = some (.slice none 0 0) := by rw [← hY]; simp [go_sem]
  have v0 : Y.frozen? ⟨w.heap.size + 1, 0, none⟩ = false := by rw [← hY]; simp [go_sem]
  have v1 : Y.frozen? ⟨w.heap.size + 1, 1, none⟩ = false := by rw [← hY]; simp [go_sem]
  have hs : w.heap.size + 2 ≤ Y.heap.size := by rw [← hY]; simp
  clear hY
  have hB0 := hB
  obtain ⟨c0, c1, c2, c3⟩ := hB0
  go_wp2_with fail
  refine (l4Fault_any w.heap.size k tx pg a n c P A C Z _ hm hz (HR.out.below g (Nat.le_refl _)) hB).mono ?_
  rintro e w1 ⟨rfl, g1⟩
  obtain ⟨q1, rfl⟩ := g1
  have g1 : Below Y.heap.size Y (Y.drewN q1) := below_draws (Below.refl _ _) _
  generalize Y.drewN q1 = w1 at g1 ⊢
  have hB := hB.up g1
  have y0 := cellUp g1 y0
  have y1 := cellUp g1 y1
  have v0 := (g1.frozen (p := ⟨w.heap.size + 1, 0, none⟩) (by simp only; omega)).trans v0
  have v1 := (g1.frozen (p := ⟨w.heap.size + 1, 1, none⟩) (by simp only; omega)).trans v1
  have hs : w.heap.size + 2 ≤ w1.heap.size := Nat.le_trans hs g1.size
  have g : Below w.heap.size w w1 := g.trans (g1.mono g.size)
  clear g1 c0 c1 c2 c3
  obtain ⟨q, hq⟩ : ∃ q, q = recQ k tx pg n P Z := ⟨_, rfl⟩
  have HQ : Hid (recQ k tx pg n P Z = q) := hq.symm
  rw [← hq]
  by_cases hq0 : q = 0
  · have hok := rec_runs (by rw [← hq]; exact hq0) hzb.out
    have HP : Hid (pkB k tx pg n P Z = packB k tx pg n P Z) := by show _ = _; unfold pkB; rw [← hq, if_pos hq0]
    subst hq0
    clear hq
    have hB0 := hB
    obtain ⟨c0, c1, c2, c3⟩ := hB0
    go_wp2_with fail
    refine (l4Pack_any w.heap.size k tx pg a n c P A C Z _ hok (HR.out.below g (Nat.le_refl _)) hB).mono ?_
    rintro e w2 ⟨gb, d, rfl, hd, g2, hy⟩
    have y0 := cellUp g2 y0
    have y1 := cellUp g2 y1
    have v0 := (g2.frozen (p := ⟨w.heap.size + 1, 0, none⟩) (by simp only; omega)).trans v0
    have v1 := (g2.frozen (p := ⟨w.heap.size + 1, 1, none⟩) (by simp only; omega)).trans v1
    have hs1 := g2.size
    have hgm : Hid (BytesIn (w.heap.size + 2) w2.heap.size w2 (some ⟨gb, 0, none⟩) (packB k tx pg n P Z)) := hy.mono hs (Nat.le_refl _)
    have g : Below w.heap.size w w2 := g.trans (g2.mono g.size)
    clear g2 c0 c1 c2 c3 hy hB hok
    obtain ⟨L, hL⟩ : ∃ L, L = (packB k tx pg n P Z).length := ⟨_, rfl⟩
    rw [← hL] at hd ⊢
    have HL : Hid ((packB k tx pg n P Z).length = L) := hL.symm
    clear hL
    go_wp2_with fail
    refine bodyPost_ret (v := .agg #[.int .i64 0, .slice (some ⟨gb, 0, none⟩) L d]) (by simp [results, Try.results35, go_sem, *]) rfl ?_
    refine ⟨some ⟨gb, 0, none⟩, d, by rw [HQ.out, HP.out, HL.out], by rw [HP.out, HL.out]; exact hd, by go_grown, ?_⟩
    rw [HP.out]
    exact ((hgm.out.setCell (by simp) _).setCell (by simp) _).mono (by omega) (by simp)
  · have HP : Hid (pkB k tx pg n P Z = []) := by show _ = _; unfold pkB; rw [← hq, if_neg hq0]
    have dq : (q != 0) = true := by simpa using hq0
    clear hq hq0 hB
    go_wp2_with fail
    refine bodyPost_ret (v := .agg #[.int .i64 q, .slice none 0 0]) (by simp [results, Try.results35, go_sem, *]) rfl ?_
    exact ⟨none, 0, by rw [HQ.out, HP.out]; rfl, by rw [HP.out]; exact Nat.le_refl _, by go_grown, by rw [HP.out]; exact .inl rfl⟩

set_option maxHeartbeats 1000000 in
theorem implPackRecord_any (k tx pg : Int) (a : Option Addr) (n c : Nat) (P : Nat → Int) (A : Nat → Option Addr) (C : Nat → Nat) (Z : Nat → List Int) (w : World) (hm : n ≤ 1048576) (hz : Hid (∀ i, i < n → (Z i).length ≤ 1048576)) (hzb : Hid (∀ i, i < n → ∀ z ∈ Z i, 0 ≤ z ∧ z ≤ 255)) (hr : RunsRead w a n P A C Z) :
    Calls Try.prog 36 #[.agg #[.int .i64 k, .int .i64 tx, .int .i64 pg, .slice a n c]] w fun e w' => ∃ a' d', e = .returned (.agg #[.int .i64 (recQ k tx pg n P Z), .slice a' (pkB k tx pg n P Z).length d']) ∧ (pkB k tx pg n P Z).length ≤ d' ∧ Below w.heap.size w w' ∧ BytesIn w.heap.size w'.heap.size w' a' (pkB k tx pg n P Z) := by
  have HR : Hid (RunsRead w a n P A C Z) := hr
  clear hr
  go_enter Try.func36, Try.ntmps36
  go_upto_region 1 with (fail)
  generalize hY : World.alloc _ _ = Y
  have g : Below w.heap.size w Y := by rw [← hY]; go_grown
  have hB : RcAt Y w.heap.size k tx pg a n c := by rw [← hY]; exact ⟨by simp [go_sem], by simp [go_sem], by simp [go_sem], by simp [go_sem]⟩
  have y0 : Y.cell? ⟨w.heap.size + 1, 0, none⟩ = some (.int .i64 0) := by rw [← hY]; simp [go_sem]
  have y1 : Y.cell? ⟨w.heap.size + 1, 1, none⟩ = some (.slice none 0 0) := by rw [← hY]; simp [go_sem]
  have v0 : Y.frozen? ⟨w.heap.size + 1, 0, none⟩ = false := by rw [← hY]; simp [go_sem]
  have v1 : Y.frozen? ⟨w.heap.size + 1, 1, none⟩ = false := by rw [← hY]; simp [go_sem]
  have hs : w.heap.size + 2 ≤ Y.heap.size := by rw [← hY]; simp
  clear hY
  have hB0 := hB
  obtain ⟨c0, c1, c2, c3⟩ := hB0
  go_wp2_with fail
  refine (implRecordFault_any k tx pg a n c P A C Z _ hm hz (HR.out.below g (Nat.le_refl _))).mono ?_
  rintro e w1 ⟨rfl, g1⟩



  have hB := hB.up g1
  have y0 := cellUp g1 y0
  have y1 := cellUp g1 y1
  have v0 := (g1.frozen (p := ⟨w.heap.size + 1, 0, none⟩) (by simp only; omega)).trans v0
  have v1 := (g1.frozen (p := ⟨w.heap.size + 1, 1, none⟩) (by simp only; omega)).trans v1
  have hs : w.heap.size + 2 ≤ w1.heap.size := Nat.le_trans hs g1.size
  have g : Below w.heap.size w w1 := g.trans (g1.mono g.size)
  clear g1 c0 c1 c2 c3
  obtain ⟨q, hq⟩ : ∃ q, q = recQ k tx pg n P Z := ⟨_, rfl⟩
  have HQ : Hid (recQ k tx pg n P Z = q) := hq.symm
  rw [← hq]
  by_cases hq0 : q = 0
  · have hok := rec_runs (by rw [← hq]; exact hq0) hzb.out
    have HP : Hid (pkB k tx pg n P Z = packB k tx pg n P Z) := by show _ = _; unfold pkB; rw [← hq, if_pos hq0]
    subst hq0
    clear hq
    have hB0 := hB
    obtain ⟨c0, c1, c2, c3⟩ := hB0
    go_wp2_with fail
    refine (recordBytes_any k tx pg a n c P A C Z _ hok (HR.out.below g (Nat.le_refl _))).mono ?_
    rintro e w2 ⟨gb, d, rfl, hd, g2, hy⟩
    have y0 := cellUp g2 y0
    have y1 := cellUp g2 y1
    have v0 := (g2.frozen (p := ⟨w.heap.size + 1, 0, none⟩) (by simp only; omega)).trans v0
    have v1 := (g2.frozen (p := ⟨w.heap.size + 1, 1, none⟩) (by simp only; omega)).trans v1
    have hs1 := g2.size
    have hgm : Hid (BytesIn (w.heap.size + 2) w2.heap.size w2 (some ⟨gb, 0, none⟩) (packB k tx pg n P Z)) := hy.mono hs (Nat.le_refl _)
    have g : Below w.heap.size w w2 := g.trans (g2.mono g.size)
    clear g2 c0 c1 c2 c3 hy hB hok
    obtain ⟨L, hL⟩ : ∃ L, L = (packB k tx pg n P Z).length := ⟨_, rfl⟩
    rw [← hL] at hd ⊢
    have HL : Hid ((packB k tx pg n P Z).length = L) := hL.symm
    clear hL
    go_wp2_with fail
    refine bodyPost_ret (v := .agg #[.int .i64 0, .slice (some ⟨gb, 0, none⟩) L d]) (by simp [results, Try.results36, go_sem, *]) rfl ?_
    refine ⟨some ⟨gb, 0, none⟩, d, by rw [HQ.out, HP.out, HL.out], by rw [HP.out, HL.out]; exact hd, by go_grown, ?_⟩
    rw [HP.out]
    exact ((hgm.out.setCell (by simp) _).setCell (by simp) _).mono (by omega) (by simp)
  · have HP : Hid (pkB k tx pg n P Z = []) := by show _ = _; unfold pkB; rw [← hq, if_neg hq0]
    have dq : (q != 0) = true := by simpa using hq0
    clear hq hq0 hB
    go_wp2_with fail
    refine bodyPost_ret (v := .agg #[.int .i64 q, .slice none 0 0]) (by simp [results, Try.results36, go_sem, *]) rfl ?_
    exact ⟨none, 0, by rw [HQ.out, HP.out]; rfl, by rw [HP.out]; exact Nat.le_refl _, by go_grown, by rw [HP.out]; exact .inl rfl⟩

end Go.Proofs.Ytcjkjenebnodbaa
