/-
  PackRecord: the program's and the model's.
-/
import Derived.Test.YtcjkjenebnodbaaDoorSRok
import Derived.Test.YtcjkjenebnodbaaDoorSLpk

namespace Go.Proofs.YtcjkjenebnodbaaDoor
open Go.RowKit
set_option linter.unusedVariables false

theorem rec_runs {k tx pg : Int} {n : Nat} {P : Nat → Int} {Z : Nat → List Int} (h : recQ k tx pg n P Z = 0) (hb : ∀ i, i < n → ∀ z ∈ Z i, 0 ≤ z ∧ z ≤ 255) : RunsOk n Z := by
  obtain ⟨h1, h2, h3⟩ := rf_ok (rec_ok h).2.2.2.2.2.2
  exact ⟨by omega, fun i hi => by have := h2 i hi; omega, hb, by omega⟩

/-- The bytes that PackRecord answers. -/
def pkB (k tx pg : Int) (n : Nat) (P : Nat → Int) (Z : Nat → List Int) : List Int := if recQ k tx pg n P Z = 0 then packB k tx pg n P Z else []

set_option maxHeartbeats 1000000 in
theorem specPackRecord_any (k tx pg : Int) (a : Option Addr) (n c : Nat) (P : Nat → Int) (A : Nat → Option Addr) (C : Nat → Nat) (Z : Nat → List Int) (w : World) (hm : n ≤ 1048576) (hz : Hid (∀ i, i < n → (Z i).length ≤ 1048576)) (hzb : Hid (∀ i, i < n → ∀ z ∈ Z i, 0 ≤ z ∧ z ≤ 255)) (hr : RunsRead w a n P A C Z) :
    Calls Tryd.prog 12 #[.agg #[.int .i64 k, .int .i64 tx, .int .i64 pg, .slice a n c]] w fun e w' => ∃ a' d', e = .returned (.agg #[.int .i64 (recQ k tx pg n P Z), .slice a' (pkB k tx pg n P Z).length d']) ∧ (pkB k tx pg n P Z).length ≤ d' ∧ Below w.heap.size w w' ∧ BytesIn w.heap.size w'.heap.size w' a' (pkB k tx pg n P Z) := by
  have HR : Hid (RunsRead w a n P A C Z) := hr
  clear hr
  go_enter Tryd.func12, Tryd.ntmps12
  go_upto_region 1 with (fail)
  generalize hY : World.alloc _ _ = Y
  have g : Below w.heap.size w Y := by rw [← hY]; go_grown
  have hB : RcAt Y w.heap.size k tx pg a n c := by rw [← hY]; exact ⟨by simp [go_sem], by simp [go_sem], by simp [go_sem], by simp [go_sem]⟩
  have y0 : Y.cell? ⟨w.heap.size + 1, 0, none⟩ = some (.int .i64 0) := by rw [← hY]; simp [go_sem]
  have y1 : Y.cell? ⟨w.heap.size + 1, 1, none⟩ = some (.slice none 0 0) := by rw [← hY]; simp [go_sem]
  have v0 : Y.frozen? ⟨w.heap.size + 1, 0, none⟩ = false := by rw [← hY]; simp [go_sem]
  have v1 : Y.frozen? ⟨w.heap.size + 1, 1, none⟩ = false := by rw [← hY]; simp [go_sem]
  have hs : w.heap.size + 2 ≤ Y.heap.size := by rw [← hY]; simp
  clear hY
  have hB0 := hB
  obtain ⟨c0, c1, c2, c3⟩ := hB0
  go_wp2_with fail
  refine (l4Fault_any w.heap.size k tx pg a n c P A C Z _ hm hz (HR.out.below g (Nat.le_refl _)) hB).mono ?_
  rintro e w1 ⟨rfl, g1⟩
  obtain ⟨q1, rfl⟩ := g1
  have g1 : Below Y.heap.size Y (Y.drewN q1) := below_draws (Below.refl _ _) _
  generalize Y.drewN q1 = w1 at g1 ⊢
  have hB := hB.up g1
  have y0 := cellUp g1 y0
  have y1 := cellUp g1 y1
  have v0 := (g1.frozen (p := ⟨w.heap.size + 1, 0, none⟩) (by simp only; omega)).trans v0
  have v1 := (g1.frozen (p := ⟨w.heap.size + 1, 1, none⟩) (by simp only; omega)).trans v1
  have hs : w.heap.size + 2 ≤ w1.heap.size := Nat.le_trans hs g1.size
  have g : Below w.heap.size w w1 := g.trans (g1.mono g.size)
  clear g1 c0 c1 c2 c3
  obtain ⟨q, hq⟩ : ∃ q, q = recQ k tx pg n P Z := ⟨_, rfl⟩
  have HQ : Hid (recQ k tx pg n P Z = q) := hq.symm
  rw [← hq]
  by_cases hq0 : q = 0
  · have hok := rec_runs (by rw [← hq]; exact hq0) hzb.out
    have HP : Hid (pkB k tx pg n P Z = packB k tx pg n P Z) := by show _ = _; unfold pkB; rw [← hq, if_pos hq0]
    subst hq0
    clear hq
    have hB0 := hB
    obtain ⟨c0, c1, c2, c3⟩ := hB0
    go_wp2_with fail
    refine (l4Pack_any w.heap.size k tx pg a n c P A C Z _ hok (HR.out.below g (Nat.le_refl _)) hB).mono ?_
    rintro e w2 ⟨gb, d, rfl, hd, g2, hy⟩
    have y0 := cellUp g2 y0
    have y1 := cellUp g2 y1
    have v0 := (g2.frozen (p := ⟨w.heap.size + 1, 0, none⟩) (by simp only; omega)).trans v0
    have v1 := (g2.frozen (p := ⟨w.heap.size + 1, 1, none⟩) (by simp only; omega)).trans v1
    have hs1 := g2.size
    have hgm : Hid (BytesIn (w.heap.size + 2) w2.heap.size w2 (some ⟨gb, 0, none⟩) (packB k tx pg n P Z)) := hy.mono hs (Nat.le_refl _)
    have g : Below w.heap.size w w2 := g.trans (g2.mono g.size)
    clear g2 c0 c1 c2 c3 hy hB hok
    obtain ⟨L, hL⟩ : ∃ L, L = (packB k tx pg n P Z).length := ⟨_, rfl⟩
    rw [← hL] at hd ⊢
    have HL : Hid ((packB k tx pg n P Z).length = L) := hL.symm
    clear hL
    go_wp2_with fail
    refine bodyPost_ret (v := .agg #[.int .i64 0, .slice (some ⟨gb, 0, none⟩) L d]) (by simp [results, Tryd.results12, go_sem, *]) rfl ?_
    refine ⟨some ⟨gb, 0, none⟩, d, by rw [HQ.out, HP.out, HL.out], by rw [HP.out, HL.out]; exact hd, by go_grown, ?_⟩
    rw [HP.out]
    exact ((hgm.out.setCell (by simp) _).setCell (by simp) _).mono (by omega) (by simp)
  · have HP : Hid (pkB k tx pg n P Z = []) := by show _ = _; unfold pkB; rw [← hq, if_neg hq0]
    have dq : (q != 0) = true := by simpa using hq0
    clear hq hq0 hB
    go_wp2_with fail
    refine bodyPost_ret (v := .agg #[.int .i64 q, .slice none 0 0]) (by simp [results, Tryd.results12, go_sem, *]) rfl ?_
    exact ⟨none, 0, by rw [HQ.out, HP.out]; rfl, by rw [HP.out]; exact Nat.le_refl _, by go_grown, by rw [HP.out]; exact .inl rfl⟩

set_option maxHeartbeats 1000000 in
theorem implPackRecord_any (k tx pg : Int) (a : Option Addr) (n c : Nat) (P : Nat → Int) (A : Nat → Option Addr) (C : Nat → Nat) (Z : Nat → List Int) (w : World) (hm : n ≤ 1048576) (hz : Hid (∀ i, i < n → (Z i).length ≤ 1048576)) (hzb : Hid (∀ i, i < n → ∀ z ∈ Z i, 0 ≤ z ∧ z ≤ 255)) (hr : RunsRead w a n P A C Z) :
    Calls Tryd.prog 10 #[.agg #[.int .i64 k, .int .i64 tx, .int .i64 pg, .slice a n c]] w fun e w' => ∃ a' d', e = .returned (.agg #[.int .i64 (recQ k tx pg n P Z), .slice a' (pkB k tx pg n P Z).length d']) ∧ (pkB k tx pg n P Z).length ≤ d' ∧ Below w.heap.size w w' ∧ BytesIn w.heap.size w'.heap.size w' a' (pkB k tx pg n P Z) := by
  have HR : Hid (RunsRead w a n P A C Z) := hr
  clear hr
  go_enter Tryd.func10, Tryd.ntmps10
  go_upto_region 1 with (fail)
  generalize hY : World.alloc _ _ = Y
  have g : Below w.heap.size w Y := by rw [← hY]; go_grown
  have hB : RcAt Y w.heap.size k tx pg a n c := by rw [← hY]; exact ⟨by simp [go_sem], by simp [go_sem], by simp [go_sem], by simp [go_sem]⟩
  have y0 : Y.cell? ⟨w.heap.size + 1, 0, none⟩ = some (.int .i64 0) := by rw [← hY]; simp [go_sem]
  have y1 : Y.cell? ⟨w.heap.size + 1, 1, none⟩ = some (.slice none 0 0) := by rw [← hY]; simp [go_sem]
  have v0 : Y.frozen? ⟨w.heap.size + 1, 0, none⟩ = false := by rw [← hY]; simp [go_sem]
  have v1 : Y.frozen? ⟨w.heap.size + 1, 1, none⟩ = false := by rw [← hY]; simp [go_sem]
  have hs : w.heap.size + 2 ≤ Y.heap.size := by rw [← hY]; simp
  clear hY
  have hB0 := hB
  obtain ⟨c0, c1, c2, c3⟩ := hB0
  go_wp2_with fail
  refine (implRecordFault_any k tx pg a n c P A C Z _ hm hz (HR.out.below g (Nat.le_refl _))).mono ?_
  rintro e w1 ⟨rfl, g1⟩



  have hB := hB.up g1
  have y0 := cellUp g1 y0
  have y1 := cellUp g1 y1
  have v0 := (g1.frozen (p := ⟨w.heap.size + 1, 0, none⟩) (by simp only; omega)).trans v0
  have v1 := (g1.frozen (p := ⟨w.heap.size + 1, 1, none⟩) (by simp only; omega)).trans v1
  have hs : w.heap.size + 2 ≤ w1.heap.size := Nat.le_trans hs g1.size
  have g : Below w.heap.size w w1 := g.trans (g1.mono g.size)
  clear g1 c0 c1 c2 c3
  obtain ⟨q, hq⟩ : ∃ q, q = recQ k tx pg n P Z := ⟨_, rfl⟩
  have HQ : Hid (recQ k tx pg n P Z = q) := hq.symm
  rw [← hq]
  by_cases hq0 : q = 0
  · have hok := rec_runs (by rw [← hq]; exact hq0) hzb.out
    have HP : Hid (pkB k tx pg n P Z = packB k tx pg n P Z) := by show _ = _; unfold pkB; rw [← hq, if_pos hq0]
    subst hq0
    clear hq
    have hB0 := hB
    obtain ⟨c0, c1, c2, c3⟩ := hB0
    go_wp2_with fail
    refine (recordBytes_any k tx pg a n c P A C Z _ hok (HR.out.below g (Nat.le_refl _))).mono ?_
    rintro e w2 ⟨gb, d, rfl, hd, g2, hy⟩
    have y0 := cellUp g2 y0
    have y1 := cellUp g2 y1
    have v0 := (g2.frozen (p := ⟨w.heap.size + 1, 0, none⟩) (by simp only; omega)).trans v0
    have v1 := (g2.frozen (p := ⟨w.heap.size + 1, 1, none⟩) (by simp only; omega)).trans v1
    have hs1 := g2.size
    have hgm : Hid (BytesIn (w.heap.size + 2) w2.heap.size w2 (some ⟨gb, 0, none⟩) (packB k tx pg n P Z)) := hy.mono hs (Nat.le_refl _)
    have g : Below w.heap.size w w2 := g.trans (g2.mono g.size)
    clear g2 c0 c1 c2 c3 hy hB hok
    obtain ⟨L, hL⟩ : ∃ L, L = (packB k tx pg n P Z).length := ⟨_, rfl⟩
    rw [← hL] at hd ⊢
    have HL : Hid ((packB k tx pg n P Z).length = L) := hL.symm
    clear hL
    go_wp2_with fail
    refine bodyPost_ret (v := .agg #[.int .i64 0, .slice (some ⟨gb, 0, none⟩) L d]) (by simp [results, Tryd.results10, go_sem, *]) rfl ?_
    refine ⟨some ⟨gb, 0, none⟩, d, by rw [HQ.out, HP.out, HL.out], by rw [HP.out, HL.out]; exact hd, by go_grown, ?_⟩
    rw [HP.out]
    exact ((hgm.out.setCell (by simp) _).setCell (by simp) _).mono (by omega) (by simp)
  · have HP : Hid (pkB k tx pg n P Z = []) := by show _ = _; unfold pkB; rw [← hq, if_neg hq0]
    have dq : (q != 0) = true := by simpa using hq0
    clear hq hq0 hB
    go_wp2_with fail
    refine bodyPost_ret (v := .agg #[.int .i64 q, .slice none 0 0]) (by simp [results, Tryd.results10, go_sem, *]) rfl ?_
    exact ⟨none, 0, by rw [HQ.out, HP.out]; rfl, by rw [HP.out]; exact Nat.le_refl _, by go_grown, by rw [HP.out]; exact .inl rfl⟩

end Go.Proofs.YtcjkjenebnodbaaDoor

/-
  Plain facts on what is read of bytes: the program's way and the model's lead to the same record.
-/
namespace Go.Proofs.YtcjkjenebnodbaaDoor
set_option linter.unusedVariables false

/-- How many bytes the run at p tells. -/
def lenAt (zs : List Int) (p : Nat) : Nat := (zs.getD (p + 1) 0).toNat
/-- Where the j-th run begins. -/
def pos (zs : List Int) : Nat → Nat
  | 0 => 5
  | j + 1 => pos zs j + 2 + lenAt zs (pos zs j)
def rP (zs : List Int) (j : Nat) : Int := zs.getD (pos zs j) 0
def rZ (zs : List Int) (j : Nat) : List Int := (zs.drop (pos zs j + 2)).take (lenAt zs (pos zs j))
/-- Whether the j-th run is there. -/
def fit (zs : List Int) (j : Nat) : Prop := pos zs (j + 1) ≤ zs.length
instance (zs : List Int) (j : Nat) : Decidable (fit zs j) := by unfold fit; infer_instance
/-- How many runs are read, from the j-th on, of at most m. -/
def rdC (zs : List Int) : Nat → Nat → Nat
  | 0, j => j
  | m + 1, j => if fit zs j then rdC zs m (j + 1) else j
def cnt (zs : List Int) : Nat := rdC zs (zs.getD 4 0).toNat 0

theorem rdC_le (zs : List Int) : ∀ m j, j ≤ rdC zs m j ∧ rdC zs m j ≤ j + m
  | 0, j => ⟨Nat.le_refl _, Nat.le_refl _⟩
  | m + 1, j => by
    simp only [rdC]
    split
    · have := rdC_le zs m (j + 1); omega
    · omega
theorem rdC_fit (zs : List Int) : ∀ m j i, j ≤ i → i < rdC zs m j → fit zs i
  | 0, j, i, h1, h2 => by simp only [rdC] at h2; omega
  | m + 1, j, i, h1, h2 => by
    simp only [rdC] at h2
    split at h2
    · rename_i h
      by_cases e : i = j
      · rw [e]; exact h
      · exact rdC_fit zs m (j + 1) i (by omega) h2
    · omega
theorem rdC_all (zs : List Int) : ∀ m j, (∀ i, j ≤ i → i < j + m → fit zs i) → rdC zs m j = j + m
  | 0, j, _ => rfl
  | m + 1, j, h => by
    simp only [rdC]
    rw [if_pos (h j (by omega) (by omega)), rdC_all zs m (j + 1) (fun i h1 h2 => h i (by omega) (by omega))]
    omega
theorem cnt_fit (zs : List Int) (i : Nat) (h : i < cnt zs) : fit zs i := rdC_fit zs _ 0 i (Nat.zero_le _) h

theorem pos_mono (zs : List Int) (i j : Nat) (h : i ≤ j) : pos zs i + 2 * (j - i) ≤ pos zs j := by
  induction j with
  | zero => have : i = 0 := by omega
            subst this; omega
  | succ j ih =>
    by_cases e : i = j + 1
    · subst e; omega
    · have := ih (by omega)
      simp only [pos]
      omega
theorem rZ_len {zs : List Int} {j : Nat} (h : fit zs j) : (rZ zs j).length = lenAt zs (pos zs j) := by
  unfold fit at h
  simp only [pos] at h
  unfold rZ
  rw [List.length_take, List.length_drop]
  omega
theorem pos_took (zs : List Int) : ∀ j, (∀ i, i < j → fit zs i) → pos zs j = 5 + 2 * j + took (rZ zs) j
  | 0, _ => rfl
  | j + 1, h => by
    have ih := pos_took zs j (fun i hi => h i (by omega))
    have hl := rZ_len (h j (by omega))
    simp only [pos, took]
    rw [hl]
    omega

/-- Two lists that agree up to n. -/
def Agree (n : Nat) (xs ys : List Int) : Prop := ∀ i, i < n → ys[i]? = xs[i]?
theorem Agree.at' {n : Nat} {xs ys : List Int} (h : Agree n xs ys) (i : Nat) (hi : i < n) : ys.getD i 0 = xs.getD i 0 := by simp only [List.getD, h i hi]
theorem Agree.take (zs : List Int) (n : Nat) : Agree n zs (zs.take n) := fun i hi => by rw [List.getElem?_take, if_pos hi]
theorem Agree.symm {n : Nat} {xs ys : List Int} (h : Agree n xs ys) : Agree n ys xs := fun i hi => (h i hi).symm

theorem pos_agree {n : Nat} {xs ys : List Int} (h : Agree n xs ys) : ∀ j, (∀ i, i < j → pos xs (i + 1) ≤ n) → pos ys j = pos xs j
  | 0, _ => rfl
  | j + 1, hj => by
    have ih := pos_agree h j (fun i hi => hj i (by omega))
    have hl := hj j (by omega)
    simp only [pos] at hl ⊢
    rw [ih]
    unfold lenAt at hl ⊢
    rw [h.at' (pos xs j + 1) (by omega)]
theorem rP_agree {n : Nat} {xs ys : List Int} (h : Agree n xs ys) (j : Nat) (hj : ∀ i, i < j + 1 → pos xs (i + 1) ≤ n) : rP ys j = rP xs j := by
  have hp := pos_agree h j (fun i hi => hj i (by omega))
  have hl := hj j (by omega)
  simp only [pos] at hl
  unfold rP
  rw [hp, h.at' _ (by omega)]
theorem rZ_agree {n : Nat} {xs ys : List Int} (h : Agree n xs ys) (j : Nat) (hj : ∀ i, i < j + 1 → pos xs (i + 1) ≤ n) : rZ ys j = rZ xs j := by
  have hp := pos_agree h j (fun i hi => hj i (by omega))
  have hl := hj j (by omega)
  simp only [pos] at hl
  unfold rZ
  have hn : lenAt ys (pos xs j) = lenAt xs (pos xs j) := by unfold lenAt; rw [h.at' _ (by omega)]
  rw [hp, hn]
  apply List.ext_getElem?
  intro i
  rw [List.getElem?_take, List.getElem?_take]
  split
  · rw [List.getElem?_drop, List.getElem?_drop]
    exact h _ (by omega)
  · rfl

theorem rfFrom_congr {P P' : Nat → Int} {Z Z' : Nat → List Int} (n : Nat) (hP : ∀ i, i < n → P' i = P i) (hZ : ∀ i, i < n → Z' i = Z i) : ∀ m j, j + m ≤ n → rfFrom P' Z' m j = rfFrom P Z m j
  | 0, _, _ => rfl
  | m + 1, j, h => by
    have hl : lst P' Z' j = lst P Z j := by
      cases j with
      | zero => rfl
      | succ j => simp only [lst]; rw [hP j (by omega), hZ j (by omega)]
    simp only [rfFrom]
    rw [hP j (by omega), hZ j (by omega), hl, rfFrom_congr n hP hZ m (j + 1) (by omega)]
theorem recQ_congr {P P' : Nat → Int} {Z Z' : Nat → List Int} (k tx pg : Int) (n : Nat) (hP : ∀ i, i < n → P' i = P i) (hZ : ∀ i, i < n → Z' i = Z i) : recQ k tx pg n P' Z' = recQ k tx pg n P Z := by
  have hr : rfQ n P' Z' = rfQ n P Z := by
    unfold rfQ
    rw [rfFrom_congr n hP hZ n 0 (by omega)]
  have hd : deQ tx pg n P' Z' = deQ tx pg n P Z := by unfold deQ; rw [hr]
  have hi : imQ pg n P' Z' = imQ pg n P Z := by
    unfold imQ
    rw [hr]
    by_cases h : n = 1
    · rw [hZ 0 (by omega)]
    · rw [if_neg (fun e : n = 1 ∧ (Z' 0).length = 64 => h e.1), if_neg (fun e : n = 1 ∧ (Z 0).length = 64 => h e.1)]
  unfold recQ
  rw [hd, hi]
theorem runB_congr {P P' : Nat → Int} {Z Z' : Nat → List Int} : ∀ n, (∀ i, i < n → P' i = P i) → (∀ i, i < n → Z' i = Z i) → runB P' Z' n = runB P Z n
  | 0, _, _ => rfl
  | n + 1, hP, hZ => by
    simp only [runB]
    rw [runB_congr n (fun i hi => hP i (by omega)) (fun i hi => hZ i (by omega)), hP n (by omega), hZ n (by omega)]
theorem packB_congr {P P' : Nat → Int} {Z Z' : Nat → List Int} (k tx pg : Int) (n : Nat) (hP : ∀ i, i < n → P' i = P i) (hZ : ∀ i, i < n → Z' i = Z i) : packB k tx pg n P' Z' = packB k tx pg n P Z := by
  have h0 : recB0 k tx pg n n P' Z' = recB0 k tx pg n n P Z := by unfold recB0; rw [runB_congr n hP hZ]
  have h1 : recB1 k tx pg n P' Z' = recB1 k tx pg n P Z := by unfold recB1; rw [h0]
  unfold packB
  rw [h1]
theorem packB_0 (k tx pg : Int) (n : Nat) (P : Nat → Int) (Z : Nat → List Int) : (packB k tx pg n P Z).getD 0 0 = ((packB k tx pg n P Z).length : Int) := by
  have hl := packB_len k tx pg n P Z
  have h0 := recB0_len k tx pg n n P Z
  rw [hl]
  have : (packB k tx pg n P Z).getD 0 0 = ((recB0 k tx pg n n P Z).length : Int) + 2 := by simp [packB, recB1, recB0]
  rw [this, h0]
  omega
theorem packB_4 (k tx pg : Int) (n : Nat) (P : Nat → Int) (Z : Nat → List Int) : (packB k tx pg n P Z).getD 4 0 = (n : Int) := by simp [packB, recB1, recB0]

/-- What the bytes at the beginning of zs tell, read as a record: its fault, and its bytes. -/
def rdQ (zs : List Int) : Int := recQ (zs.getD 1 0) (zs.getD 2 0) (zs.getD 3 0) (cnt zs) (rP zs) (rZ zs)
def rdB (zs : List Int) : List Int := packB (zs.getD 1 0) (zs.getD 2 0) (zs.getD 3 0) (cnt zs) (rP zs) (rZ zs)
/-- Whether a record stands at the beginning of zs: as the program asks it. -/
def OkI (zs : List Int) : Prop := 5 ≤ zs.length ∧ rdQ zs = 0 ∧ rdB zs = zs.take (rdB zs).length
/-- How many bytes zs tells in front. -/
def len0 (zs : List Int) : Nat := (zs.getD 0 0).toNat
/-- .. as the model asks it. -/
def OkS (zs : List Int) : Prop := 7 ≤ zs.length ∧ 7 ≤ len0 zs ∧ len0 zs ≤ zs.length ∧ rdQ (zs.take (len0 zs)) = 0 ∧ rdB (zs.take (len0 zs)) = zs.take (len0 zs)
instance (zs : List Int) : Decidable (OkI zs) := by unfold OkI; infer_instance

/-- Where all runs stand within n bytes, of which these are the first, the same is read. -/
theorem read_agree {n : Nat} {xs ys : List Int} (h : Agree n xs ys) (h5 : 5 ≤ n) (hy : n ≤ ys.length) (hc : (xs.getD 4 0).toNat = cnt xs) (hp : pos xs (cnt xs) ≤ n) : cnt ys = cnt xs ∧ rdQ ys = rdQ xs ∧ rdB ys = rdB xs := by
  have hpo : ∀ i, i < cnt xs → pos xs (i + 1) ≤ n := fun i hi => Nat.le_trans (by have := pos_mono xs (i + 1) (cnt xs) (by omega); omega) hp
  have hcy : cnt ys = cnt xs := by
    have e : cnt ys = rdC ys (cnt xs) 0 := by
      show rdC ys (ys.getD 4 0).toNat 0 = _
      rw [h.at' 4 (by omega), hc]
    rw [e, rdC_all ys (cnt xs) 0 (fun i _ hi => ?_), Nat.zero_add]
    unfold fit
    rw [pos_agree h (i + 1) (fun i' hi' => hpo i' (by omega))]
    exact Nat.le_trans (hpo i (by omega)) hy
  have hP : ∀ i, i < cnt xs → rP ys i = rP xs i := fun i hi => rP_agree h i (fun i' hi' => hpo i' (by omega))
  have hZ : ∀ i, i < cnt xs → rZ ys i = rZ xs i := fun i hi => rZ_agree h i (fun i' hi' => hpo i' (by omega))
  refine ⟨hcy, ?_, ?_⟩
  · unfold rdQ
    rw [hcy, h.at' 1 (by omega), h.at' 2 (by omega), h.at' 3 (by omega)]
    exact recQ_congr _ _ _ _ hP hZ
  · unfold rdB
    rw [hcy, h.at' 1 (by omega), h.at' 2 (by omega), h.at' 3 (by omega)]
    exact packB_congr _ _ _ _ hP hZ

theorem ok_len {zs : List Int} (h : OkI zs) : (rdB zs).length = len0 zs ∧ 7 ≤ len0 zs ∧ len0 zs ≤ zs.length ∧ (zs.getD 4 0).toNat = cnt zs ∧ pos zs (cnt zs) + 2 = len0 zs := by
  obtain ⟨h5, hq, hb⟩ := h
  have hlen : (rdB zs).length = 7 + 2 * cnt zs + took (rZ zs) (cnt zs) := packB_len _ _ _ _ _ _
  have hle : (rdB zs).length ≤ zs.length := by
    have := congrArg List.length hb
    rw [List.length_take] at this
    omega
  have hat : ∀ i, i < (rdB zs).length → (rdB zs).getD i 0 = zs.getD i 0 := fun i hi => by
    have hA := (Agree.take zs (rdB zs).length).at' i hi
    rw [← hb] at hA
    exact hA
  have h0 : zs.getD 0 0 = ((rdB zs).length : Int) := by rw [← hat 0 (by omega)]; exact packB_0 _ _ _ _ _ _
  have h4 : zs.getD 4 0 = (cnt zs : Int) := by rw [← hat 4 (by omega)]; exact packB_4 _ _ _ _ _ _
  have hp := pos_took zs (cnt zs) (cnt_fit zs)
  have hl0 : len0 zs = (rdB zs).length := by unfold len0; rw [h0]; omega
  refine ⟨hl0.symm, by omega, by omega, by rw [h4]; omega, by omega⟩

theorem okI_okS {zs : List Int} (h : OkI zs) : OkS zs := by
  obtain ⟨h1, h2, h3, h4, h5⟩ := ok_len h
  obtain ⟨_, hq, hb⟩ := h
  obtain ⟨e1, e2, e3⟩ := read_agree (Agree.take zs (len0 zs)) (by omega) (by rw [List.length_take]; omega) h4 (by omega)
  exact ⟨by omega, h2, h3, by rw [e2]; exact hq, by rw [e3, hb, h1]⟩

theorem okS_okI {zs : List Int} (h : OkS zs) : OkI zs := by
  obtain ⟨h7, hn7, hn, hq, hb⟩ := h
  have hyl : (zs.take (len0 zs)).length = len0 zs := by rw [List.length_take]; omega
  have hlen : (rdB (zs.take (len0 zs))).length = 7 + 2 * cnt (zs.take (len0 zs)) + took (rZ (zs.take (len0 zs))) (cnt (zs.take (len0 zs))) := packB_len _ _ _ _ _ _
  have h4 : (zs.take (len0 zs)).getD 4 0 = (cnt (zs.take (len0 zs)) : Int) := by
    have := packB_4 ((zs.take (len0 zs)).getD 1 0) ((zs.take (len0 zs)).getD 2 0) ((zs.take (len0 zs)).getD 3 0) (cnt (zs.take (len0 zs))) (rP (zs.take (len0 zs))) (rZ (zs.take (len0 zs)))
    have hb' := hb
    unfold rdB at hb'
    rw [hb'] at this
    exact this
  have hp := pos_took (zs.take (len0 zs)) (cnt (zs.take (len0 zs))) (cnt_fit _)
  have hbl := congrArg List.length hb
  obtain ⟨e1, e2, e3⟩ := read_agree (Agree.take zs (len0 zs)).symm (by omega) hn (by rw [h4]; omega) (by omega)
  refine ⟨by omega, by rw [e2]; exact hq, ?_⟩
  rw [e3, hb, hyl]

theorem ok_iff (zs : List Int) : OkI zs ↔ OkS zs := ⟨okI_okS, okS_okI⟩

end Go.Proofs.YtcjkjenebnodbaaDoor
