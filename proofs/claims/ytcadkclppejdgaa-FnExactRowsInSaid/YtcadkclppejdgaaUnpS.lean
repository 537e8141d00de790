/-
  The contract of the model's UnpackCell, and what compares two answers of UnpackCell.
-/
import Derived.Test.YtcadkclppejdgaaUnpR
import Derived.Test.YtcadkclppejdgaaUnpI
import Derived.Deep.Cut
namespace Go.Proofs.Ytcadkclppejdgaa
open Go.RowKit

/-- What l1Read tells. -/
def readC (zs : List Int) : Cel × Bool :=
  if zs.length = 3 ∧ zs.getD 0 0 = 1 then (⟨0, 1, zs.getD 1 0, zs.getD 2 0, 0, 0, 0, ⟨#[]⟩⟩, stubB (zs.getD 1 0) (zs.getD 2 0))
  else if 6 ≤ zs.length ∧ (zs.getD 0 0 = 0 ∨ zs.getD 0 0 = 2) ∧ (zs.length : Int) = 6 + zs.getD 5 0 then
    (⟨0, zs.getD 0 0, 0, 0, zs.getD 1 0, zs.getD 2 0, zs.getD 3 0 * 256 + zs.getD 4 0, textC zs⟩, faultI (zs.getD 1 0) (zs.getD 2 0) (zs.getD 3 0 * 256 + zs.getD 4 0) (textC zs) == 0)
  else (⟨0, 0, 0, 0, 0, 0, 0, ⟨#[]⟩⟩, false)

theorem unp_read (zs : List Int) : unp zs = if (readC zs).2 = true then (readC zs).1 else errC := by
  unfold unp
  by_cases h0 : zs = []
  · subst h0; simp [readC]
  rw [if_neg h0]
  by_cases h1 : zs.getD 0 0 = 1
  · rw [if_pos h1]
    by_cases h3 : zs.length = 3
    · have e : readC zs = (⟨0, 1, zs.getD 1 0, zs.getD 2 0, 0, 0, 0, ⟨#[]⟩⟩, stubB (zs.getD 1 0) (zs.getD 2 0)) := if_pos ⟨h3, h1⟩
      rw [e]
      by_cases hs : stubB (zs.getD 1 0) (zs.getD 2 0) = true
      · exact (if_pos ⟨h3, hs⟩).trans (if_pos hs).symm
      · exact (if_neg (fun h => hs h.2)).trans (if_neg hs).symm
    · have e : readC zs = (⟨0, 0, 0, 0, 0, 0, 0, ⟨#[]⟩⟩, false) := (if_neg (fun h => h3 h.1)).trans (if_neg (fun h => by omega))
      rw [e]
      exact (if_neg (fun h => h3 h.1)).trans (if_neg (by simp)).symm
  · rw [if_neg h1]
    by_cases h2 : zs.getD 0 0 = 0 ∨ zs.getD 0 0 = 2
    · rw [if_pos h2]
      by_cases h6 : 6 ≤ zs.length ∧ (zs.length : Int) = 6 + zs.getD 5 0
      · have e : readC zs = (⟨0, zs.getD 0 0, 0, 0, zs.getD 1 0, zs.getD 2 0, zs.getD 3 0 * 256 + zs.getD 4 0, textC zs⟩, faultI (zs.getD 1 0) (zs.getD 2 0) (zs.getD 3 0 * 256 + zs.getD 4 0) (textC zs) == 0) :=
          (if_neg (fun h => h1 h.2)).trans (if_pos ⟨h6.1, h2, h6.2⟩)
        rw [e]
        by_cases hq : faultI (zs.getD 1 0) (zs.getD 2 0) (zs.getD 3 0 * 256 + zs.getD 4 0) (textC zs) = 0
        · exact (if_pos ⟨h6.1, h6.2, hq⟩).trans (if_pos (beq_iff_eq.2 hq)).symm
        · exact (if_neg (fun h => hq h.2.2)).trans (if_neg (fun h => hq (beq_iff_eq.1 h))).symm
      · have e : readC zs = (⟨0, 0, 0, 0, 0, 0, 0, ⟨#[]⟩⟩, false) := (if_neg (fun h => h1 h.2)).trans (if_neg (fun h => h6 ⟨h.1, h.2.2⟩))
        rw [e]
        exact (if_neg (fun h => h6 ⟨h.1, h.2.1⟩)).trans (if_neg (by simp)).symm
    · have e : readC zs = (⟨0, 0, 0, 0, 0, 0, 0, ⟨#[]⟩⟩, false) := (if_neg (fun h => h1 h.2)).trans (if_neg (fun h => h2 h.2.1))
      rw [e, if_neg h2]
      exact (if_neg (by simp)).symm

theorem l1Read_any (a : Option Addr) (zs : List Int) (n c : Nat) (w : World) (hn : zs.length = n) (hnc : n ≤ c) (ha : Reads w a zs) (hz : ∀ z ∈ zs, 0 ≤ z ∧ z ≤ 255) :
    Calls Try.prog 101 #[.slice a n c] w fun e w' => e = .returned (.tuple #[celV (readC zs).1, .bool (readC zs).2]) ∧ Below w.heap.size w w' := by
  by_cases h6 : n < 6
  · by_cases h3 : n = 3
    · subst h3
      rcases ha with ha | ⟨b, off, rfl, hc⟩
      · rw [ha] at hn; simp at hn
      have hc0 := hc 0 (by omega)
      rw [Nat.add_zero] at hc0
      by_cases h1 : zs.getD 0 0 = 1
      · rw [readC, if_pos ⟨hn, h1⟩]
        rw [h1] at hc0
        exact l1Read_stub b off c _ _ w hc0 (hc 1 (by omega)) (hc 2 (by omega)) (getD_range hz 1).1 (getD_range hz 1).2 (getD_range hz 2).1 (getD_range hz 2).2
      · rw [readC, if_neg (fun h => h1 h.2), if_neg (fun h => by omega)]
        exact l1Read_three b off c _ w hc0 h1
    · rw [readC, if_neg (fun h => by omega), if_neg (fun h => by omega)]
      exact l1Read_short a n c w h6 h3
  · rcases ha with ha | ⟨b, off, rfl, hc⟩
    · rw [ha] at hn; simp at hn; omega
    have hc0 := hc 0 (by omega)
    rw [Nat.add_zero] at hc0
    have r0 := getD_range hz 0
    have r1 := getD_range hz 1
    have r2 := getD_range hz 2
    have r3 := getD_range hz 3
    have r4 := getD_range hz 4
    have r5 := getD_range hz 5
    rw [readC, if_neg (fun h => by omega)]
    by_cases h2 : zs.getD 0 0 = 0 ∨ zs.getD 0 0 = 2
    · by_cases hl : (n : Int) = 6 + zs.getD 5 0
      · rw [if_pos ⟨by omega, h2, by omega⟩]
        have hsz : (textC zs).size ≤ maxLen := by rw [textC_size]; unfold maxLen; omega
        have hx : (zs.getD 0 0 == 1) = false ∧ zs.getD 0 0 ≤ 2 ∧ 0 ≤ zs.getD 0 0 := ⟨beq_eq_false_iff_ne.2 (by omega), by omega, by omega⟩
        by_cases h7 : 6 < c
        · refine (l1Read_row b off n c _ _ _ _ _ _ (textC zs) w hc0 (hc 1 (by omega)) (hc 2 (by omega)) (hc 3 (by omega)) (hc 4 (by omega)) (hc 5 (by omega)) hx r1 r2 r3 r4 r5 hl h7 hsz ?_).mono ?_
          · intro w' hw
            exact run_convert_bytes_arg w' 63 5 Try.underlying63 Try.underlying5 b (off + 6) (n - 6) (c - 6) (zs.drop 6) (by rw [List.length_drop]; omega) (fun i hi => by rw [show off + 6 + i = off + (6 + i) from by omega, hw (6 + i) (by omega), hc (6 + i) (by omega), getD_drop6]) 9 Try.underlying9
          · rintro e w' ⟨hb, rfl⟩
            exact ⟨rfl, hb⟩
        · have e6 : n = 6 := by omega
          have ec : c = 6 := by omega
          subst e6 ec
          have h5 := hc 5 (by omega)
          have z5 : zs.getD 5 0 = 0 := by omega
          rw [z5] at h5
          have htx : textC zs = ByteArray.empty := by rw [textC, List.drop_eq_nil_of_le (by omega)]; rfl
          refine (l1Read_six b off _ _ _ _ _ (textC zs) w hc0 (hc 1 (by omega)) (hc 2 (by omega)) (hc 3 (by omega)) (hc 4 (by omega)) h5 hx r1 r2 r3 r4 hsz ?_).mono ?_
          · intro w' _
            have h := run_convert_bytes_arg w' 63 5 Try.underlying63 Try.underlying5 b off 0 0 [] rfl (fun i hi => absurd hi (Nat.not_lt_zero _)) 9 Try.underlying9
            rw [htx]
            exact h
          · rintro e w' ⟨hb, rfl⟩
            exact ⟨rfl, hb⟩
      · rw [if_neg (fun h => hl (by omega))]
        exact l1Read_size b off n c _ _ w hc0 (hc 5 (by omega)) (by omega) h2 r5.1 r5.2 hl
    · rw [if_neg (fun h => h2 h.2.1)]
      exact l1Read_flag b off n c _ w hc0 (by omega) (by omega)

set_option maxHeartbeats 400000 in
theorem eqRow_same (t k v : Int) (s : ByteArray) (w : World) :
    Calls Try.prog 52 #[.agg #[.int .i64 t, .int .i64 k, .int .i64 v, .string s], .agg #[.int .i64 t, .int .i64 k, .int .i64 v, .string s]] w fun e w' => e = .returned (.bool true) ∧ Below w.heap.size w w' := by
  go_enter Try.func52, Try.ntmps52
  go_wp2_with fail
  go_ret
  exact ⟨rfl, by go_grown⟩

end Go.Proofs.Ytcadkclppejdgaa

