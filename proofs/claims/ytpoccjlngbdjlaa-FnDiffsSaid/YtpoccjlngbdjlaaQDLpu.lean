/-
  The contract of the model's l2Put on a page without a fault.
-/
import Derived.Test.YtpoccjlngbdjlaaQDCpy

namespace Go.Proofs.Ytpoccjlngbdjlaa.Dr
open Go.RowKit
set_option linter.unusedVariables false

theorem firstE_le (zs : List Int) : ∀ m k, firstE zs k m ≤ k + m
  | 0, k => Nat.le_refl _
  | m + 1, k => by
    rw [firstE]
    split
    · omega
    · have := firstE_le zs m (k + 1); omega
/-- The slot that a cell is put into, how many slots there are then, and what more room they take. -/
def putS (zs : List Int) : Nat := firstE zs 0 (nb zs 0)
def putM (zs : List Int) : Nat := if putS zs = nb zs 0 then nb zs 0 + 1 else nb zs 0
def putMore (zs : List Int) : Nat := if putS zs = nb zs 0 then 2 else 0
/-- The code of a put of n bytes. -/
def putQ (zs : List Int) (n : Nat) : Int := if putS zs = nb zs 0 ∧ 16 ≤ nb zs 0 then 2 else if freeN zs < n + putMore zs then 9 else if nb zs 1 < n + (2 + 2 * putM zs) then 8 else 0
/-- The page behind a put. -/
def putP (zs : List Int) (cs : List Int) : List Int := spanSet (splice ((zs.set 0 ((putM zs : Nat) : Int)).set 1 ((nb zs 1 - cs.length : Nat) : Int)) (nb zs 1 - cs.length) cs) (putS zs) (nb zs 1 - cs.length) cs.length

set_option maxHeartbeats 2000000 in
theorem l2Put_many (a : Option Addr) (zs : List Int) (c : Nat) (b : Option Addr) (n d : Nat) (w : World) (hr : Reads w a zs) (h : Fine zs) (hs : putS zs = nb zs 0 ∧ 16 ≤ nb zs 0) :
    Calls Try.prog 68 #[.slice a 64 c, .slice b n d] w fun e w' => e = .returned (.tuple #[.slice none 0 0, .int .i64 0, .int .i64 2]) ∧ w' = w := by
  obtain ⟨k, hk⟩ : ∃ k, k = nb zs 0 := ⟨_, rfl⟩
  have HK : Hid (nb zs 0 = k) := hk.symm
  have HS : Hid (firstE zs 0 (nb zs 0) = k) := by show _ = _; rw [hk]; exact hs.1
  have h16 : 16 ≤ k := by rw [hk]; exact hs.2
  have h16' : (16 : Int) ≤ (k : Int) := by omega
  clear hk hs
  go_enter Try.func68, Try.ntmps68
  go_wp2_with fail
  refine (l2Empty_any a zs c _ hr h).mono ?_
  rintro e w' ⟨rfl, rfl⟩
  rw [HS.out]
  go_wp2_with fail
  refine (l2Count_any a zs c _ hr h.pg).mono ?_
  rintro e w' ⟨rfl, rfl⟩
  rw [HK.out]
  go_wp2_with fail
  go_ret3
  exact ⟨rfl, rfl⟩

set_option maxHeartbeats 4000000 in
theorem l2Put_full (a : Option Addr) (zs : List Int) (c : Nat) (b : Option Addr) (n d : Nat) (w : World) (hr : Reads w a zs) (h : Fine zs) (hn : n ≤ 1048576) (hs : ¬ (putS zs = nb zs 0 ∧ 16 ≤ nb zs 0)) (hfull : freeN zs < n + putMore zs ∨ nb zs 1 < n + (2 + 2 * putM zs)) :
    Calls Try.prog 68 #[.slice a 64 c, .slice b n d] w fun e w' => e = .returned (.tuple #[.slice none 0 0, .int .i64 0, .int .i64 (if freeN zs < n + putMore zs then 9 else 8)]) ∧ w' = w := by
  obtain ⟨k, hk⟩ : ∃ k, k = nb zs 0 := ⟨_, rfl⟩
  obtain ⟨s, hsv⟩ : ∃ s, s = putS zs := ⟨_, rfl⟩
  obtain ⟨f, hf⟩ : ∃ f, f = freeN zs := ⟨_, rfl⟩
  obtain ⟨low, hlw⟩ : ∃ low, low = nb zs 1 := ⟨_, rfl⟩
  have hlb := h.low
  have hkf := h.few
  have HK : Hid (nb zs 0 = k) := hk.symm
  have HS : Hid (firstE zs 0 (nb zs 0) = s) := hsv.symm
  have HFr : Hid (freeN zs = f) := hf.symm
  have HLo : Hid (nb zs 1 = low) := hlw.symm
  rw [← hk] at hkf
  rw [← hlw] at hlb
  have hf64 : f ≤ 64 := by rw [hf]; unfold freeN; omega
  by_cases hsk : s = k
  · have hmo : putMore zs = 2 := by unfold putMore; rw [← hsv, ← hk, if_pos hsk]
    have hmm : putM zs = k + 1 := by unfold putM; rw [← hsv, ← hk, if_pos hsk]
    have hk16 : k < 16 := by rw [← hsv, ← hk] at hs; omega
    rw [hmo, hmm, ← hf, ← hlw] at hfull
    rw [hmo, ← hf]
    clear hs hk hsv hf hlw hmo hmm
    subst hsk
    have hd16 : decide ((16 : Int) ≤ (s : Int)) = false := by simp; omega
    have hi16 : ¬ (16 : Int) ≤ (s : Int) := by omega
    go_enter Try.func68, Try.ntmps68
    go_wp2_with fail
    refine (l2Empty_any a zs c _ hr h).mono ?_
    rintro e w' ⟨rfl, hw'⟩
    subst w'
    rw [HS.out]
    go_wp2_with fail
    refine (l2Count_any a zs c _ hr h.pg).mono ?_
    rintro e w' ⟨rfl, hw'⟩
    subst w'
    rw [HK.out]
    go_wp2_with fail
    refine (l2Free_any a zs c _ hr h).mono ?_
    rintro e w' ⟨rfl, hw'⟩
    subst w'
    rw [HFr.out]
    by_cases hq : f < n + 2
    · have df : (f : Int) < (n : Int) + 2 := by omega
      have df2 : decide ((f : Int) < (n : Int) + 2) = true := by simpa using df
      have HI : Hid ((if f < n + 2 then (9 : Int) else 8) = 9) := if_pos hq
      go_wp2_with fail
      go_ret3
      exact ⟨by first | rfl | (rw [HI.out]; rfl) | (simp only [HI.out]; rfl) | (simp [hq]), rfl⟩
    · have df : ¬ (f : Int) < (n : Int) + 2 := by omega
      have df2 : decide ((f : Int) < (n : Int) + 2) = false := by simpa using df
      have hst : low < n + (2 + 2 * (s + 1)) := by omega
      have HI : Hid ((if f < n + 2 then (9 : Int) else 8) = 8) := if_neg hq
      clear hfull
      go_wp2_with fail
      refine (l2Low_any a zs c _ hr h.pg).mono ?_
      rintro e w' ⟨rfl, hw'⟩
      subst w'
      rw [HLo.out]
      have dl : (low : Int) - (n : Int) < 2 + 2 * ((s : Int) + 1) := by omega
      go_wp2_with fail
      go_ret3
      exact ⟨by first | rfl | (rw [HI.out]; rfl) | (simp only [HI.out]; rfl) | (simp [hq]), rfl⟩
  · have hmo : putMore zs = 0 := by unfold putMore; rw [← hsv, ← hk, if_neg hsk]
    have hmm : putM zs = k := by unfold putM; rw [← hsv, ← hk, if_neg hsk]
    rw [hmo, hmm, ← hf, ← hlw] at hfull
    rw [hmo, ← hf]
    clear hs hk hsv hf hlw hmo hmm
    have hde : ((s : Int) == (k : Int)) = false := by simp; omega
    go_enter Try.func68, Try.ntmps68
    go_wp2_with fail
    refine (l2Empty_any a zs c _ hr h).mono ?_
    rintro e w' ⟨rfl, hw'⟩
    subst w'
    rw [HS.out]
    go_wp2_with fail
    refine (l2Count_any a zs c _ hr h.pg).mono ?_
    rintro e w' ⟨rfl, hw'⟩
    subst w'
    rw [HK.out]
    go_wp2_with fail
    refine (l2Free_any a zs c _ hr h).mono ?_
    rintro e w' ⟨rfl, hw'⟩
    subst w'
    rw [HFr.out]
    by_cases hq : f < n + 0
    · have df : (f : Int) < (n : Int) + 0 := by omega
      have df2 : decide ((f : Int) < (n : Int) + 0) = true := by simpa using df
      have HI : Hid ((if f < n + 0 then (9 : Int) else 8) = 9) := if_pos hq
      go_wp2_with fail
      go_ret3
      exact ⟨by first | rfl | (rw [HI.out]; rfl) | (simp only [HI.out]; rfl) | (simp [hq]), rfl⟩
    · have df : ¬ (f : Int) < (n : Int) + 0 := by omega
      have df2 : decide ((f : Int) < (n : Int) + 0) = false := by simpa using df
      have hst : low < n + (2 + 2 * k) := by omega
      have HI : Hid ((if f < n + 0 then (9 : Int) else 8) = 8) := if_neg hq
      clear hfull
      go_wp2_with fail
      refine (l2Low_any a zs c _ hr h.pg).mono ?_
      rintro e w' ⟨rfl, hw'⟩
      subst w'
      rw [HLo.out]
      have dl : (low : Int) - (n : Int) < 2 + 2 * (k : Int) := by omega
      go_wp2_with fail
      go_ret3
      exact ⟨by first | rfl | (rw [HI.out]; rfl) | (simp only [HI.out]; rfl) | (simp [hq]), rfl⟩

end Go.Proofs.Ytpoccjlngbdjlaa.Dr
