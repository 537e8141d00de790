/-
  Numerals and words: the program's numberText, bytesIn, word and numbersOf.
-/
import Derived.Test.YtpiodhpmmnmmdaaDoorDig
import Derived.Test.YtpiodhpmmnmmdaaDoorShelf
import Derived.Test.YtpiodhpmmnmmdaaDoorRec
import Derived.Lib.AppendIntMem
namespace Go.Proofs.YtpiodhpmmnmmdaaDoor
open Go.RowKit
set_option linter.unusedVariables false

/-- The library's table of powers of ten is as its text lays it. -/
def Tab (w : World) : Prop := Lib.TabIs Tryd.prog w "internal/strconv.uint64pow10" .u64 Lib.pow10Tab

theorem gTen : Tryd.prog.globalNamed "internal/strconv.uint64pow10" = some 0 := by kernel_rfl

theorem Tab.below {w w' : World} (h : Tab w) (hb : Below w.heap.size w w') : Tab w' := by
  unfold Tab Lib.TabIs World.var? at h ⊢
  rw [gTen] at h ⊢
  simp only [Option.bind_some] at h ⊢
  have hlt : 0 < w.heap.size := by
    rcases Nat.lt_or_ge 0 w.heap.size with h' | h'
    · exact h'
    · rw [Array.getElem?_eq_none h'] at h; cases h
  rw [hb.block 0 hlt]
  exact h

theorem format_any (n : Nat) (hn : n < 1000000) (w : World) (hT : Tab w) :
    Calls Tryd.prog 71 #[.int .i64 n, .int .i64 10] w fun e w' => e = .returned (.string (decS n)) ∧ Below w.heap.size w w' := by
  refine (Tryd.internal_strconv_FormatInt_10 n (by omega) (by omega) w hT).mono ?_
  rintro e w' ⟨rfl, k, os, rfl⟩
  exact ⟨by rw [Lib.itoa_nonneg]; rfl, Lib.below_grow _ _ (Nat.le_refl _) _ _⟩

set_option maxHeartbeats 400000 in
theorem formatInt_any (n : Nat) (hn : n < 1000000) (w : World) (hT : Tab w) :
    Calls Tryd.prog 61 #[.int .i64 n, .int .i64 10] w fun e w' => e = .returned (.string (decS n)) ∧ Below w.heap.size w w' := by
  go_enter Tryd.func61, Tryd.ntmps61
  go_wp2_with (go_at_call 71; refine (format_any n hn _ hT).mono ?_; rintro e w1 ⟨rfl, g1⟩)
  go_ret
  exact ⟨rfl, g1⟩

set_option maxHeartbeats 400000 in
theorem numberText_any (n : Nat) (hn : n < 1000000) (w : World) (hT : Tab w) :
    Calls Tryd.prog 38 #[.int .i64 n] w fun e w' => e = .returned (.string (decS n)) ∧ Below w.heap.size w w' := by
  go_enter Tryd.func38, Tryd.ntmps38
  go_wp2_with (go_at_call 61; refine (formatInt_any n hn _ hT).mono ?_; rintro e w1 ⟨rfl, g1⟩)
  go_ret
  exact ⟨rfl, g1⟩

set_option maxHeartbeats 1000000 in
theorem bytesIn_any (a : Option Addr) (n c : Nat) (P : Nat → Int) (A : Nat → Option Addr) (C : Nat → Nat) (Z : Nat → List Int) (w : World) (hm : n + took Z n ≤ 1048576) (hr : RunsRead w a n P A C Z) :
    Calls Tryd.prog 60 #[.slice a n c] w fun e w' => e = .returned (.int .i64 (took Z n)) ∧ Below w.heap.size w w' := by
  by_cases h0 : n = 0
  · subst h0
    go_enter Tryd.func60, Tryd.ntmps60
    go_wp2_with fail
    go_rounds 1
    go_ret
    exact ⟨rfl, Below.refl _ _⟩
  have HR : Hid (RunsRead w a n P A C Z) := hr
  have HT : Hid (∀ j, j < n → took Z j + (Z j).length ≤ 1048576) := fun j hj => by
    have h := took_mono Z (j + 1) n hj
    simp only [took] at h
    omega
  rcases hr with hr | ⟨b, off, rfl, hc⟩
  · exact absurd hr h0
  clear hc
  go_enter Tryd.func60, Tryd.ntmps60
  go_wp2_with fail
  go_loopw [8, 3] (fun i s wr => ∃ j : Nat, j ≤ n ∧ i = .int .i64 j ∧ s = .int .i64 (took Z j) ∧ Below w.heap.size w wr) (fun i _ _ => n - (intOf i).toNat)
  case atStart => exact ⟨0, Nat.zero_le _, rfl, rfl, Below.refl _ _⟩
  case round =>
    obtain ⟨j, hj, rfl, rfl, g⟩ := hrel
    by_cases hlt : j < n
    · obtain ⟨e0, e1, _⟩ := (HR.out.below g (Nat.le_refl _)).at_ j hlt
      have hjn : (j : Int) < (n : Int) := by omega
      have ht := HT.out j hlt
      have HS : Hid (took Z (j + 1) = took Z j + (Z j).length) := rfl
      obtain ⟨l, hl⟩ : ∃ l, l = (Z j).length := ⟨_, rfl⟩
      obtain ⟨t, htv⟩ : ∃ t, t = took Z j := ⟨_, rfl⟩
      rw [← hl] at e1 ht HS
      rw [← htv] at ht HS ⊢
      clear hl htv
      go_wp2_with fail
      go_roundw
      case rel => exact ⟨j + 1, by omega, by go_num, by rw [HS.out]; rfl, g.alloc g.size _⟩
      case measure => simp [intOf]; omega
    · have e : j = n := by omega
      subst e
      go_wp2_with fail
      go_ret
      exact ⟨rfl, g⟩

end Go.Proofs.YtpiodhpmmnmmdaaDoor
