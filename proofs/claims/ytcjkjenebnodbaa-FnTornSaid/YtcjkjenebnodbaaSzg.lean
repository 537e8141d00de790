/-
  How much a record takes, from whatever was left; records that came in.
-/
import Derived.Test.YtcjkjenebnodbaaRcm
namespace Go.Proofs.Ytcjkjenebnodbaa
open Go.RowKit
set_option linter.unusedVariables false

set_option maxHeartbeats 400000 in
theorem szRunS_gen (a : Option Addr) (n c : Nat) (P : Nat → Int) (A : Nat → Option Addr) (C : Nat → Nat) (Z : Nat → List Int) (k : Int) (w : World) (hk0 : 0 ≤ k) (hk1 : k ≤ 1048576) (hm : n ≤ 9223372036854775807) (hz : ∀ i, i < n → (Z i).length ≤ 9223372036854775807) (hr : RunsRead w a n P A C Z) :
    Calls Try.prog 90 #[.slice a n c, .int .i64 k] w fun e w' => (∃ r : Int, e = .returned (.int .i64 r) ∧ (r = -1 ∨ (0 ≤ r ∧ r = k - n - took Z n))) ∧ Below w.heap.size w w' := by
  by_cases h : k < n
  · have d : (k - (n : Int) < 0) := by omega
    go_enter Try.func90, Try.ntmps90
    go_wp2_with fail
    go_ret
    exact ⟨⟨-1, rfl, .inl rfl⟩, Below.refl _ _⟩
  · have d : ¬ (k - (n : Int) < 0) := by omega
    by_cases h0 : n = 0
    · subst h0
      go_enter Try.func90, Try.ntmps90
      go_wp2_with fail
      go_rounds 1
      go_ret
      exact ⟨⟨k, by simp, .inr ⟨hk0, by simp [took]⟩⟩, Below.refl _ _⟩
    rcases hr with hr | ⟨b, off, rfl, hc⟩
    · exact absurd hr h0
    have hb0 : b < w.heap.size := World.block_lt_of_cell? w _ (hc 0 (by omega)).1
    go_enter Try.func90, Try.ntmps90
    go_wp2_with fail
    go_loopw [5, 1] (fun i l wr => ∃ j : Nat, j ≤ n ∧ i = .int .i64 j ∧ l = .int .i64 (k - n - took Z j) ∧ n + took Z j ≤ k ∧ Below w.heap.size w wr) (fun i _ _ => n - (intOf i).toNat)
    case atStart => exact ⟨0, Nat.zero_le _, rfl, by simp [took], by simp [took]; omega, Below.refl _ _⟩
    case round =>
      obtain ⟨j, hj, rfl, rfl, hl, g⟩ := hrel
      by_cases hlt : j < n
      · obtain ⟨e0, e1, _⟩ := hc j hlt
        have e0 := (g.cell (p := ⟨b, off + j * 2, none⟩) hb0).trans e0
        have e1 := (g.cell (p := ⟨b, off + j * 2 + 1, none⟩) hb0).trans e1
        have hjn : (j : Int) < (n : Int) := by omega
        clear hc
        have hq : Hid (∀ r, r = szQ (k - n - took Z j) (Z j).length → r = -1 ∨ (0 ≤ r ∧ r = k - n - took Z (j + 1))) := by
          intro r hr
          rw [hr]
          unfold szQ
          simp only [took]
          split <;> omega
        go_wp2_with fail
        refine (szRun_any (P j) (A j) (Z j).length (C j) _ _ (hz j hlt) (by omega) (by omega)).mono ?_
        rintro e w' ⟨rfl, g'⟩
        have g : Below w.heap.size w w' := g.trans (g'.mono g.size)
        clear g' e0 e1
        obtain ⟨r, hr⟩ : ∃ r, r = szQ (k - n - took Z j) (Z j).length := ⟨_, rfl⟩
        have hr1 := hq.out r hr
        rw [← hr]
        clear hr hq
        rcases hr1 with rfl | ⟨hr0, hr1⟩
        · go_wp2_with fail
          go_ret
          exact ⟨⟨-1, rfl, .inl rfl⟩, g⟩
        · have HR : Hid (r = k - n - took Z (j + 1)) := hr1
          have hl' : n + took Z (j + 1) ≤ k := by omega
          have dr : ¬ (r < 0) := by omega
          clear hr1
          go_wp2_with fail
          go_roundw
          case rel => exact ⟨j + 1, by omega, by go_num, by rw [← HR.out], hl', g⟩
          case measure => simp [intOf]; omega
      · have e : j = n := by omega
        subst e
        go_wp2_with fail
        go_ret
        exact ⟨⟨_, rfl, .inr ⟨by omega, rfl⟩⟩, g⟩

set_option maxHeartbeats 400000 in
theorem szRecord_gen (k tx pg : Int) (a : Option Addr) (n c : Nat) (P : Nat → Int) (A : Nat → Option Addr) (C : Nat → Nat) (Z : Nat → List Int) (kl : Int) (w : World) (hk0 : 0 ≤ kl) (hk1 : kl ≤ 1048576) (hm : n ≤ 9223372036854775807) (hz : ∀ i, i < n → (Z i).length ≤ 9223372036854775807) (hr : RunsRead w a n P A C Z) :
    Calls Try.prog 30 #[.agg #[.int .i64 k, .int .i64 tx, .int .i64 pg, .slice a n c], .int .i64 kl] w fun e w' => (∃ r : Int, e = .returned (.int .i64 r) ∧ (r = -1 ∨ (0 ≤ r ∧ r = kl - n - took Z n))) ∧ Below w.heap.size w w' := by
  have HR : Hid (RunsRead w a n P A C Z) := hr
  have HZ : Hid (∀ i, i < n → (Z i).length ≤ 9223372036854775807) := hz
  clear hr hz
  go_enter Try.func30, Try.ntmps30
  go_wp2_with fail
  refine (szRunS_gen a n c P A C Z kl _ hk0 hk1 hm HZ.out (HR.out.below (by go_grown) (Nat.le_refl _))).mono ?_
  rintro e w' ⟨⟨r, rfl, hl⟩, hb⟩
  have g : Below w.heap.size w w' := Below.trans (by go_grown) (hb.mono (by simp))
  clear hb
  rcases hl with hl | ⟨h0, hl⟩
  · subst hl
    go_wp2_with fail
    go_ret
    exact ⟨⟨-1, rfl, .inl rfl⟩, g⟩
  · have h1 : ¬ (r < 0) := by omega
    have HL : Hid (r = kl - n - took Z n) := hl
    clear hl
    go_wp2_with fail
    go_ret
    exact ⟨⟨r, rfl, .inr ⟨h0, HL.out⟩⟩, g⟩

end Go.Proofs.Ytcjkjenebnodbaa
