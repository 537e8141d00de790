/-
  Runs in memory: what a slice of runs holds; szRunS.
-/
import Derived.Test.YtcjkjenebnodbaaCopy
namespace Go.Proofs.Ytcjkjenebnodbaa
open Go.RowKit
set_option linter.unusedVariables false

/-- The slice that begins at a reads as n runs: of the i-th the place P i and the bytes Z i, which stand at A i, with the capacity C i. -/
def RunsRead (w : World) (a : Option Addr) (n : Nat) (P : Nat → Int) (A : Nat → Option Addr) (C : Nat → Nat) (Z : Nat → List Int) : Prop :=
  n = 0 ∨ ∃ b off, a = some ⟨b, off, none⟩ ∧ (∀ i, i < n → w.cell? ⟨b, off + i * 2, none⟩ = some (.int .i64 (P i)) ∧ w.cell? ⟨b, off + i * 2 + 1, none⟩ = some (.slice (A i) (Z i).length (C i)) ∧ Reads w (A i) (Z i))

theorem RunsRead.below {w w' : World} {a : Option Addr} {n : Nat} {P : Nat → Int} {A : Nat → Option Addr} {C : Nat → Nat} {Z : Nat → List Int} (h : RunsRead w a n P A C Z) {B : Nat} (hb : Below B w w') (hB : w.heap.size ≤ B) : RunsRead w' a n P A C Z := by
  rcases h with h | ⟨b, off, ha, hc⟩
  · exact .inl h
  · refine .inr ⟨b, off, ha, fun i hi => ?_⟩
    obtain ⟨h0, h1, h2⟩ := hc i hi
    exact ⟨(hb.cell (p := ⟨b, _, none⟩) (Nat.lt_of_lt_of_le (World.block_lt_of_cell? w _ h0) hB)).trans h0, (hb.cell (p := ⟨b, _, none⟩) (Nat.lt_of_lt_of_le (World.block_lt_of_cell? w _ h1) hB)).trans h1, h2.below hb hB⟩

/-- How much the first k runs take. -/
def took (Z : Nat → List Int) : Nat → Nat
  | 0 => 0
  | k + 1 => took Z k + (Z k).length

theorem took_mono (Z : Nat → List Int) (k n : Nat) (h : k ≤ n) : took Z k ≤ took Z n := by
  induction n with
  | zero => have : k = 0 := by omega
            subst this; exact Nat.le_refl _
  | succ n ih =>
    by_cases e : k = n + 1
    · subst e; exact Nat.le_refl _
    · have := ih (by omega); simp only [took]; omega
theorem took_one (Z : Nat → List Int) (k n : Nat) (h : k < n) : (Z k).length ≤ took Z n := by
  have := took_mono Z (k + 1) n h
  simp only [took] at this
  omega

/-- What is left of k behind n. -/
def szQ (k : Int) (n : Nat) : Int := if k < n then -1 else k - n

set_option maxHeartbeats 400000 in
theorem szByteS_any (a : Option Addr) (n c : Nat) (k : Int) (w : World) (hm : n ≤ 9223372036854775807) (hk0 : 0 ≤ k) (hk1 : k ≤ 1048576) :
    Calls Try.prog 104 #[.slice a n c, .int .i64 k] w fun e w' => e = .returned (.int .i64 (szQ k n)) ∧ w' = w := by
  by_cases h : k < n
  · have d : (k - (n : Int) < 0) := by omega
    have HQ : Hid (szQ k n = -1) := by show _ = _; unfold szQ; rw [if_pos h]
    go_enter Try.func104, Try.ntmps104
    go_wp2_with fail
    go_ret
    exact ⟨by rw [HQ.out]; rfl, rfl⟩
  · have d : ¬ (k - (n : Int) < 0) := by omega
    have HQ : Hid (szQ k n = k - n) := by show _ = _; unfold szQ; rw [if_neg h]
    go_enter Try.func104, Try.ntmps104
    go_wp2_with fail
    go_ret
    exact ⟨by rw [HQ.out]; rfl, rfl⟩

set_option maxHeartbeats 400000 in
theorem szRun_any (p : Int) (a : Option Addr) (n c : Nat) (k : Int) (w : World) (hm : n ≤ 9223372036854775807) (hk0 : 0 ≤ k) (hk1 : k ≤ 1048576) :
    Calls Try.prog 120 #[.agg #[.int .i64 p, .slice a n c], .int .i64 k] w fun e w' => e = .returned (.int .i64 (szQ k n)) ∧ Below w.heap.size w w' := by
  obtain ⟨r, hr⟩ : ∃ r : Int, r = szQ k n := ⟨_, rfl⟩
  have HR : Hid (r = szQ k n) := hr
  have hr1 : r = -1 ∨ 0 ≤ r := by rw [hr]; unfold szQ; split <;> omega
  go_enter Try.func120, Try.ntmps120
  go_wp2_with fail
  refine (szByteS_any a n c k _ hm hk0 hk1).mono ?_
  rintro e w' ⟨rfl, hw'⟩
  subst w'
  rw [← hr]
  clear hr
  rcases hr1 with hr1 | hr1
  · subst hr1
    go_wp2_with fail
    go_ret
    exact ⟨by rw [← HR.out]; rfl, by go_grown⟩
  · have d : ¬ (r < 0) := by omega
    go_wp2_with fail
    go_ret
    exact ⟨by rw [← HR.out]; rfl, by go_grown⟩

set_option maxHeartbeats 400000 in
theorem szRunS_any (a : Option Addr) (n c : Nat) (P : Nat → Int) (A : Nat → Option Addr) (C : Nat → Nat) (Z : Nat → List Int) (w : World) (hm : n ≤ 9223372036854775807) (hz : ∀ i, i < n → (Z i).length ≤ 9223372036854775807) (hr : RunsRead w a n P A C Z) :
    Calls Try.prog 90 #[.slice a n c, .int .i64 1048576] w fun e w' => (∃ r : Int, e = .returned (.int .i64 r) ∧ (0 ≤ r → n + took Z n ≤ 1048576)) ∧ Below w.heap.size w w' := by
  by_cases h : (1048576 : Int) < n
  · have d : ((1048576 : Int) - (n : Int) < 0) := by omega
    go_enter Try.func90, Try.ntmps90
    go_wp2_with fail
    go_ret
    exact ⟨⟨-1, rfl, by omega⟩, Below.refl _ _⟩
  · have d : ¬ ((1048576 : Int) - (n : Int) < 0) := by omega
    by_cases h0 : n = 0
    · subst h0
      go_enter Try.func90, Try.ntmps90
      go_wp2_with fail
      go_rounds 1
      go_ret
      exact ⟨⟨1048576, rfl, by simp [took]⟩, Below.refl _ _⟩
    rcases hr with hr | ⟨b, off, rfl, hc⟩
    · exact absurd hr h0
    have hb0 : b < w.heap.size := World.block_lt_of_cell? w _ (hc 0 (by omega)).1
    go_enter Try.func90, Try.ntmps90
    go_wp2_with fail
    go_loopw [5, 1] (fun i l wr => ∃ j : Nat, j ≤ n ∧ i = .int .i64 j ∧ l = .int .i64 (1048576 - n - took Z j) ∧ n + took Z j ≤ 1048576 ∧ Below w.heap.size w wr) (fun i _ _ => n - (intOf i).toNat)
    case atStart => exact ⟨0, Nat.zero_le _, rfl, by simp [took], by simp [took]; omega, Below.refl _ _⟩
    case round =>
      obtain ⟨j, hj, rfl, rfl, hl, g⟩ := hrel
      by_cases hlt : j < n
      · obtain ⟨e0, e1, _⟩ := hc j hlt
        have e0 := (g.cell (p := ⟨b, off + j * 2, none⟩) hb0).trans e0
        have e1 := (g.cell (p := ⟨b, off + j * 2 + 1, none⟩) hb0).trans e1
        have hjn : (j : Int) < (n : Int) := by omega
        clear hc
        have hq : Hid (∀ r, r = szQ (1048576 - n - took Z j) (Z j).length → r = -1 ∨ (0 ≤ r ∧ r = 1048576 - n - took Z (j + 1))) := by
          intro r hr
          rw [hr]
          unfold szQ
          simp only [took]
          split <;> omega
        go_wp2_with fail
        refine (szRun_any (P j) (A j) (Z j).length (C j) _ _ (hz j hlt) (by omega) (by omega)).mono ?_
        rintro e w' ⟨rfl, g'⟩
        have g : Below w.heap.size w w' := g.trans (g'.mono g.size)
        clear g' e0 e1
        obtain ⟨r, hr⟩ : ∃ r, r = szQ (1048576 - n - took Z j) (Z j).length := ⟨_, rfl⟩
        have hr1 := hq.out r hr
        rw [← hr]
        clear hr hq
        rcases hr1 with rfl | ⟨hr0, hr1⟩
        · go_wp2_with fail
          go_ret
          exact ⟨⟨-1, rfl, by omega⟩, g⟩
        · have HR : Hid (r = 1048576 - n - took Z (j + 1)) := hr1
          have hl' : n + took Z (j + 1) ≤ 1048576 := by omega
          have dr : ¬ (r < 0) := by omega
          clear hr1
          go_wp2_with fail
          go_roundw
          case rel => exact ⟨j + 1, by omega, by go_num, by rw [← HR.out], hl', g⟩
          case measure => simp [intOf]; omega
      · have e : j = n := by omega
        subst e
        go_wp2_with fail
        go_ret
        exact ⟨⟨_, rfl, fun _ => hl⟩, g⟩

end Go.Proofs.Ytcjkjenebnodbaa
