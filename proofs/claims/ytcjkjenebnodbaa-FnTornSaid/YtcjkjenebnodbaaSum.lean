/-
  The sum of bytes: the program's and the model's.
-/
import Derived.Test.YtcjkjenebnodbaaRee
namespace Go.Proofs.Ytcjkjenebnodbaa
open Go.RowKit
set_option linter.unusedVariables false

/-- The sum of the first j bytes. -/
def sumN (zs : List Int) : Nat → Nat
  | 0 => 1
  | j + 1 => (sumN zs j * 31 + (zs.getD j 0).toNat) % 65521

theorem sumN_lt (zs : List Int) : ∀ j, sumN zs j < 65521
  | 0 => by simp [sumN]
  | j + 1 => by simp only [sumN]; exact Nat.mod_lt _ (by decide)

set_option maxHeartbeats 400000 in
theorem l4Sum_any (a : Option Addr) (n c : Nat) (zs : List Int) (w : World) (hn : zs.length = n) (hm : n ≤ 140737488351232) (hr : Reads w a zs) (hz : ∀ z ∈ zs, 0 ≤ z ∧ z ≤ 255) :
    Calls Try.prog 113 #[.slice a n c] w fun e w' => e = .returned (.int .i64 (sumN zs n)) ∧ w' = w := by
  by_cases h0 : n = 0
  · subst h0
    go_enter Try.func113, Try.ntmps113
    go_wp2
    go_rounds 1
    go_ret
    exact ⟨rfl, rfl⟩
  rcases hr with hr | ⟨b, off, rfl, hc⟩
  · rw [hr] at hn; simp at hn; omega
  have HC : Hid (∀ i, i < zs.length → w.cell? ⟨b, off + i, none⟩ = some (.int .u8 (zs.getD i 0))) := hc
  have HB : Hid (∀ i, i < n → 0 ≤ zs.getD i 0 ∧ zs.getD i 0 ≤ 255) := fun i hi => hz _ (by simp [List.getD, List.getElem?_eq_getElem (show i < zs.length by omega)])
  clear hc hz
  go_enter Try.func113, Try.ntmps113
  go_wp2
  go_loop [4, 3] (fun i s => ∃ j : Nat, j ≤ n ∧ i = .int .i64 j ∧ s = .int .i64 (sumN zs j)) (fun i _ => n - (intOf i).toNat)
  case atStart => exact ⟨0, Nat.zero_le _, rfl, rfl⟩
  case round =>
    obtain ⟨j, hj, rfl, rfl⟩ := hrel
    by_cases hlt : j < n
    · have h1 := HC.out j (by omega)
      obtain ⟨b0, b1⟩ := HB.out j hlt
      have hs := sumN_lt zs j
      obtain ⟨s, hsv⟩ : ∃ s, s = sumN zs j := ⟨_, rfl⟩
      obtain ⟨x, hxv⟩ : ∃ x : Nat, (x : Int) = zs.getD j 0 := ⟨(zs.getD j 0).toNat, by omega⟩
      have HS : Hid (sumN zs (j + 1) = (s * 31 + x) % 65521) := by show _ = _; simp only [sumN]; rw [← hsv, ← hxv]; rfl
      rw [← hsv] at hs ⊢
      rw [← hxv] at h1 b0 b1
      have hx : x ≤ 255 := by omega
      clear hsv hxv b0 b1
      have hjn : (j : Int) < (n : Int) := by omega
      have e1 : IntKind.i64.wrap ((s : Int) * 31) = (s : Int) * 31 := by rw [IntKind.wrap_i64]; omega
      have e2 : IntKind.i64.wrap ((s : Int) * 31 + (x : Int)) = (s : Int) * 31 + (x : Int) := by rw [IntKind.wrap_i64]; omega
      go_wp2
      go_round
      case rel => exact ⟨j + 1, by omega, by go_num, by rw [HS.out]; congr 1⟩
      case measure => simp [intOf]; omega
    · have e : j = n := by omega
      subst e
      go_wp2
      go_ret
      exact ⟨rfl, rfl⟩

set_option maxHeartbeats 400000 in
theorem sumOf_any (a : Option Addr) (n c : Nat) (zs : List Int) (w : World) (hn : zs.length = n) (hm : n ≤ 140737488351232) (hr : Reads w a zs) (hz : ∀ z ∈ zs, 0 ≤ z ∧ z ≤ 255) :
    Calls Try.prog 126 #[.slice a n c] w fun e w' => e = .returned (.int .u32 (sumN zs n)) ∧ w' = w := by
  by_cases h0 : n = 0
  · subst h0
    go_enter Try.func126, Try.ntmps126
    go_wp2
    go_rounds 1
    go_ret
    exact ⟨rfl, rfl⟩
  rcases hr with hr | ⟨b, off, rfl, hc⟩
  · rw [hr] at hn; simp at hn; omega
  have HC : Hid (∀ i, i < zs.length → w.cell? ⟨b, off + i, none⟩ = some (.int .u8 (zs.getD i 0))) := hc
  have HB : Hid (∀ i, i < n → 0 ≤ zs.getD i 0 ∧ zs.getD i 0 ≤ 255) := fun i hi => hz _ (by simp [List.getD, List.getElem?_eq_getElem (show i < zs.length by omega)])
  clear hc hz
  go_enter Try.func126, Try.ntmps126
  go_wp2
  go_loop [8, 3] (fun i s => ∃ j : Nat, j ≤ n ∧ i = .int .i64 j ∧ s = .int .u32 (sumN zs j)) (fun i _ => n - (intOf i).toNat)
  case atStart => exact ⟨0, Nat.zero_le _, rfl, rfl⟩
  case round =>
    obtain ⟨j, hj, rfl, rfl⟩ := hrel
    by_cases hlt : j < n
    · have h1 := HC.out j (by omega)
      obtain ⟨b0, b1⟩ := HB.out j hlt
      have hs := sumN_lt zs j
      obtain ⟨s, hsv⟩ : ∃ s, s = sumN zs j := ⟨_, rfl⟩
      obtain ⟨x, hxv⟩ : ∃ x : Nat, (x : Int) = zs.getD j 0 := ⟨(zs.getD j 0).toNat, by omega⟩
      have HS : Hid (sumN zs (j + 1) = (s * 31 + x) % 65521) := by show _ = _; simp only [sumN]; rw [← hsv, ← hxv]; rfl
      rw [← hsv] at hs ⊢
      rw [← hxv] at h1 b0 b1
      have hx : x ≤ 255 := by omega
      clear hsv hxv b0 b1
      have hjn : (j : Int) < (n : Int) := by omega
      go_wp2
      go_round
      case rel => exact ⟨j + 1, by omega, by go_num, by rw [HS.out]; congr 1⟩
      case measure => simp [intOf]; omega
    · have e : j = n := by omega
      subst e
      go_wp2
      go_ret
      exact ⟨rfl, rfl⟩

end Go.Proofs.Ytcjkjenebnodbaa
