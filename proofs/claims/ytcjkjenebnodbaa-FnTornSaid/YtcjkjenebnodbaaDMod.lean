/-
  The contracts of the model's l2Count, l2Low, l2Place, l2Size, l2Slot, l2Apart: they read a page and leave all as it is.
-/
import Derived.Test.YtcjkjenebnodbaaDFlt
namespace Go.Proofs.Ytcjkjenebnodbaa.Dr
open Go.RowKit
set_option linter.unusedVariables false

theorem Reads.page {w : World} {a : Option Addr} {zs : List Int} (hr : Reads w a zs) (h : IsPg zs) : ∃ b off, a = some ⟨b, off, none⟩ ∧ ∀ i, i < 64 → w.cell? ⟨b, off + i, none⟩ = some (.int .u8 (nb zs i)) := by
  rcases hr with hr | ⟨b, off, ha, hc⟩
  · have := h.len; rw [hr] at this; simp at this
  · exact ⟨b, off, ha, fun i hi => by rw [hc i (by rw [h.len]; exact hi)]; exact congrArg (fun z => some (Value.int .u8 z)) (nb_byt h i)⟩

set_option maxHeartbeats 400000 in
theorem l2Count_any (a : Option Addr) (zs : List Int) (c : Nat) (w : World) (hr : Reads w a zs) (h : IsPg zs) :
    Calls Try.prog 141 #[.slice a 64 c] w fun e w' => e = .returned (.int .i64 (nb zs 0)) ∧ w' = w := by
  obtain ⟨b, off, rfl, hc⟩ := hr.page h
  have c0 := hc 0 (by omega)
  have b0 := nb_lt h 0
  rw [Nat.add_zero] at c0
  clear hc
  go_enter Try.func141, Try.ntmps141
  go_wp2_with fail
  go_ret
  exact ⟨rfl, rfl⟩

set_option maxHeartbeats 400000 in
theorem l2Low_any (a : Option Addr) (zs : List Int) (c : Nat) (w : World) (hr : Reads w a zs) (h : IsPg zs) :
    Calls Try.prog 146 #[.slice a 64 c] w fun e w' => e = .returned (.int .i64 (nb zs 1)) ∧ w' = w := by
  obtain ⟨b, off, rfl, hc⟩ := hr.page h
  have c0 := hc 1 (by omega)
  have b0 := nb_lt h 1
  clear hc
  go_enter Try.func146, Try.ntmps146
  go_wp2_with fail
  go_ret
  exact ⟨rfl, rfl⟩

set_option maxHeartbeats 400000 in
theorem l2Place_any (a : Option Addr) (zs : List Int) (c s : Nat) (w : World) (hr : Reads w a zs) (h : IsPg zs) (hs : s < 31) :
    Calls Try.prog 144 #[.slice a 64 c, .int .i64 s] w fun e w' => e = .returned (.int .i64 (nb zs (2 + 2 * s))) ∧ w' = w := by
  obtain ⟨b, off, rfl, hc⟩ := hr.page h
  have c0 := hc (2 + 2 * s) (by omega)
  have b0 := nb_lt h (2 + 2 * s)
  have i0 : (2 : Int) + 2 * (s : Int) < 64 := by omega
  have e0 : ((2 : Int) + 2 * (s : Int)).toNat = 2 + 2 * s := by omega
  clear hc
  go_enter Try.func144, Try.ntmps144
  go_wp2_with fail
  go_ret
  exact ⟨rfl, rfl⟩

set_option maxHeartbeats 400000 in
theorem l2Size_any (a : Option Addr) (zs : List Int) (c s : Nat) (w : World) (hr : Reads w a zs) (h : IsPg zs) (hs : s < 30) :
    Calls Try.prog 142 #[.slice a 64 c, .int .i64 s] w fun e w' => e = .returned (.int .i64 (nb zs (3 + 2 * s))) ∧ w' = w := by
  obtain ⟨b, off, rfl, hc⟩ := hr.page h
  have c0 := hc (3 + 2 * s) (by omega)
  have b0 := nb_lt h (3 + 2 * s)
  have i0 : (3 : Int) + 2 * (s : Int) < 64 := by omega
  have e0 : ((3 : Int) + 2 * (s : Int)).toNat = 3 + 2 * s := by omega
  clear hc
  go_enter Try.func142, Try.ntmps142
  go_wp2_with fail
  go_ret
  exact ⟨rfl, rfl⟩

/-- Have the cells of slots i and k no byte in common? -/
def apartB (zs : List Int) (i k : Nat) : Bool := (nb zs (3 + 2 * i) == 0 || nb zs (3 + 2 * k) == 0) || (decide (nb zs (2 + 2 * i) + nb zs (3 + 2 * i) ≤ nb zs (2 + 2 * k)) || decide (nb zs (2 + 2 * k) + nb zs (3 + 2 * k) ≤ nb zs (2 + 2 * i)))

theorem used_iff (zs : List Int) (x : Nat) : ∀ k, usedB zs k x = true ↔ ∃ s, s < k ∧ inB zs s x = true
  | 0 => by simp [usedB]
  | k + 1 => by
    rw [usedB, Bool.or_eq_true, used_iff zs x k]
    constructor
    · rintro (⟨s, h1, h2⟩ | h)
      · exact ⟨s, by omega, h2⟩
      · exact ⟨k, by omega, h⟩
    · rintro ⟨s, h1, h2⟩
      by_cases e : s = k
      · exact .inr (by rw [← e]; exact h2)
      · exact .inl ⟨s, by omega, h2⟩
theorem in_iff (zs : List Int) (s x : Nat) : inB zs s x = true ↔ nb zs (2 + 2 * s) ≤ x ∧ x < nb zs (2 + 2 * s) + nb zs (3 + 2 * s) := by simp [inB]
theorem apart_iff (zs : List Int) (i k : Nat) : apartB zs i k = false ↔ nb zs (3 + 2 * i) ≠ 0 ∧ nb zs (3 + 2 * k) ≠ 0 ∧ nb zs (2 + 2 * k) < nb zs (2 + 2 * i) + nb zs (3 + 2 * i) ∧ nb zs (2 + 2 * i) < nb zs (2 + 2 * k) + nb zs (3 + 2 * k) := by
  simp [apartB, and_assoc]

theorem hit_of (zs : List Int) (i k : Nat) (hk : k < i) (hl : nb zs (2 + 2 * i) + nb zs (3 + 2 * i) ≤ 64) (ha : apartB zs i k = false) : hitB zs i = true := by
  obtain ⟨h1, h2, h3, h4⟩ := (apart_iff zs i k).1 ha
  unfold hitB
  rw [List.any_eq_true]
  refine ⟨max (nb zs (2 + 2 * i)) (nb zs (2 + 2 * k)), by simp; omega, ?_⟩
  rw [Bool.and_eq_true]
  exact ⟨(in_iff zs i _).2 (by omega), (used_iff zs _ i).2 ⟨k, hk, (in_iff zs k _).2 (by omega)⟩⟩
theorem not_hit (zs : List Int) (i : Nat) (ha : ∀ k, k < i → apartB zs i k = true) : hitB zs i = false := by
  cases hh : hitB zs i
  · rfl
  · unfold hitB at hh
    rw [List.any_eq_true] at hh
    obtain ⟨x, _, hx⟩ := hh
    rw [Bool.and_eq_true] at hx
    obtain ⟨s, hs, hin⟩ := (used_iff zs x i).1 hx.2
    have h1 := (in_iff zs i x).1 hx.1
    have h2 := (in_iff zs s x).1 hin
    have h3 := (apart_iff zs i s).2 ⟨by omega, by omega, by omega, by omega⟩
    rw [ha s hs] at h3
    cases h3

end Go.Proofs.Ytcjkjenebnodbaa.Dr

