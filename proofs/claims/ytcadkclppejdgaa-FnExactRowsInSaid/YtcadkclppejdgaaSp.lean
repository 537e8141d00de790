/-
  The contracts of the methods of a page that read it: slots, low, spanOf, and those of a span.
-/
import Derived.Test.YtcadkclppejdgaaPair
import Derived.Deep.Cut
namespace Go.Proofs.Ytcadkclppejdgaa
open Go.RowKit

/-- The byte at place i. -/
def byt (zs : List Int) (i : Nat) : Int := zs.getD i 0
/-- 64 bytes. -/
structure IsPg (zs : List Int) : Prop where
  len : zs.length = 64
  bd : ∀ z ∈ zs, 0 ≤ z ∧ z ≤ 255

theorem byt_bd {zs : List Int} (h : ∀ z ∈ zs, 0 ≤ z ∧ z ≤ 255) (i : Nat) : 0 ≤ byt zs i ∧ byt zs i ≤ 255 := by
  unfold byt
  rw [List.getD_eq_getElem?_getD]
  cases hi : zs[i]? with
  | none => simp
  | some z => exact h z (List.mem_of_getElem? hi)
/-- The byte at place i, as a number of places. -/
def nb (zs : List Int) (i : Nat) : Nat := (byt zs i).toNat
theorem nb_byt {zs : List Int} (h : IsPg zs) (i : Nat) : byt zs i = (nb zs i : Int) := by have := byt_bd h.bd i; unfold nb; omega
theorem nb_lt {zs : List Int} (h : IsPg zs) (i : Nat) : nb zs i ≤ 255 := by have := byt_bd h.bd i; unfold nb; omega
theorem Arr.at {w : World} {b : Nat} {zs : List Int} (h : Arr w b zs) (i : Nat) (hi : i < 64) : w.cell? ⟨b, i, none⟩ = some (.int .u8 (byt zs i)) := h.cell i hi

/-- What the methods of a page find behind their first region: the page in a block of its own. -/
theorem boxed (zs : List Int) (w : World) (h : IsPg zs) : ∃ X, w.alloc (.cells (pgC zs) 167) = X ∧ Arr X w.heap.size zs ∧ Below w.heap.size w X := ⟨_, rfl, arr_new w zs h.len, (Below.refl _ _).alloc (Nat.le_refl _) _⟩

set_option maxHeartbeats 400000 in
theorem slots_any (zs : List Int) (w : World) (h : IsPg zs) :
    Calls Try.prog 123 #[.agg (pgC zs)] w fun e w' => e = .returned (.int .u64 (nb zs 0)) ∧ Below w.heap.size w w' := by
  obtain ⟨X, hX, hA, g⟩ := boxed zs w h
  have c0 := hA.at 0 (by omega)
  have b1 := nb_lt h 0
  rw [nb_byt h] at c0
  go_enter Try.func123, Try.ntmps123
  go_wp2_with fail
  go_ret
  exact ⟨rfl, g⟩

set_option maxHeartbeats 400000 in
theorem low_any (zs : List Int) (w : World) (h : IsPg zs) :
    Calls Try.prog 147 #[.agg (pgC zs)] w fun e w' => e = .returned (.int .u64 (nb zs 1)) ∧ Below w.heap.size w w' := by
  obtain ⟨X, hX, hA, g⟩ := boxed zs w h
  have c0 := hA.at 1 (by omega)
  have b1 := nb_lt h 1
  rw [nb_byt h] at c0
  go_enter Try.func147, Try.ntmps147
  go_wp2_with fail
  go_ret
  exact ⟨rfl, g⟩

set_option maxHeartbeats 400000 in
theorem dirEnd_any (s : Nat) (w : World) (hs : s ≤ 1000) :
    Calls Try.prog 134 #[.int .u64 s] w fun e w' => e = .returned (.int .u64 (2 + 2 * s : Nat)) ∧ w' = w := by
  go_enter Try.func134, Try.ntmps134
  go_wp2_with fail
  go_ret
  exact ⟨by simp, rfl⟩

set_option maxHeartbeats 400000 in
theorem spanEnd_any (p l : Nat) (w : World) (h1 : p ≤ 255) (h3 : l ≤ 255) :
    Calls Try.prog 127 #[.agg #[.int .u64 p, .int .u64 l]] w fun e w' => e = .returned (.int .u64 (p + l : Nat)) ∧ Below w.heap.size w w' := by
  go_enter Try.func127, Try.ntmps127
  go_wp2_with fail
  go_ret
  exact ⟨by simp, by go_grown⟩

set_option maxHeartbeats 400000 in
theorem isEmpty_any (p l : Nat) (w : World) :
    Calls Try.prog 125 #[.agg #[.int .u64 p, .int .u64 l]] w fun e w' => e = .returned (.bool (p == 0 && l == 0)) ∧ Below w.heap.size w w' := by
  by_cases hp : p = 0
  · by_cases hl : l = 0
    · subst hp hl
      go_enter Try.func125, Try.ntmps125
      go_wp2_with fail
      go_ret
      exact ⟨rfl, by go_grown⟩
    · subst hp
      have e : (0 == 0 && l == 0) = false := by simp [hl]
      rw [e]
      go_enter Try.func125, Try.ntmps125
      go_wp2_with fail
      go_ret
      exact ⟨rfl, by go_grown⟩
  · have e : (p == 0 && l == 0) = false := by simp [hp]
    rw [e]
    go_enter Try.func125, Try.ntmps125
    go_wp2_with fail
    go_ret
    exact ⟨rfl, by go_grown⟩

set_option maxHeartbeats 400000 in
theorem spanOf_any (zs : List Int) (s : Nat) (w : World) (h : IsPg zs) (hs : s < 31) :
    Calls Try.prog 124 #[.agg (pgC zs), .int .u64 s] w fun e w' => e = .returned (.agg #[.int .u64 (nb zs (2 + 2 * s)), .int .u64 (nb zs (3 + 2 * s))]) ∧ Below w.heap.size w w' := by
  obtain ⟨X, hX, hA, g⟩ := boxed zs w h
  obtain ⟨Y, hY⟩ : ∃ Y, X.alloc (.cells #[.int .u64 0, .int .u64 0] 173) = Y := ⟨_, rfl⟩
  have hA' : Arr Y w.heap.size zs := by rw [← hY]; exact hA.alloc _
  have g' : Below w.heap.size w Y := by rw [← hY]; exact g.alloc g.size _
  have e0 : Y.cell? ⟨X.heap.size, 0, none⟩ = some (.int .u64 0) := by rw [← hY]; simp [go_sem]
  have e1 : Y.cell? ⟨X.heap.size, 1, none⟩ = some (.int .u64 0) := by rw [← hY]; simp [go_sem]
  have f0 : Y.frozen? ⟨X.heap.size, 0, none⟩ = false := by rw [← hY]; simp [go_sem]
  have f1 : Y.frozen? ⟨X.heap.size, 1, none⟩ = false := by rw [← hY]; simp [go_sem]
  rw [show 3 + 2 * s = 2 + 2 * s + 1 by omega]
  obtain ⟨m, hm⟩ : ∃ m, m = 2 + 2 * s := ⟨_, rfl⟩
  have HM : Hid (m = 2 + 2 * s) := hm
  have hm64 : m + 1 < 64 := by omega
  rw [← hm]
  clear hm
  have c0 := hA'.at m (by omega)
  have c1 := hA'.at (m + 1) (by omega)
  rw [nb_byt h] at c0 c1
  have b1 := nb_lt h m
  have b3 := nb_lt h (m + 1)
  obtain ⟨p, hp⟩ : ∃ p, p = nb zs m := ⟨_, rfl⟩
  obtain ⟨l, hl⟩ : ∃ l, l = nb zs (m + 1) := ⟨_, rfl⟩
  rw [← hp] at c0 b1 ⊢
  rw [← hl] at c1 b3 ⊢
  clear hp hl
  have hlt : w.heap.size < X.heap.size := hA.lt
  have hne : ¬ (w.heap.size = X.heap.size) := by omega
  have i1 : (m : Int) < 64 := by omega
  have i2 : (m : Int) + 1 < 64 := by omega
  clear hA hA' g
  go_enter Try.func124, Try.ntmps124
  go_wp2_with fail
  refine (dirEnd_any s _ (by omega)).mono ?_
  rintro e w' ⟨rfl, hw⟩
  subst hw
  rw [← HM.out]
  clear hX hY
  go_wp2_with fail
  go_region
  go_wp2_with fail
  refine bodyPost_ret (v := .agg #[.int .u64 p, .int .u64 l]) (by simp [results, Try.results124, go_sem, e0, e1]) rfl ?_
  exact ⟨rfl, by go_grown⟩

end Go.Proofs.Ytcadkclppejdgaa

