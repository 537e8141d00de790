/-
  The law FnExactRowText answers true at every row, where the library's table of powers of ten is as its text lays it.
-/
import Derived.Test.YtfokolanjjiicaaDoorStx
namespace Go.Proofs.YtfokolanjjiicaaDoor
open Go.RowKit

theorem fault_zero {t k v : Int} {s : ByteArray} (h : faultI t k v s = 0) : (0 ≤ t ∧ t ≤ 3) ∧ (1 ≤ k ∧ k ≤ 99) ∧ (0 ≤ v ∧ v ≤ 999) ∧ s.size ≤ 8 ∧ txtB s = true := by
  unfold faultI rngB at h
  simp only [Bool.and_eq_true] at h
  by_cases h1 : (inB t 0 3 = true ∧ inB k 1 99 = true) ∧ inB v 0 999 = true
  · rw [if_pos h1] at h
    by_cases h2 : txtB s = true
    · have h8 : s.size ≤ 8 := by unfold txtB at h2; simp at h2; omega
      simp only [inB, Bool.and_eq_true, decide_eq_true_eq] at h1
      exact ⟨h1.1.1, h1.1.2, h1.2, h8, h2⟩
    · rw [if_neg h2] at h; omega
  · rw [if_neg h1] at h; omega

theorem both_any (t k v : Int) (s : ByteArray) (hs : s.size ≤ maxLen) : ∃ q x,
    (∀ w : World, Calls Tryd.prog 13 #[.agg #[.int .i64 t, .int .i64 k, .int .i64 v, .string s]] w fun e w' => e = .returned (.agg #[.int .i64 q, .string x]) ∧ Below w.heap.size w w') ∧
    (∀ w : World, Tab w → Calls Tryd.prog 8 #[.agg #[.int .i64 t, .int .i64 k, .int .i64 v, .string s]] w fun e w' => e = .returned (.agg #[.int .i64 q, .string x]) ∧ Below w.heap.size w w') := by
  by_cases hf : faultI t k v s = 0
  · obtain ⟨⟨t0, t1⟩, ⟨k0, k1⟩, ⟨v0, v1⟩, h8, _⟩ := fault_zero hf
    obtain ⟨a, rfl⟩ : ∃ a : Nat, t = a := ⟨t.toNat, by omega⟩
    obtain ⟨b, rfl⟩ : ∃ b : Nat, k = b := ⟨k.toNat, by omega⟩
    obtain ⟨c, rfl⟩ : ∃ c : Nat, v = c := ⟨v.toNat, by omega⟩
    exact ⟨0, rowS a b c s, fun w => specRowText_good a b c s w h8 hf (by omega) (by omega) (by omega), fun w hT => implRowText_good a b c s w h8 hf (by omega) (by omega) (by omega) hT⟩
  · exact ⟨faultI t k v s, ⟨#[]⟩, fun w => specRowText_bad t k v s w hs hf, fun w _ => implRowText_bad t k v s w hs hf⟩

set_option maxHeartbeats 400000 in
theorem eqText_any (q : Int) (x : ByteArray) (w : World) :
    Calls Tryd.prog 17 #[.agg #[.int .i64 q, .string x], .agg #[.int .i64 q, .string x]] w fun e w' => e = .returned (.bool true) ∧ Below w.heap.size w w' := by
  go_enter Tryd.func17, Tryd.ntmps17
  go_wp2_with fail
  go_ret
  exact ⟨rfl, by go_grown⟩

set_option maxHeartbeats 400000 in
theorem lawRowText_over (t k v : Int) (s : ByteArray) (w : World) (hm : s.size ≤ maxLen) (hs : 1048576 < s.size) :
    Calls Tryd.prog 4 #[.agg #[.int .i64 t, .int .i64 k, .int .i64 v, .string s]] w fun e w' => e = .returned (.bool true) ∧ Below w.heap.size w w' := by
  go_enter Tryd.func4, Tryd.ntmps4
  go_wp2_with fail
  refine (szRow_over t k v s _ _ hm ?_ ?_ ?_).mono ?_
  · omega
  · omega
  · omega
  rintro e w1 ⟨rfl, hb1⟩
  have g1 : Below w.heap.size w w1 := Below.trans (by go_grown) (hb1.mono (by simp))
  clear hb1
  go_wp2_with fail
  go_ret
  exact ⟨rfl, g1⟩

set_option maxHeartbeats 400000 in
theorem lawRowText_fits (t k v : Int) (s : ByteArray) (w : World) (hT : Tab w) (hm : s.size ≤ maxLen) (hs : s.size ≤ 1048576) :
    Calls Tryd.prog 4 #[.agg #[.int .i64 t, .int .i64 k, .int .i64 v, .string s]] w fun e w' => e = .returned (.bool true) ∧ Below w.heap.size w w' := by
  obtain ⟨q, x, HS, HI⟩ := both_any t k v s hm
  have HT : Hid (∀ W : World, Below w.heap.size w W → Tab W) := fun W h => hT.below h
  clear hT
  go_enter Tryd.func4, Tryd.ntmps4
  go_wp2_with fail
  refine (szRow_fits t k v s _ _ ?_ ?_).mono ?_
  · omega
  · omega
  rintro e w1 ⟨rfl, hb1⟩
  obtain ⟨p0, p1, p2, p3⟩ : RowAt w1 w.heap.size t k v s := rowAt_below hb1 (by simp) ⟨by simp [go_sem], by simp [go_sem], by simp [go_sem], by simp [go_sem]⟩
  have hz1 : w.heap.size < w1.heap.size := by have := hb1.size; simp at this; omega
  have g1 : Below w.heap.size w w1 := Below.trans (by go_grown) (hb1.mono (by simp))
  clear hb1
  have h3 : ¬ (1048576 - (s.size : Int) < 0) := by omega
  go_wp2_with fail
  refine (toRow_any t k v s _).mono ?_
  rintro e w2 ⟨rfl, hb2⟩
  obtain ⟨p0, p1, p2, p3⟩ : RowAt w2 w.heap.size t k v s := rowAt_below hb2 (by omega) ⟨p0, p1, p2, p3⟩
  have hz2 : w.heap.size < w2.heap.size := by have := hb2.size; omega
  have g2 : Below w.heap.size w w2 := g1.trans (hb2.mono (by omega))
  clear hb2 g1 hz1
  go_wp2_with fail
  refine (HS _).mono ?_
  rintro e w3 ⟨rfl, hb3⟩
  obtain ⟨p0, p1, p2, p3⟩ : RowAt w3 w.heap.size t k v s := rowAt_below hb3 (by omega) ⟨p0, p1, p2, p3⟩
  have hz3 : w.heap.size < w3.heap.size := by have := hb3.size; omega
  have g3 : Below w.heap.size w w3 := g2.trans (hb3.mono (by omega))
  clear hb3 g2 hz2
  go_wp2_with fail
  refine (toRow_any t k v s _).mono ?_
  rintro e w4 ⟨rfl, hb4⟩
  obtain ⟨b, hb⟩ : ∃ b, b = w3.heap.size := ⟨_, rfl⟩
  obtain ⟨r0, r1⟩ : w4.cell? ⟨b, 0, none⟩ = some (.int .i64 q) ∧ w4.cell? ⟨b, 1, none⟩ = some (.string x) := by
    subst hb
    exact ⟨(hb4.cell (p := ⟨w3.heap.size, 0, none⟩) (by simp)).trans (by simp [go_sem]), (hb4.cell (p := ⟨w3.heap.size, 1, none⟩) (by simp)).trans (by simp [go_sem])⟩
  have g4 : Below w.heap.size w w4 := Below.trans (by go_grown) (hb4.mono (by simp; omega))
  have hz4 : b < w4.heap.size := World.block_lt_of_cell? w4 _ r0
  rw [← hb]
  clear hb4 g3 hz3 hb p0 p1 p2 p3
  go_wp2_with fail
  refine (HI _ (HT.out _ g4)).mono ?_
  rintro e w5 ⟨rfl, hb5⟩
  have g5 : Below w.heap.size w w5 := g4.trans (hb5.mono g4.size)
  have r0 := (hb5.cell (p := ⟨b, 0, none⟩) hz4).trans r0
  have r1 := (hb5.cell (p := ⟨b, 1, none⟩) hz4).trans r1
  have hz5 : b < w5.heap.size := World.block_lt_of_cell? w5 _ r0
  clear hb5 g4 hz4
  go_wp2_with fail
  refine (eqText_any q x _).mono ?_
  rintro e w6 ⟨rfl, hb6⟩
  have h5 := g5.size
  have g6 : Below w.heap.size w w6 := Below.trans (by go_grown) (hb6.mono (by simp; omega))
  clear hb6 g5 hz5
  go_wp2_with fail
  go_ret
  exact ⟨rfl, g6⟩

theorem lawRowText_any (t k v : Int) (s : ByteArray) (w : World) (hT : Tab w) (hm : s.size ≤ maxLen) :
    Calls Tryd.prog 4 #[.agg #[.int .i64 t, .int .i64 k, .int .i64 v, .string s]] w fun e w' => e = .returned (.bool true) ∧ Below w.heap.size w w' := by
  by_cases hs : 1048576 < s.size
  · exact lawRowText_over t k v s w hm hs
  · exact lawRowText_fits t k v s w hT hm (by omega)

end Go.Proofs.YtfokolanjjiicaaDoor
