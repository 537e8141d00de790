/-
  The law FnExactRowFault answers true at every row.
-/
import Derived.Test.YtnhfimgjljmfoaaRowC
namespace Go.Proofs.Ytnhfimgjljmfoaa
open Go.RowKit

set_option maxHeartbeats 400000 in
theorem lawRowFault_over (t k v : Int) (s : ByteArray) (w : World) (hm : s.size ≤ maxLen) (hs : 1048576 < s.size) :
    Calls Try.prog 4 #[.agg #[.int .i64 t, .int .i64 k, .int .i64 v, .string s]] w fun e w' => e = .returned (.bool true) ∧ Below w.heap.size w w' := by
  go_enter Try.func4, Try.ntmps4
  go_wp2_with fail
  refine (szRow_over t k v s _ _ hm ?_ ?_ ?_).mono ?_
  · omega
  · omega
  · omega
  rintro e w1 ⟨rfl, hb1⟩
  have g1 : Below w.heap.size w w1 := Below.trans (by go_grown) (hb1.mono (by simp))
  clear hb1
  go_wp2_with fail
  go_ret
  exact ⟨rfl, g1⟩

set_option maxHeartbeats 400000 in
theorem lawRowFault_fits (t k v : Int) (s : ByteArray) (w : World) (hm : s.size ≤ maxLen) (hs : s.size ≤ 1048576) :
    Calls Try.prog 4 #[.agg #[.int .i64 t, .int .i64 k, .int .i64 v, .string s]] w fun e w' => e = .returned (.bool true) ∧ Below w.heap.size w w' := by
  go_enter Try.func4, Try.ntmps4
  go_wp2_with fail
  refine (szRow_fits t k v s _ _ ?_ ?_).mono ?_
  · omega
  · omega
  rintro e w1 ⟨rfl, hb1⟩
  obtain ⟨p0, p1, p2, p3⟩ : RowAt w1 w.heap.size t k v s := rowAt_below hb1 (by simp) ⟨by simp [go_sem], by simp [go_sem], by simp [go_sem], by simp [go_sem]⟩
  have hz1 : w.heap.size < w1.heap.size := by have := hb1.size; simp at this; omega
  have g1 : Below w.heap.size w w1 := Below.trans (by go_grown) (hb1.mono (by simp))
  clear hb1
  have h3 : ¬ (1048576 - (s.size : Int) < 0) := by omega
  go_wp2_with fail
  refine (toRow_any t k v s _).mono ?_
  rintro e w2 ⟨rfl, hb2⟩
  obtain ⟨p0, p1, p2, p3⟩ : RowAt w2 w.heap.size t k v s := rowAt_below hb2 (by omega) ⟨p0, p1, p2, p3⟩
  have hz2 : w.heap.size < w2.heap.size := by have := hb2.size; omega
  have g2 : Below w.heap.size w w2 := g1.trans (hb2.mono (by omega))
  clear hb2 g1 hz1
  go_wp2_with fail
  refine (specRowFault_any t k v s _ hm).mono ?_
  rintro e w3 ⟨rfl, hb3⟩
  obtain ⟨p0, p1, p2, p3⟩ : RowAt w3 w.heap.size t k v s := rowAt_below hb3 (by omega) ⟨p0, p1, p2, p3⟩
  have hz3 : w.heap.size < w3.heap.size := by have := hb3.size; omega
  have g3 : Below w.heap.size w w3 := g2.trans (hb3.mono (by omega))
  clear hb3 g2 hz2
  go_wp2_with fail
  refine (toRow_any t k v s _).mono ?_
  rintro e w4 ⟨rfl, hb4⟩
  have hz4 : w.heap.size < w4.heap.size := by have := hb4.size; omega
  have g4 : Below w.heap.size w w4 := g3.trans (hb4.mono (by omega))
  clear hb4 g3 hz3
  go_wp2_with fail
  refine (implRowFault_any t k v s _ hm).mono ?_
  rintro e w5 ⟨rfl, hb5⟩
  have g5 : Below w.heap.size w w5 := g4.trans (hb5.mono (by omega))
  clear hb5 g4 hz4
  go_wp2_with fail
  go_ret
  exact ⟨rfl, g5⟩

theorem lawRowFault_any (t k v : Int) (s : ByteArray) (w : World) (hm : s.size ≤ maxLen) :
    Calls Try.prog 4 #[.agg #[.int .i64 t, .int .i64 k, .int .i64 v, .string s]] w fun e w' => e = .returned (.bool true) ∧ Below w.heap.size w w' := by
  by_cases hs : 1048576 < s.size
  · exact lawRowFault_over t k v s w hm hs
  · exact lawRowFault_fits t k v s w hm (by omega)

end Go.Proofs.Ytnhfimgjljmfoaa
