/-
  The law FnExactPackRow answers true at every flag and row.
-/
import Derived.Test.YtnhfimgjljmfoaaPack
import Derived.Test.YtnhfimgjljmfoaaPair
namespace Go.Proofs.Ytnhfimgjljmfoaa
open Go.RowKit

theorem rowAt_turned {lo hi b : Nat} {w w' : World} {t k v : Int} {s : ByteArray} (ht : Turned lo hi w w') (hn : b < lo) (h : RowAt w b t k v s) : RowAt w' b t k v s :=
  ⟨ht.cell h.c0 (.inl hn), ht.cell h.c1 (.inl hn), ht.cell h.c2 (.inl hn), ht.cell h.c3 (.inl hn)⟩

set_option maxHeartbeats 400000 in
theorem lawPackRow_over (f t k v : Int) (s : ByteArray) (w : World) (hm : s.size ≤ maxLen) (hs : 1048576 < s.size) :
    Calls Try.prog 6 #[.int .i64 f, .agg #[.int .i64 t, .int .i64 k, .int .i64 v, .string s]] w fun e w' => e = .returned (.bool true) ∧ Below w.heap.size w w' := by
  go_enter Try.func6, Try.ntmps6
  go_wp2_with fail
  refine (szRow_over t k v s _ _ hm ?_ ?_ ?_).mono ?_
  · omega
  · omega
  · omega
  rintro e w1 ⟨rfl, hb1⟩
  have g1 : Below w.heap.size w w1 := Below.trans (by go_grown) (hb1.mono (by simp))
  clear hb1
  go_wp2_with fail
  go_ret
  exact ⟨rfl, g1⟩

set_option maxHeartbeats 1000000 in
theorem lawPackRow_fits (f t k v : Int) (s : ByteArray) (w : World) (hM : s.size ≤ maxLen) (hs : s.size ≤ 1048576) :
    Calls Try.prog 6 #[.int .i64 f, .agg #[.int .i64 t, .int .i64 k, .int .i64 v, .string s]] w fun e w' => e = .returned (.bool true) ∧ Below w.heap.size w w' := by
  have hsm := packBytes_small f t k v s
  generalize hzs : packBytes f t k v s = zs at hsm
  generalize hq : packCode f t k v s = q
  have HZ : Hid (packBytes f t k v s = zs) := hzs
  have HQ : Hid (packCode f t k v s = q) := hq
  clear hzs hq
  obtain ⟨n, hn⟩ : ∃ n, zs.length = n := ⟨_, rfl⟩
  rw [hn] at hsm
  have HN : Hid (zs.length = n) := hn
  clear hn
  have hm : n ≤ 140737488351232 := by omega
  go_enter Try.func6, Try.ntmps6
  go_wp2_with fail
  refine (szRow_fits t k v s _ _ ?_ ?_).mono ?_
  · omega
  · omega
  rintro e w0 ⟨rfl, hb1⟩
  have hR : RowAt w0 w.heap.size t k v s := rowAt_below hb1 (by simp) ⟨by simp [go_sem], by simp [go_sem], by simp [go_sem], by simp [go_sem]⟩
  have hz : w.heap.size < w0.heap.size := by have := hb1.size; simp at this; omega
  have g : Below w.heap.size w w0 := Below.trans (by go_grown) (hb1.mono (by simp))
  clear hb1
  have h3 : ¬ (1048576 - (s.size : Int) < 0) := by omega
  obtain ⟨p0, p1, p2, p3⟩ := hR
  go_wp2_with fail
  refine (toRow_any t k v s _).mono ?_
  rintro e w00 ⟨rfl, hb⟩
  have hR : RowAt w00 w.heap.size t k v s := rowAt_below hb hz ⟨p0, p1, p2, p3⟩
  have g := g.trans (hb.mono g.size)
  have hz : w.heap.size < w00.heap.size := by have := hb.size; omega
  clear hb p0 p1 p2 p3
  go_wp2_with fail
  refine (specPackRow_any f t k v s _ hM).mono ?_
  rintro e w1 ⟨a, c, rfl, g1, y1⟩
  rw [HZ.out, HQ.out, HN.out]
  rw [HZ.out] at y1
  have hR : RowAt w1 w.heap.size t k v s := rowAt_below g1 hz hR
  have g := g.trans (g1.mono g.size)
  have hz : w.heap.size < w1.heap.size := by have := g1.size; omega
  have y1 := y1.mono (Nat.le_of_lt (by omega : w.heap.size < w00.heap.size)) (Nat.le_refl _)
  clear g1
  obtain ⟨p0, p1, p2, p3⟩ := hR
  go_wp2_with fail
  refine (toRow_any t k v s _).mono ?_
  rintro e w11 ⟨rfl, hb⟩
  have h1 := hb.size
  simp only [World.size_alloc] at h1
  have hR : RowAt w11 w.heap.size t k v s := rowAt_below hb (by simp; omega) (rowAt_below (B := w1.heap.size) (w := w1) (by go_grown) hz ⟨p0, p1, p2, p3⟩)
  have r1 : ResAt w11 w1.heap.size q a n c := ResAt.below ⟨by simp [go_sem], by simp [go_sem]⟩ hb
  have y1 : BytesIn w.heap.size w1.heap.size w11 a zs := (y1.below (by go_grown)).below hb
  have g : Below w.heap.size w w11 := g.trans (Below.trans (by go_grown) (hb.mono (by simp; omega)))
  clear hb p0 p1 p2 p3
  go_wp2_with fail
  refine (implPackRow_any f t k v s _ hM).mono ?_
  rintro e w2 ⟨b, d, rfl, g2, y2⟩
  rw [HZ.out, HQ.out, HN.out]
  rw [HZ.out] at y2
  have h2 := g2.size
  have hlt : w1.heap.size < w2.heap.size := by omega
  have r1 := r1.below g2
  have hR : RowAt w2 w.heap.size t k v s := rowAt_below g2 (by omega) hR
  have hS : PairSt w q zs zs n w1.heap.size a c w2.heap.size b d (w1.heap.size + 1) w2.heap.size (w2.alloc (.cells #[.int .i64 q, .slice b n d] 32)) := by
    have g3 : Below w.heap.size w w2 := g.trans (g2.mono (by omega))
    exact ⟨r1.below (by go_grown), ⟨by simp [go_sem], by simp [go_sem]⟩, ((y1.below g2).below (by go_grown)).mono (Nat.le_refl _) (by omega), (y2.below (by go_grown)).mono (by omega) (Nat.le_refl _), by omega, by omega, by omega, by simp, by omega, g3.alloc g3.size _⟩
  have hR : RowAt (w2.alloc (.cells #[.int .i64 q, .slice b n d] 32)) w.heap.size t k v s := rowAt_below (B := w2.heap.size) (w := w2) (by go_grown) (by omega) hR
  clear g g2 y1 y2 h1 h2
  obtain ⟨x0, x1⟩ := r1
  go_wp2_with fail
  refine (eqBytesResult_same q b a _ _ _ _ zs n d c _ HN.out hm hS.yb hS.ya).mono ?_
  rintro e w3 ⟨rfl, g3⟩
  have hR : RowAt w3 w.heap.size t k v s := rowAt_below g3 (by simp; omega) hR
  have hS := hS.step g3
  clear g3 x0 x1 hlt
  obtain ⟨p0, p1⟩ := hS.rb
  go_wp2_with fail
  refine (markBytesResult_any q b _ _ zs n d 1 _ HN.out hm (by omega) (by omega) hS.yb).mono ?_
  rintro e w4 ⟨rfl, t4, y4⟩
  have hR : RowAt w4 w.heap.size t k v s := rowAt_turned t4 (by omega) hR
  have hS := hS.turn t4 y4
  clear t4 y4 p0 p1
  obtain ⟨p0, p1⟩ := hS.rb
  go_wp2_with fail
  refine (heldBytesResult_any q b _ _ zs n d 1 _ HN.out hm (by omega) (by omega) hS.yb).mono ?_
  rintro e w5 ⟨rfl, g5⟩
  have hw4 : w.heap.size < w4.heap.size := by have := hS.sw; have := hS.sa; have := hS.sl; have := hS.sb; omega
  have hR : RowAt w5 w.heap.size t k v s := rowAt_below g5 hw4 hR
  have hS := hS.step g5
  have hw5 : w.heap.size < w5.heap.size := by have := g5.size; omega
  clear g5 p0 p1 hw4
  have hpos : ¬ (1 + (n : Int) < 0) := by omega
  obtain ⟨p0, p1, p2, p3⟩ := hR
  go_wp2_with fail
  refine (toRow_any t k v s _).mono ?_
  rintro e w55 ⟨rfl, g55⟩
  have hS := hS.step g55
  clear g55 p0 p1 p2 p3
  go_wp2_with fail
  refine (implPackRow_any f t k v s _ hM).mono ?_
  rintro e w6 ⟨x, m, rfl, g6, y6⟩
  rw [HZ.out, HQ.out, HN.out]
  rw [HZ.out] at y6
  have hS := hS.step g6
  clear g6
  obtain ⟨x0, x1⟩ := hS.ra
  have hlt : w1.heap.size < w6.heap.size := by have := hS.sw; have := hS.sa; have := hS.sl; have := hS.sb; omega
  go_wp2_with fail
  refine (eqBytesResult_same q x a _ _ _ _ zs n m c _ HN.out hm (y6.below (by go_grown)) (hS.step (by go_grown)).ya).mono ?_
  rintro e w7 ⟨rfl, g7⟩
  have hS := hS.step (Below.trans (by go_grown) (g7.mono (by simp)))
  clear g7 x0 x1 hlt y6
  obtain ⟨p0, p1⟩ := hS.rb
  go_wp2_with fail
  refine (heldBytesResult_any q b _ _ zs n d 1 _ HN.out hm (by omega) (by omega) hS.yb).mono ?_
  rintro e w8 ⟨rfl, g8⟩
  have hS := hS.step g8
  clear g8 p0 p1
  go_wp2_with fail
  go_ret
  exact ⟨rfl, hS.g⟩

theorem lawPackRow_any (f t k v : Int) (s : ByteArray) (w : World) (_ : (Lit.int .i64 f).wf = true) (hm : s.size ≤ maxLen) :
    Calls Try.prog 6 #[.int .i64 f, .agg #[.int .i64 t, .int .i64 k, .int .i64 v, .string s]] w fun e w' => e = .returned (.bool true) ∧ Below w.heap.size w w' := by
  by_cases hs : 1048576 < s.size
  · exact lawPackRow_over f t k v s w hm hs
  · exact lawPackRow_fits f t k v s w hm (by omega)

end Go.Proofs.Ytnhfimgjljmfoaa
