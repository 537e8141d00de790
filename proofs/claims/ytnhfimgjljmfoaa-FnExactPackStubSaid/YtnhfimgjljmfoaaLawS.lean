/-
  The law FnExactPackStub answers true at every two numbers.
-/
import Derived.Test.YtnhfimgjljmfoaaStub
import Derived.Test.YtnhfimgjljmfoaaPair
namespace Go.Proofs.Ytnhfimgjljmfoaa
open Go.RowKit

set_option maxHeartbeats 1000000 in
theorem lawPackStub_any (p s : Int) (w : World) (_ : (Lit.int .i64 p).wf = true) (_ : (Lit.int .i64 s).wf = true) :
    Calls Try.prog 7 #[.int .i64 p, .int .i64 s] w fun e w' => e = .returned (.bool true) ∧ Below w.heap.size w w' := by
  have hsm := stubBytes_small p s
  generalize hzs : stubBytes p s = zs at hsm
  generalize hq : stubCode p s = q
  have HZ : Hid (stubBytes p s = zs) := hzs
  have HQ : Hid (stubCode p s = q) := hq
  clear hzs hq
  obtain ⟨n, hn⟩ : ∃ n, zs.length = n := ⟨_, rfl⟩
  rw [hn] at hsm
  have HN : Hid (zs.length = n) := hn
  clear hn
  have hm : n ≤ 140737488351232 := by omega
  go_enter Try.func7, Try.ntmps7
  go_wp2_with fail
  refine (specPackStub_any p s _).mono ?_
  rintro e w1 ⟨a, c, rfl, g1, y1⟩
  rw [HZ.out, HQ.out, HN.out]
  rw [HZ.out] at y1
  go_wp2_with fail
  refine (implPackStub_any p s _).mono ?_
  rintro e w2 ⟨b, d, rfl, g2, y2⟩
  rw [HZ.out, HQ.out, HN.out]
  rw [HZ.out] at y2
  simp only [World.size_alloc] at y2
  have h1 := g1.size
  have hlt : w1.heap.size < w2.heap.size := by have h2 := g2.size; simp only [World.size_alloc] at h2; omega
  have r1 : ResAt w2 w1.heap.size q a n c := ResAt.below ⟨by simp [go_sem], by simp [go_sem]⟩ g2
  have hS : PairSt w q zs zs n w1.heap.size a c w2.heap.size b d (w1.heap.size + 1) w2.heap.size (w2.alloc (.cells #[.int .i64 q, .slice b n d] 32)) := by
    have g3 : Below w.heap.size w w2 := g1.trans (Below.trans (by go_grown) (g2.mono (by simp; omega)))
    exact ⟨r1.below (by go_grown), ⟨by simp [go_sem], by simp [go_sem]⟩, (((y1.below (by go_grown)).below g2).below (by go_grown)).mono (Nat.le_refl _) (by omega), y2.below (by go_grown), by omega, by omega, by omega, by simp, by omega, g3.alloc g3.size _⟩
  clear g1 g2 y1 y2 h1
  obtain ⟨x0, x1⟩ := r1
  go_wp2_with fail
  refine (eqBytesResult_same q b a _ _ _ _ zs n d c _ HN.out hm hS.yb hS.ya).mono ?_
  rintro e w3 ⟨rfl, g3⟩
  have hS := hS.step g3
  clear g3 x0 x1 hlt
  obtain ⟨p0, p1⟩ := hS.rb
  go_wp2_with fail
  refine (markBytesResult_any q b _ _ zs n d 1 _ HN.out hm (by omega) (by omega) hS.yb).mono ?_
  rintro e w4 ⟨rfl, t4, y4⟩
  have hS := hS.turn t4 y4
  clear t4 y4 p0 p1
  obtain ⟨p0, p1⟩ := hS.rb
  go_wp2_with fail
  refine (heldBytesResult_any q b _ _ zs n d 1 _ HN.out hm (by omega) (by omega) hS.yb).mono ?_
  rintro e w5 ⟨rfl, g5⟩
  have hS := hS.step g5
  clear g5 p0 p1
  have hpos : ¬ (1 + (n : Int) < 0) := by omega
  go_wp2_with fail
  refine (implPackStub_any p s _).mono ?_
  rintro e w6 ⟨f, m, rfl, g6, y6⟩
  rw [HZ.out, HQ.out, HN.out]
  rw [HZ.out] at y6
  have hS := hS.step g6
  clear g6
  obtain ⟨x0, x1⟩ := hS.ra
  have hlt : w1.heap.size < w6.heap.size := by have := hS.sw; have := hS.sa; have := hS.sl; have := hS.sb; omega
  go_wp2_with fail
  refine (eqBytesResult_same q f a _ _ _ _ zs n m c _ HN.out hm (y6.below (by go_grown)) (hS.step (by go_grown)).ya).mono ?_
  rintro e w7 ⟨rfl, g7⟩
  have hS := hS.step (Below.trans (by go_grown) (g7.mono (by simp)))
  clear g7 x0 x1 hlt y6
  obtain ⟨p0, p1⟩ := hS.rb
  go_wp2_with fail
  refine (heldBytesResult_any q b _ _ zs n d 1 _ HN.out hm (by omega) (by omega) hS.yb).mono ?_
  rintro e w8 ⟨rfl, g8⟩
  have hS := hS.step g8
  clear g8 p0 p1
  go_wp2_with fail
  go_ret
  exact ⟨rfl, hS.g⟩

end Go.Proofs.Ytnhfimgjljmfoaa
