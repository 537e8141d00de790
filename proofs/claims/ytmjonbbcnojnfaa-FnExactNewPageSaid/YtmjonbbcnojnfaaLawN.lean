/-
  The law FnExactNewPage answers true at every byte.
-/
import Derived.Test.YtmjonbbcnojnfaaPair
namespace Go.Proofs.Ytmjonbbcnojnfaa
open Go.RowKit

set_option maxHeartbeats 1000000 in
theorem lawNewPage_any (f : Int) (w : World) (_ : (Lit.int .u8 f).wf = true) :
    Calls Try.prog 6 #[.int .u8 f] w fun e w' => e = .returned (.bool true) ∧ Below w.heap.size w w' := by
  have hl : (newBytes f).length = 64 := rfl
  have HL : Hid ((newBytes f).length = 64) := hl
  clear hl
  go_enter Try.func6, Try.ntmps6
  go_wp2_with fail
  refine (specNewPage_any f _).mono ?_
  rintro e w1 ⟨rfl, g1, y1⟩
  go_wp2_with fail
  refine (implNewPage_any f _).mono ?_
  rintro e w2 ⟨rfl, g2, a2⟩
  simp only [World.size_alloc] at a2
  have hb2 : w1.heap.size + 1 + 1 < w2.heap.size := a2.lt
  have y2 : BytesIn (w1.heap.size + 1) w2.heap.size w2 (some ⟨w1.heap.size + 1 + 1, 0, none⟩) (newBytes f) := a2.bytes (by omega) (by omega)
  have h1 := g1.size
  have hlt : w1.heap.size < w2.heap.size := by omega
  have r1 : PAt w2 w1.heap.size 0 0 (some ⟨w.heap.size + 1, 0, none⟩) 64 64 := PAt.below ⟨by simp [go_sem], by simp [go_sem], by simp [go_sem]⟩ g2
  have hS : PPair w 0 0 (newBytes f) (newBytes f) 64 w1.heap.size (some ⟨w.heap.size + 1, 0, none⟩) 64 w2.heap.size (some ⟨w1.heap.size + 1 + 1, 0, none⟩) 64 (w1.heap.size + 1) w2.heap.size (w2.alloc (.cells #[.int .i64 0, .int .i64 0, .slice (some ⟨w1.heap.size + 1 + 1, 0, none⟩) 64 64] 27)) := by
    have g3 : Below w.heap.size w w2 := g1.trans (Below.trans (by go_grown) (g2.mono (by simp; omega)))
    exact ⟨r1.below (by go_grown), ⟨by simp [go_sem], by simp [go_sem], by simp [go_sem]⟩, (((y1.below (by go_grown)).below g2).below (by go_grown)).mono (Nat.le_refl _) (by omega), y2.below (by go_grown), by omega, by omega, by omega, by simp, by omega, g3.alloc g3.size _⟩
  clear g1 g2 y1 y2 h1 a2 hb2
  obtain ⟨x0, x1, x2⟩ := r1
  go_wp2_with fail
  refine (eqPageResult_same 0 0 _ _ _ _ _ _ (newBytes f) 64 64 64 _ HL.out (by omega) hS.yb hS.ya).mono ?_
  rintro e w3 ⟨rfl, g3⟩
  have hS := hS.step g3
  clear g3 x0 x1 x2 hlt
  obtain ⟨p0, p1, p2⟩ := hS.rb
  go_wp2_with fail
  refine (markPageResult_any 0 0 _ _ _ (newBytes f) 64 64 1 _ HL.out (by omega) (by omega) (by omega) hS.yb).mono ?_
  rintro e w4 ⟨rfl, t4, y4⟩
  have hS := hS.turn t4 y4
  clear t4 y4 p0 p1 p2
  obtain ⟨p0, p1, p2⟩ := hS.rb
  go_wp2_with fail
  refine (heldPageResult_any 0 0 _ _ _ (newBytes f) 64 64 1 _ HL.out (by omega) (by omega) (by omega) hS.yb).mono ?_
  rintro e w5 ⟨rfl, g5⟩
  have hS := hS.step g5
  clear g5 p0 p1 p2
  go_wp2_with fail
  refine (implNewPage_any f _).mono ?_
  rintro e w6 ⟨rfl, g6, a6⟩
  have hb6 : w5.heap.size + 1 < w6.heap.size := a6.lt
  have y6 : BytesIn w5.heap.size w6.heap.size w6 (some ⟨w5.heap.size + 1, 0, none⟩) (newBytes f) := a6.bytes (by omega) (by omega)
  have hS := hS.step g6
  clear g6 a6
  obtain ⟨x0, x1, x2⟩ := hS.ra
  have hlt : w1.heap.size < w6.heap.size := by have := hS.sw; have := hS.sa; have := hS.sl; have := hS.sb; omega
  go_wp2_with fail
  refine (eqPageResult_same 0 0 _ _ _ _ _ _ (newBytes f) 64 64 64 _ HL.out (by omega) (y6.below (by go_grown)) (hS.step (by go_grown)).ya).mono ?_
  rintro e w7 ⟨rfl, g7⟩
  have hS := hS.step (Below.trans (by go_grown) (g7.mono (by simp)))
  clear g7 x0 x1 x2 hlt y6 hb6
  obtain ⟨p0, p1, p2⟩ := hS.rb
  go_wp2_with fail
  refine (heldPageResult_any 0 0 _ _ _ (newBytes f) 64 64 1 _ HL.out (by omega) (by omega) (by omega) hS.yb).mono ?_
  rintro e w8 ⟨rfl, g8⟩
  have hS := hS.step g8
  clear g8 p0 p1 p2
  go_wp2_with fail
  go_ret
  exact ⟨rfl, hS.g⟩

end Go.Proofs.Ytmjonbbcnojnfaa
