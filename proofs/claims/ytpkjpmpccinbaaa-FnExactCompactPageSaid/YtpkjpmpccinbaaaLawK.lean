/-
  The law FnExactCompactPage answers true at all bytes.
-/
import Derived.Test.YtpkjpmpccinbaaaScp
import Derived.Test.YtpkjpmpccinbaaaLawP
namespace Go.Proofs.Ytpkjpmpccinbaaa
open Go.RowKit
set_option linter.unusedVariables false

set_option maxHeartbeats 400000 in
theorem lawCompactPage_over (a : Option Addr) (n c : Nat) (w : World) (hs : 1048576 < n) :
    Calls Try.prog 12 #[.slice a n c] w fun e w' => e = .returned (.bool true) ∧ Below w.heap.size w w' := by
  have d : (1048576 : Int) < (n : Int) := by omega
  go_enter Try.func12, Try.ntmps12
  go_wp2_with fail
  go_ret
  exact ⟨rfl, Below.refl _ _⟩

theorem cqB_small (zs : List Int) (h : ∀ z ∈ zs, 0 ≤ z ∧ z ≤ 255) : (cqB zs).length ≤ 64 := by
  unfold cqB
  split
  · rename_i hq
    have hF := fine_of h hq
    rw [(both_all hF (nb zs 0) (Nat.le_refl _)).pg.len]
    exact Nat.le_refl _
  · simp

set_option maxHeartbeats 4000000 in
theorem lawCompactPage_fits (a : Option Addr) (zs : List Int) (n c : Nat) (w : World) (hn : zs.length = n) (hs : n ≤ 1048576) (ha : Reads w a zs) (hz : ∀ z ∈ zs, 0 ≤ z ∧ z ≤ 255) :
    Calls Try.prog 12 #[.slice a n c] w fun e w' => e = .returned (.bool true) ∧ Below w.heap.size w w' := by
  have hsm := cqB_small zs hz
  obtain ⟨q, hq⟩ : ∃ q, q = cqQ zs := ⟨_, rfl⟩
  obtain ⟨us, hus⟩ : ∃ us, us = cqB zs := ⟨_, rfl⟩
  obtain ⟨m, hml⟩ : ∃ m, m = us.length := ⟨_, rfl⟩
  have HQ : Hid (cqQ zs = q) := hq.symm
  have HU : Hid (cqB zs = us) := hus.symm
  have HM : Hid (us.length = m) := hml.symm
  rw [← hus, ← hml] at hsm
  have HN : Hid (zs.length = n) := hn
  clear hq hus hml hn
  have d : ¬ ((1048576 : Int) < (n : Int)) := by omega
  have hm : n ≤ 140737488351232 := by omega
  have hm2 : m ≤ 140737488351232 := by omega
  go_enter Try.func12, Try.ntmps12
  go_wp2_with fail
  refine (toByteS_any a zs n c _ HN.out hs ha).mono ?_
  rintro e w1 ⟨rfl, g1, y1⟩
  go_wp2_with fail
  refine (specCompactPage_any _ zs n n _ HN.out hs (Nat.le_refl _) y1.reads hz).mono ?_
  rintro e w2 ⟨a2, c2', rfl, g2, y2⟩
  rw [HQ.out, HU.out, HM.out]
  rw [HU.out] at y2
  have g : Below w.heap.size w w2 := g1.trans (g2.mono g1.size)
  have h12 := g1.size
  clear g1 g2 y1
  go_wp2_with fail
  have g3 : Below w.heap.size w (w2.alloc (.cells #[.int .i64 q, .int .i64 0, .slice a2 m c2'] 27)) := g.alloc g.size _
  refine (toByteS_any a zs n c _ HN.out hs (ha.below g3 (Nat.le_refl _))).mono ?_
  rintro e w3 ⟨rfl, g4, y3⟩
  have r3 : PAt w3 w2.heap.size q 0 a2 m c2' := PAt.below ⟨by simp [go_sem], by simp [go_sem], by simp [go_sem]⟩ g4
  have ya3 : BytesIn w.heap.size (w2.heap.size + 1) w3 a2 us := ((y2.below (by go_grown)).below g4).mono (by omega) (by omega)
  have hg2 := g.size
  have g : Below w.heap.size w w3 := g3.trans (g4.mono g3.size)
  have h23 := g4.size
  simp only [World.size_alloc] at y3 h23
  clear g3 g4 y2
  go_wp2_with fail
  refine (implCompactPage_any _ zs n n _ HN.out hs (Nat.le_refl _) y3.reads hz).mono ?_
  rintro e w4 ⟨b4, d4, rfl, g5, y4⟩
  rw [HQ.out, HU.out, HM.out]
  rw [HU.out] at y4
  have hS : QuadSt w q 0 us zs [] us m w2.heap.size a2 c2' w4.heap.size b4 d4 (some ⟨w2.heap.size + 1, 0, none⟩) none (w2.heap.size + 1) w3.heap.size w3.heap.size w4.heap.size (w4.alloc (.cells #[.int .i64 q, .int .i64 0, .slice b4 m d4] 27)) := by
    have h34 := g5.size
    have gg := g.trans (g5.mono g.size)
    exact ⟨(r3.below g5).below (by go_grown), ⟨by simp [go_sem], by simp [go_sem], by simp [go_sem]⟩, (ya3.below g5).below (by go_grown), (y3.below g5).below (by go_grown), (.inl rfl), y4.below (by go_grown), by omega, Nat.le_refl _, by simp, by omega, h23, Nat.le_refl _, h34, gg.alloc gg.size _⟩
  have hlt : w2.heap.size < w4.heap.size := by have := g5.size; omega
  obtain ⟨x0, x1, x2⟩ := r3.below g5
  clear g5 y3 y4 ya3 r3
  go_wp2_with fail
  refine (eqPageResult_same q 0 b4 a2 _ _ _ _ us m d4 c2' _ HM.out hm2 hS.yb hS.ya).mono ?_
  rintro e w5 ⟨rfl, g6⟩
  have hS := hS.step g6
  clear g6 x0 x1 x2 hlt
  go_wp2_with fail
  refine (toByteS_any a zs n c _ HN.out hs (ha.below hS.g (Nat.le_refl _))).mono ?_
  rintro e w6 ⟨rfl, g7, y7⟩
  have hS := hS.step g7
  clear g7
  go_wp2_with fail
  refine (eqByteS_same _ _ _ _ _ _ zs n n n _ HN.out hm hS.yx y7).mono ?_
  rintro e w7 ⟨rfl, k, rfl⟩
  have hS := hS.step (V := w6.drewN k) (below_draws (Below.refl _ _) _)
  clear y7
  generalize w6.drewN k = W7 at hS
  go_wp2_with fail
  refine (markByteS_any _ _ _ zs n n 1 _ HN.out hm (by omega) (by omega) hS.yx).mono ?_
  rintro e w8 ⟨rfl, t8, y8⟩
  have hS := hS.turnX t8 y8
  clear t8 y8
  have hpos : ¬ (1 + (n : Int) < 0) := by omega
  have dpos : decide (1 + (n : Int) < 0) = false := by simpa using hpos
  obtain ⟨p0, p1, p2⟩ := hS.rb
  obtain ⟨x0, x1, x2⟩ := hS.ra
  go_wp2_with fail
  refine (eqPageResult_same q 0 b4 a2 _ _ _ _ us m d4 c2' _ HM.out hm2 hS.yb hS.ya).mono ?_
  rintro e w9 ⟨rfl, g9⟩
  have hS := hS.step g9
  clear g9 p0 p1 p2 x0 x1 x2
  obtain ⟨p0, p1, p2⟩ := hS.rb
  go_wp2_with fail
  refine (markPageResult_any q 0 b4 _ _ us m d4 1 _ HM.out hm2 (by omega) (by omega) hS.yb).mono ?_
  rintro e w10 ⟨rfl, t10, y10⟩
  have hS := hS.turnB t10 y10
  clear t10 y10 p0 p1 p2
  obtain ⟨p0, p1, p2⟩ := hS.rb
  go_wp2_with fail
  refine (heldPageResult_any q 0 b4 _ _ us m d4 1 _ HM.out hm2 (by omega) (by omega) hS.yb).mono ?_
  rintro e w11 ⟨rfl, g11⟩
  have hS := hS.step g11
  clear g11 p0 p1 p2
  have hpos2 : ¬ (1 + (m : Int) < 0) := by omega
  go_wp2_with fail
  refine (toByteS_any a zs n c _ HN.out hs (ha.below hS.g (Nat.le_refl _))).mono ?_
  rintro e w12 ⟨rfl, g12, y12⟩
  have hS := hS.step g12
  clear g12
  go_wp2_with fail
  refine (implCompactPage_any _ zs n n _ HN.out hs (Nat.le_refl _) y12.reads hz).mono ?_
  rintro e w13 ⟨b13, d13, rfl, g13, y13⟩
  rw [HQ.out, HU.out, HM.out]
  rw [HU.out] at y13
  have hS := hS.step g13
  clear g13 y12
  obtain ⟨x0, x1, x2⟩ := hS.ra
  have hlt : w2.heap.size < w13.heap.size := World.block_lt_of_cell? w13 _ x0
  go_wp2_with fail
  refine (eqPageResult_same q 0 b13 a2 _ _ _ _ us m d13 c2' _ HM.out hm2 (y13.below (by go_grown)) (hS.step (by go_grown)).ya).mono ?_
  rintro e w14 ⟨rfl, g14⟩
  have hS := hS.step (Below.trans (by go_grown) (g14.mono (by simp)))
  clear g14 x0 x1 x2 hlt y13
  obtain ⟨p0, p1, p2⟩ := hS.rb
  go_wp2_with fail
  refine (heldPageResult_any q 0 b4 _ _ us m d4 1 _ HM.out hm2 (by omega) (by omega) hS.yb).mono ?_
  rintro e w15 ⟨rfl, g15⟩
  have hS := hS.step g15
  clear g15 p0 p1 p2
  go_wp2_with fail
  go_ret
  exact ⟨rfl, hS.g⟩

theorem lawCompactPage_any (a : Option Addr) (n c : Nat) (zs : List Int) (w : World) (h : IsRow .u8 w a n c zs) :
    Calls Try.prog 12 #[.slice a n c] w fun e w' => e = .returned (.bool true) ∧ Below w.heap.size w w' := by
  obtain ⟨hn, _, hr, hz⟩ := isRow_reads h
  by_cases hs : 1048576 < n
  · exact lawCompactPage_over a n c w hs
  · exact lawCompactPage_fits a (zs.take n) n c w hn (by omega) hr hz

end Go.Proofs.Ytpkjpmpccinbaaa
