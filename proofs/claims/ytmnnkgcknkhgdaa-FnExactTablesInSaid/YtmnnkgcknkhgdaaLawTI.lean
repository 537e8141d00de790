/-
  The law FnExactTablesIn answers true.
-/
import Derived.Test.YtmnnkgcknkhgdaaTbl
import Derived.Test.YtmnnkgcknkhgdaaMkw
namespace Go.Proofs.Ytmnnkgcknkhgdaa
open Go.RowKit
set_option linter.unusedVariables false

theorem TiPost.form {rs : List Rw} {w w' : World} {e : Ending} (h : TiPost rs w e w') : ∃ a c, e = .returned (.agg #[.int .i64 (rowsQ rs), .slice a (tiL rs).length c]) ∧ Below w.heap.size w w' ∧ SlIn rwE 4 w.heap.size w'.heap.size w' a (tiL rs) := by
  obtain ⟨v, rfl, g, ho⟩ := h
  obtain ⟨a, c, rfl, _, hs, _⟩ := SlIn.ofRow rwE_len ho
  exact ⟨a, c, rfl, g, hs⟩

theorem tiL_len (rs : List Rw) : (tiL rs).length ≤ 1000 := by
  unfold tiL
  split
  · rename_i h
    exact Nat.le_trans (tabL_len rs) (by have := rowsQ_few h; omega)
  · simp

set_option maxRecDepth 20000 in
set_option maxHeartbeats 4000000 in
theorem lawTablesIn_any (a : Option Addr) (n c : Nat) (bs : List Rw) (w : World) (h : IsRows w a n bs) :
    Calls Try.prog 3 #[.slice a n c] w fun e w' => e = .returned (.bool true) ∧ Below w.heap.size w w' := by
  obtain ⟨hr, hn, hm, hs, _⟩ := h
  have HR : Hid (∀ W, Below w.heap.size w W → Rs rwE 4 W a bs) := fun W hW => hr.below hW (Nat.le_refl _)
  have HN : Hid (bs.length = n) := hn
  have HS : Hid (∀ r ∈ bs, r.s.size ≤ maxLen) := hs
  obtain ⟨q, hq⟩ : ∃ q, q = rowsQ bs := ⟨_, rfl⟩
  have HQ : Hid (rowsQ bs = q) := hq.symm
  obtain ⟨m, hm0⟩ : ∃ m, m = (tiL bs).length := ⟨_, rfl⟩
  have HM : Hid ((tiL bs).length = m) := hm0.symm
  have hm1 : m ≤ 1000 := by rw [hm0]; exact tiL_len bs
  clear hq hr hn hs hm0
  go_enter Try.func3, Try.ntmps3
  go_wp2_with fail
  refine (szRowS_any a bs n c _ 1048576 HN.out hm HS.out (HR.out _ (Below.refl _ _)) (by omega) (by omega)).mono ?_
  rintro e w2 ⟨⟨r, rfl, hr1, hl⟩, g2⟩
  by_cases h0 : r < 0
  · go_wp2_with fail
    go_ret
    exact ⟨rfl, g2⟩
  have hn : n ≤ 1048576 := (hl (by omega)).1
  have HZ : Hid (∀ x ∈ bs, x.s.size ≤ 1048576) := (hl (by omega)).2
  have h0 : ¬ (r < 0) := h0
  clear hl
  go_wp2_with fail
  refine (toRowS_any a bs n c _ HN.out hn (HR.out _ g2)).mono ?_
  rintro e w4 ⟨rfl, g4, o3⟩
  have hs23 := g2.size
  have g4 : Below w.heap.size w w4 := g2.trans (g4.mono g2.size)
  generalize w2.heap.size = b2 at o3 hs23 ⊢
  clear g2
  go_wp2_with fail
  refine (specTablesIn_any _ bs n n _ HN.out (by omega) HS.out o3.reads).mono ?_
  rintro e w5 hco
  obtain ⟨a3, c3, rfl, g5, s3⟩ := hco.form
  have hs4 := g4.size
  have hs5 := g5.size
  rw [HQ.out, HM.out]
  have g5 : Below w.heap.size w w5 := g4.trans (g5.mono g4.size)
  clear o3 hco g4
  go_upto_region 6 with (fail)
  generalize hY : World.alloc _ _ = Y
  have gY : Below w5.heap.size w5 Y := by rw [← hY]; go_grown
  have C3 : RsC Y w5.heap.size q a3 m c3 := by rw [← hY]; exact ⟨by simp [go_sem], by simp [go_sem]⟩
  have s3 := s3.below gY
  have hl3 := C3.lt
  have g5 := g5.trans (gY.mono g5.size)
  clear hY gY
  generalize w5.heap.size = b3 at C3 s3 hl3 hs5 ⊢
  generalize w4.heap.size = b4 at s3 hs5 hs4
  go_wp2_with fail
  refine (toRowS_any a bs n c _ HN.out hn (HR.out _ g5)).mono ?_
  rintro e w7 ⟨rfl, g6, o6⟩
  have C3 := C3.below g6
  have s3 := s3.below g6
  have hs6 := g6.size
  have g7 : Below w.heap.size w w7 := g5.trans (g6.mono g5.size)
  generalize Y.heap.size = b6 at o6 hl3 hs6 ⊢
  clear g5
  go_wp2_with fail
  refine (implTablesIn_any _ bs n n _ HN.out (by omega) HZ.out o6.reads).mono ?_
  rintro e w8 hco
  obtain ⟨a5, c5, rfl, g8, s5⟩ := hco.form
  rw [HQ.out, HM.out]
  have hs8 := g8.size
  have C3 := C3.below g8
  have s3 := s3.below g8
  have o6 := o6.below g8
  have g8 : Below w.heap.size w w8 := g7.trans (g8.mono g7.size)
  clear g7 hco
  go_upto_region 8 with (fail)
  generalize hY : World.alloc _ _ = Y5
  have gY : Below w8.heap.size w8 Y5 := by rw [← hY]; go_grown
  have C5 : RsC Y5 w8.heap.size q a5 m c5 := by rw [← hY]; exact ⟨by simp [go_sem], by simp [go_sem]⟩
  have C3 := C3.below gY
  have s3 := s3.below gY
  have s5 := s5.below gY
  have o6 := o6.below gY
  have g8 := g8.trans (gY.mono g8.size)
  clear hY gY
  generalize w8.heap.size = b5 at C5 s5 hs8 ⊢
  generalize w7.heap.size = b8 at s5 o6 hs8 hs6
  have hcon := eqRowsResult_same q a5 a3 (tiL bs) m c5 c3 Y5 HM.out hm1 s5.reads s3.reads
  obtain ⟨x0, x1⟩ := C3
  obtain ⟨y0, y1⟩ := C5
  go_wp2_with (go_at_call 8; refine hcon.mono ?_)
  rintro e w9 ⟨rfl, g9⟩
  have C3 : RsC w9 b3 q a3 m c3 := RsC.below (w := Y5) ⟨x0, x1⟩ g9
  have C5 : RsC w9 b5 q a5 m c5 := RsC.below (w := Y5) ⟨y0, y1⟩ g9
  have s3 := s3.below g9
  have s5 := s5.below g9
  have o6 := o6.below g9
  have g9 := g8.trans (g9.mono g8.size)
  clear g8 x0 x1 y0 y1 hcon
  go_wp2_with fail
  refine (toRowS_any a bs n c _ HN.out hn (HR.out _ g9)).mono ?_
  rintro e w10 ⟨rfl, g10, p10⟩
  have C3 := C3.below g10
  have C5 := C5.below g10
  have s3 := s3.below g10
  have s5 := s5.below g10
  have o6 := o6.below g10
  have g10 : Below w.heap.size w w10 := g9.trans (g10.mono g9.size)
  generalize w9.heap.size = b at p10 ⊢
  clear g9
  go_wp2_with fail
  refine (eqRowS_same _ _ bs n n n _ HN.out (by omega) o6.reads p10.reads).mono ?_
  rintro e w13 ⟨rfl, g11⟩
  have C3 := C3.below g11
  have C5 := C5.below g11
  have s3 := s3.below g11
  have s5 := s5.below g11
  have o6 := o6.below g11
  have g13 : Below w.heap.size w w13 := g10.trans (g11.mono g10.size)
  clear g10 p10
  go_wp2_with fail
  refine (markRowS_wide _ _ _ bs n n 1 _ HN.out hn (by omega) (by omega) o6).mono ?_
  rintro e w15 ⟨rfl, t14, _⟩
  have C3 := C3.turned t14 (.inl (by omega))
  have C5 := C5.turned t14 (.inr (by omega))
  have s3 := s3.turned t14 (.inl (by omega))
  have s5 := s5.turned t14 (.inr (by omega))
  have hs13 := g13.size
  have g15 : Below w.heap.size w w15 := g13.trans (t14.toBelow hs13 (by omega))
  clear g13 t14 o6
  obtain ⟨k2, hk2⟩ : ∃ k : Int, k = ((1 + 4 * n : Nat) : Int) := ⟨_, rfl⟩
  have hk20 : ¬ (k2 < 0) := by omega
  rw [← hk2]
  clear hk2
  obtain ⟨x0, x1⟩ := C3
  obtain ⟨y0, y1⟩ := C5
  have hcon := eqRowsResult_same q a5 a3 (tiL bs) m c5 c3 w15 HM.out hm1 s5.reads s3.reads
  go_wp2_with (go_at_call 8; refine hcon.mono ?_)
  rintro e w16 ⟨rfl, g16⟩
  have C3 : RsC w16 b3 q a3 m c3 := RsC.below (w := w15) ⟨x0, x1⟩ g16
  have C5 : RsC w16 b5 q a5 m c5 := RsC.below (w := w15) ⟨y0, y1⟩ g16
  have s3 := s3.below g16
  have s5 := s5.below g16
  have g16 := g15.trans (g16.mono g15.size)
  clear g15 x0 x1 y0 y1 hcon
  obtain ⟨y0, y1⟩ := C5
  have hcon := markRowsResult_any q a5 b8 b5 (tiL bs) m c5 w16 HM.out hm1 s5
  obtain ⟨mm, hmm⟩ : ∃ mm : Int, mm = ((1 + 4 * m : Nat) : Int) := ⟨_, rfl⟩
  have hmm0 : ¬ mm < 0 := by omega
  have HMM : Hid (((1 + 4 * m : Nat) : Int) = mm) := hmm.symm
  rw [← hmm] at hcon
  clear hmm
  go_wp2_with (go_at_call 11; refine hcon.mono ?_)
  rintro e w17 ⟨rfl, t17, s5'⟩
  have C3 := C3.turned t17 (.inl (by omega))
  have C5 : RsC w17 b5 q a5 m c5 := RsC.turned (w := w16) ⟨y0, y1⟩ t17 (.inr (Nat.le_refl _))
  have s3 := s3.turned t17 (.inl (by omega))
  have hs16 := g16.size
  have g17 : Below w.heap.size w w17 := g16.trans (t17.toBelow hs16 (by omega))
  clear g16 t17 y0 y1 hcon s5
  obtain ⟨y0, y1⟩ := C5
  have hcon := heldRowsResult_any q a5 m c5 w17 hm1 s5'.reads
  rw [HMM.out] at hcon
  go_wp2_with (go_at_call 12; refine hcon.mono ?_)
  rintro e w18 ⟨rfl, g18⟩
  have C3 := C3.below g18
  have C5 : RsC w18 b5 q a5 m c5 := RsC.below (w := w17) ⟨y0, y1⟩ g18
  have s3 := s3.below g18
  have s5 := s5'.below g18
  have g18 := g17.trans (g18.mono g17.size)
  clear g17 y0 y1 hcon s5'
  go_wp2_with fail
  refine (toRowS_any a bs n c _ HN.out hn (HR.out _ g18)).mono ?_
  rintro e w20 ⟨rfl, g19, o19⟩
  have C3 := C3.below g19
  have C5 := C5.below g19
  have s3 := s3.below g19
  have s5 := s5.below g19
  have g20 : Below w.heap.size w w20 := g18.trans (g19.mono g18.size)
  generalize w18.heap.size = b19 at o19 ⊢
  clear g18
  go_wp2_with fail
  refine (implTablesIn_any _ bs n n _ HN.out (by omega) HZ.out o19.reads).mono ?_
  rintro e w21 hco
  obtain ⟨a14, c14, rfl, g21, s14⟩ := hco.form
  rw [HQ.out, HM.out]
  have C3 := C3.below g21
  have C5 := C5.below g21
  have s3 := s3.below g21
  have s5 := s5.below g21
  have s14 := s14.reads
  have g21 : Below w.heap.size w w21 := g20.trans (g21.mono g20.size)
  clear g20 o19 hco
  go_upto_region 25 with (fail)
  generalize hY : World.alloc _ _ = Y14
  have gY : Below w21.heap.size w21 Y14 := by rw [← hY]; go_grown
  have C14 : RsC Y14 w21.heap.size q a14 m c14 := by rw [← hY]; exact ⟨by simp [go_sem], by simp [go_sem]⟩
  have C3 := C3.below gY
  have C5 := C5.below gY
  have s3 := s3.below gY
  have s5 := s5.below gY
  have s14 := s14.below gY (Nat.le_refl _)
  have g21 := g21.trans (gY.mono g21.size)
  clear hY gY
  generalize w21.heap.size = b14 at C14 ⊢
  have hcon := eqRowsResult_same q a14 a3 (tiL bs) m c14 c3 Y14 HM.out hm1 s14 s3.reads
  obtain ⟨x0, x1⟩ := C3
  obtain ⟨z0, z1⟩ := C14
  go_wp2_with (go_at_call 8; refine hcon.mono ?_)
  rintro e w22 ⟨rfl, g22⟩
  have C5 := C5.below g22
  have s5 := s5.below g22
  have g22 := g21.trans (g22.mono g21.size)
  clear g21 x0 x1 z0 z1 hcon s14 s3
  obtain ⟨y0, y1⟩ := C5
  have hcon := heldRowsResult_any q a5 m c5 w22 hm1 s5.reads
  rw [HMM.out] at hcon
  go_wp2_with (go_at_call 12; refine hcon.mono ?_)
  rintro e w23 ⟨rfl, g23⟩
  have g23 := g22.trans (g23.mono g22.size)
  clear g22 hcon y0 y1
  go_wp2_with fail
  go_ret
  exact ⟨rfl, g23⟩

end Go.Proofs.Ytmnnkgcknkhgdaa

