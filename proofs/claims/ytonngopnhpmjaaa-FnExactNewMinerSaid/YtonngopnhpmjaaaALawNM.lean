/-
  The law FnExactNewMiner answers true.
-/
import Derived.Test.YtonngopnhpmjaaaANmi
import Derived.Test.YtonngopnhpmjaaaAOpg

namespace Go.Proofs.Ytonngopnhpmjaaa
open Go.RowKit
set_option linter.unusedVariables false

/-- Seven cells of an answer that is kept. -/
structure RsM (w : World) (b : Nat) (q : Int) (a : Option Addr) (n c : Nat) : Prop where
  c0 : w.cell? ⟨b, 0, none⟩ = some (.int .i64 q)
  c1 : w.cell? ⟨b, 1, none⟩ = some (.bool false)
  c2 : w.cell? ⟨b, 2, none⟩ = some (.bool false)
  c3 : w.cell? ⟨b, 3, none⟩ = some (.int .i64 0)
  c4 : w.cell? ⟨b, 4, none⟩ = some (.slice none 0 0)
  c5 : w.cell? ⟨b, 5, none⟩ = some (.slice a n c)
  c6 : w.cell? ⟨b, 6, none⟩ = some (.slice none 0 0)
section
variable {w w' : World} {b : Nat} {q : Int} {a : Option Addr} {n d : Nat}
theorem RsM.lt (h : RsM w b q a n d) : b < w.heap.size := World.block_lt_of_cell? w _ h.c0
theorem RsM.turned (h : RsM w b q a n d) {lo hi : Nat} (ht : Turned lo hi w w') (hn : b < lo ∨ hi ≤ b) : RsM w' b q a n d := ⟨ht.cell (p := ⟨b, 0, none⟩) h.c0 hn, ht.cell (p := ⟨b, 1, none⟩) h.c1 hn, ht.cell (p := ⟨b, 2, none⟩) h.c2 hn, ht.cell (p := ⟨b, 3, none⟩) h.c3 hn, ht.cell (p := ⟨b, 4, none⟩) h.c4 hn, ht.cell (p := ⟨b, 5, none⟩) h.c5 hn, ht.cell (p := ⟨b, 6, none⟩) h.c6 hn⟩
theorem RsM.below (h : RsM w b q a n d) (hb : Below w.heap.size w w') : RsM w' b q a n d := h.turned (Turned.ofBelow (lo := 0) (hi := 0) hb) (.inr (Nat.zero_le _))
end

set_option maxRecDepth 20000 in
set_option maxHeartbeats 4000000 in
theorem lawNewMiner_any (a : Option Addr) (n c : Nat) (ps : List (List Int)) (w : World) (h : IsPages w a n ps) :
    Calls Try.prog 5 #[.slice a n c] w fun e w' => e = .returned (.bool true) ∧ Below w.heap.size w w' := by
  have hm := h.ln
  have HI : Hid (IsPages w a n ps) := h
  clear h
  go_enter Try.func5, Try.ntmps5
  go_wp2_with fail
  refine (szByteSS_any a ps n c _ 1048576 HI.out (by omega) (by omega)).mono ?_
  rintro e w1 ⟨⟨r, rfl, hr1, hl⟩, hw1⟩
  subst w1
  by_cases h0 : r < 0
  · go_wp2_with fail
    go_ret
    exact ⟨rfl, Below.refl _ _⟩
  obtain ⟨hn, hpo⟩ := hl (by omega)
  have HP : Hid (PgOk ps) := hpo
  have HN : Hid (ps.length = n) := HI.out.eq
  have HR : Hid (PgRead w a ps) := HI.out.rd
  have h0 : ¬ (r < 0) := h0
  have hb2 := nm_big hpo
  have HSpec : Hid (∀ (a : Option Addr) (W : World), PgRdN W a ps → PgRead W a ps → Calls Try.prog 23 #[.slice a n n] W fun e w' => NmPost (viewQ ps) (nmP ps) W e w') := fun a W h1 h2 => specNewMiner_any a ps n n W HN.out hn HP.out h1 h2
  have HImpl : Hid (∀ (a : Option Addr) (W : World), PgRdN W a ps → PgRead W a ps → Calls Try.prog 25 #[.slice a n n] W fun e w' => NmPost (viewQ ps) (nmP ps) W e w') := fun a W h1 h2 => implNewMiner_any a ps n n W HN.out hn HP.out h1 h2
  generalize viewQ ps = q at HSpec HImpl
  generalize nmP ps = qs at HSpec HImpl hb2
  obtain ⟨m2, hm2⟩ : ∃ m2, m2 = qs.length := ⟨_, rfl⟩
  have HM2 : Hid (qs.length = m2) := hm2.symm
  have HB : Hid (bigQ qs ≤ 13000000) := hb2
  clear hl hpo HI hm2 hb2
  go_wp2_with fail
  refine (toByteSS_any a ps n c _ HN.out hn HP.out HR.out).mono ?_
  rintro e w2 ⟨rfl, g2, hl2, F2, o2⟩
  have r2 := o2.reads HN.out
  have n2 := o2.readsN HN.out
  clear o2 hl2 F2
  go_wp2_with fail
  refine (HSpec.out _ _ n2 r2).mono ?_
  rintro e w3 hri
  obtain ⟨a4, c4, rfl, g3, s3⟩ := hri
  have hs3 := g3.size
  rw [HM2.out]
  have g3 : Below w.heap.size w w3 := g2.trans (g3.mono g2.size)
  have hs2 := g2.size
  clear r2 n2 g2
  go_upto_region 6 with (fail)
  generalize hY : World.alloc _ _ = Y
  have gY : Below w3.heap.size w3 Y := by rw [← hY]; go_grown
  have C3 : RsM Y w3.heap.size q a4 m2 c4 := by rw [← hY]; exact ⟨by simp [go_sem], by simp [go_sem], by simp [go_sem], by simp [go_sem], by simp [go_sem], by simp [go_sem], by simp [go_sem]⟩
  have s3 := s3.below gY
  have hl3 := C3.lt
  have g3 := g3.trans (gY.mono g3.size)
  clear hY gY
  generalize w3.heap.size = b3 at C3 s3 hl3 hs3 ⊢
  generalize w2.heap.size = b2 at s3 hs3 hs2
  go_wp2_with fail
  refine (toByteSS_any a ps n c _ HN.out hn HP.out (HR.out.below g3 (Nat.le_refl _))).mono ?_
  rintro e w4 ⟨rfl, g4, hl4, F4, o4⟩
  have C3 := C3.below g4
  have s3 := s3.below g4
  have HF : Hid (∀ i zs, i < n → ps[i]? = some zs → zs ≠ [] → F4 i < w4.heap.size) := fun i zs hi hz hne => o4.lt hi hz hne
  have g4 : Below w.heap.size w w4 := g3.trans (g4.mono g3.size)
  have r4 := o4.reads HN.out
  have n4 := o4.readsN HN.out
  generalize Y.heap.size = b4 at r4 n4 o4 hl4 hl3 ⊢
  clear g3
  go_wp2_with fail
  refine (HImpl.out _ _ n4 r4).mono ?_
  rintro e w5 hri
  obtain ⟨a6, c6, rfl, g5, s5⟩ := hri
  rw [HM2.out]
  have hs5 := g5.size
  have C3 := C3.below g5
  have s3 := s3.below g5
  have o5 := o4.below hl4 g5
  have hl5 := Nat.lt_of_lt_of_le hl4 g5.size
  have g5 : Below w.heap.size w w5 := g4.trans (g5.mono g4.size)
  clear g4 o4 r4 n4
  go_upto_region 8 with (fail)
  generalize hY : World.alloc _ _ = Y5
  have gY : Below w5.heap.size w5 Y5 := by rw [← hY]; go_grown
  have C5 : RsM Y5 w5.heap.size q a6 m2 c6 := by rw [← hY]; exact ⟨by simp [go_sem], by simp [go_sem], by simp [go_sem], by simp [go_sem], by simp [go_sem], by simp [go_sem], by simp [go_sem]⟩
  have C3 := C3.below gY
  have s3 := s3.below gY
  have s5 := s5.below gY
  have o5 := o5.below hl5 gY
  have hl5 := Nat.lt_of_lt_of_le hl5 gY.size
  have g5 := g5.trans (gY.mono g5.size)
  clear hY gY
  generalize w5.heap.size = b5 at C5 s5 hs5 ⊢
  generalize w4.heap.size = b6 at s5 hs5 hl4 HF
  have hcon := eqMi_same q a6 a4 m2 c6 c4 qs _ _ _ _ Y5 HM2.out HB.out s5 s3
  obtain ⟨x0, x1, x2, x3, x4, x5, x6⟩ := C3
  obtain ⟨y0, y1, y2, y3, y4, y5, y6⟩ := C5
  go_wp2_with (go_at_call 26; refine hcon.mono ?_)
  rintro e w6 ⟨rfl, g6⟩
  have C3 : RsM w6 b3 q a4 m2 c4 := RsM.below (w := Y5) ⟨x0, x1, x2, x3, x4, x5, x6⟩ g6
  have C5 : RsM w6 b5 q a6 m2 c6 := RsM.below (w := Y5) ⟨y0, y1, y2, y3, y4, y5, y6⟩ g6
  have s3 := s3.below g6
  have s5 := s5.below g6
  have o6 := o5.below hl5 g6
  have hl6 := Nat.lt_of_lt_of_le hl5 g6.size
  have g6 := g5.trans (g6.mono g5.size)
  clear g5 o5 hl5 x0 x1 x2 x3 x4 x5 x6 y0 y1 y2 y3 y4 y5 y6 hcon
  go_wp2_with fail
  refine (toByteSS_any a ps n c _ HN.out hn HP.out (HR.out.below g6 (Nat.le_refl _))).mono ?_
  rintro e w7 ⟨rfl, g7, hl7, F7, o7⟩
  have C3 := C3.below g7
  have C5 := C5.below g7
  have s3 := s3.below g7
  have s5 := s5.below g7
  have o6 := o6.below hl6 g7
  have hl6 := Nat.lt_of_lt_of_le hl6 g7.size
  have g7 : Below w.heap.size w w7 := g6.trans (g7.mono g6.size)
  generalize w6.heap.size = b7 at o7 hl7 ⊢
  clear g6
  go_wp2_with fail
  refine (eqByteSS_same _ _ ps n F4 F7 _ HN.out hm HP.out o6 o7 hl6 hl7).mono ?_
  rintro e w8 ⟨rfl, g8⟩
  have C3 := C3.below g8
  have C5 := C5.below g8
  have s3 := s3.below g8
  have s5 := s5.below g8
  have o8 := o6.below hl6 g8
  have g8 : Below w.heap.size w w8 := g7.trans (g8.mono g7.size)
  clear g7 o6 o7 hl7
  go_wp2_with fail
  refine (markByteSS_any b4 n n b6 ps F4 _ HN.out hn HP.out o8 HF.out).mono ?_
  rintro e w9 ⟨k9, rfl, hk9, t9⟩
  have hk9 : ¬ k9 < 0 := by omega
  have C3 := C3.turned t9 (.inl (by omega))
  have C5 := C5.turned t9 (.inr (by omega))
  have s3 := s3.turned t9 (.inl (by omega))
  have s5 := s5.turned t9 (.inr (by omega))
  have hs8 := g8.size
  have g9 : Below w.heap.size w w9 := g8.trans (t9.toBelow hs8 (by omega))
  clear g8 o8 t9
  obtain ⟨x0, x1, x2, x3, x4, x5, x6⟩ := C3
  obtain ⟨y0, y1, y2, y3, y4, y5, y6⟩ := C5
  have hcon := eqMi_same q a6 a4 m2 c6 c4 qs _ _ _ _ w9 HM2.out HB.out s5 s3
  go_wp2_with (go_at_call 26; refine hcon.mono ?_)
  rintro e w10 ⟨rfl, g10⟩
  have C3 : RsM w10 b3 q a4 m2 c4 := RsM.below (w := w9) ⟨x0, x1, x2, x3, x4, x5, x6⟩ g10
  have C5 : RsM w10 b5 q a6 m2 c6 := RsM.below (w := w9) ⟨y0, y1, y2, y3, y4, y5, y6⟩ g10
  have s3 := s3.below g10
  have s5 := s5.below g10
  have g10 := g9.trans (g10.mono g9.size)
  clear g9 x0 x1 x2 x3 x4 x5 x6 y0 y1 y2 y3 y4 y5 y6 hcon
  obtain ⟨y0, y1, y2, y3, y4, y5, y6⟩ := C5
  have hb5s : b5 ≤ w10.heap.size := Nat.le_of_lt (World.block_lt_of_cell? w10 _ y0)
  have hcon := markMi_any q a6 m2 c6 qs b6 b5 w10 HM2.out HB.out s5 hb5s
  obtain ⟨mm, hmm⟩ : ∃ mm : Int, mm = endQ qs 1 := ⟨_, rfl⟩
  have hmm0 : ¬ mm < 0 := by have := endQ_pos qs (k := 1) (by omega); omega
  have HMM : Hid (endQ qs 1 = mm) := hmm.symm
  rw [← hmm] at hcon
  clear hmm
  go_wp2_with (go_at_call 29; refine hcon.mono ?_)
  rintro e w11 ⟨rfl, t11, s5'⟩
  have C3 := C3.turned t11 (.inl (by omega))
  have C5 : RsM w11 b5 q a6 m2 c6 := RsM.turned (w := w10) ⟨y0, y1, y2, y3, y4, y5, y6⟩ t11 (.inr (Nat.le_refl _))
  have s3 := s3.turned t11 (.inl (by omega))
  have hs10 := g10.size
  have g11 : Below w.heap.size w w11 := g10.trans (t11.toBelow hs10 (by omega))
  clear g10 t11 y0 y1 y2 y3 y4 y5 y6 hcon s5
  obtain ⟨y0, y1, y2, y3, y4, y5, y6⟩ := C5
  have hcon := heldMi_any q a6 m2 c6 qs b6 b5 w11 HM2.out HB.out s5'
  rw [HMM.out] at hcon
  go_wp2_with (go_at_call 30; refine hcon.mono ?_)
  rintro e w12 ⟨rfl, g12⟩
  have C3 := C3.below g12
  have C5 : RsM w12 b5 q a6 m2 c6 := RsM.below (w := w11) ⟨y0, y1, y2, y3, y4, y5, y6⟩ g12
  have s3 := s3.below g12
  have s5 := s5'.below g12
  have g12 := g11.trans (g12.mono g11.size)
  clear g11 y0 y1 y2 y3 y4 y5 y6 hcon s5'
  go_wp2_with fail
  refine (toByteSS_any a ps n c _ HN.out hn HP.out (HR.out.below g12 (Nat.le_refl _))).mono ?_
  rintro e w13 ⟨rfl, g13, hl13, F13, o13⟩
  have C3 := C3.below g13
  have C5 := C5.below g13
  have s3 := s3.below g13
  have s5 := s5.below g13
  have r13 := o13.reads HN.out
  have n13 := o13.readsN HN.out
  have g13 : Below w.heap.size w w13 := g12.trans (g13.mono g12.size)
  generalize w12.heap.size = b13 at r13 n13 ⊢
  clear g12 o13 hl13 F13
  go_wp2_with fail
  refine (HImpl.out _ _ n13 r13).mono ?_
  rintro e w14 hri
  obtain ⟨a15, c15, rfl, g14, s14⟩ := hri
  rw [HM2.out]
  have C3 := C3.below g14
  have C5 := C5.below g14
  have s3 := s3.below g14
  have s5 := s5.below g14
  have g14 : Below w.heap.size w w14 := g13.trans (g14.mono g13.size)
  clear g13 r13 n13
  go_upto_region 25 with (fail)
  generalize hY : World.alloc _ _ = Y14
  have gY : Below w14.heap.size w14 Y14 := by rw [← hY]; go_grown
  have C14 : RsM Y14 w14.heap.size q a15 m2 c15 := by rw [← hY]; exact ⟨by simp [go_sem], by simp [go_sem], by simp [go_sem], by simp [go_sem], by simp [go_sem], by simp [go_sem], by simp [go_sem]⟩
  have C3 := C3.below gY
  have C5 := C5.below gY
  have s3 := s3.below gY
  have s5 := s5.below gY
  have s14 := s14.below gY
  have g14 := g14.trans (gY.mono g14.size)
  clear hY gY
  generalize w14.heap.size = b14 at C14 s14 ⊢
  have hcon := eqMi_same q a15 a4 m2 c15 c4 qs _ _ _ _ Y14 HM2.out HB.out s14 s3
  obtain ⟨x0, x1, x2, x3, x4, x5, x6⟩ := C3
  obtain ⟨z0, z1, z2, z3, z4, z5, z6⟩ := C14
  go_wp2_with (go_at_call 26; refine hcon.mono ?_)
  rintro e w15 ⟨rfl, g15⟩
  have C5 := C5.below g15
  have s5 := s5.below g15
  have g15 := g14.trans (g15.mono g14.size)
  clear g14 x0 x1 x2 x3 x4 x5 x6 z0 z1 z2 z3 z4 z5 z6 hcon s14 s3
  obtain ⟨y0, y1, y2, y3, y4, y5, y6⟩ := C5
  have hcon := heldMi_any q a6 m2 c6 qs b6 b5 w15 HM2.out HB.out s5
  rw [HMM.out] at hcon
  go_wp2_with (go_at_call 30; refine hcon.mono ?_)
  rintro e w16 ⟨rfl, g16⟩
  have g16 := g15.trans (g16.mono g15.size)
  clear g15 hcon y0 y1 y2 y3 y4 y5 y6
  go_wp2_with fail
  go_ret
  exact ⟨rfl, g16⟩

end Go.Proofs.Ytonngopnhpmjaaa
