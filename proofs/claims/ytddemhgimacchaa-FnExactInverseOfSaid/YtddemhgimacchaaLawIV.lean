/-
  The law FnExactInverseOf answers true.
-/
import Derived.Test.YtddemhgimacchaaIvs
import Derived.Test.YtddemhgimacchaaCho
import Derived.Test.YtddemhgimacchaaMkx
import Derived.Test.YtddemhgimacchaaChw
namespace Go.Proofs.Ytddemhgimacchaa
open Go.RowKit Go.Maps
set_option linter.unusedVariables false
set_option maxRecDepth 20000

structure RsC (w : World) (b : Nat) (q : Int) (a : Option Addr) (n c : Nat) : Prop where
  c0 : w.cell? ⟨b, 0, none⟩ = some (.int .i64 q)
  c1 : w.cell? ⟨b, 1, none⟩ = some (.slice a n c)
theorem RsC.lt {w : World} {b : Nat} {q : Int} {a : Option Addr} {n c : Nat} (h : RsC w b q a n c) : b < w.heap.size := World.block_lt_of_cell? w _ h.c0
theorem RsC.turned {w w' : World} {b : Nat} {q : Int} {a : Option Addr} {n c lo hi : Nat} (h : RsC w b q a n c) (ht : Turned lo hi w w') (hn : b < lo ∨ hi ≤ b) : RsC w' b q a n c := ⟨ht.cell h.c0 hn, ht.cell h.c1 hn⟩
theorem RsC.below {w w' : World} {b : Nat} {q : Int} {a : Option Addr} {n c : Nat} (h : RsC w b q a n c) (hb : Below w.heap.size w w') : RsC w' b q a n c := h.turned (Turned.ofBelow (lo := 0) (hi := 0) hb) (.inr (Nat.zero_le _))
theorem ivL_len (cs : List Chg) : (ivL cs).length ≤ 60 := by
  unfold ivL
  split
  · rename_i h
    unfold ivQ at h
    split at h
    · cases h
    · simp; omega
  · simp

set_option maxHeartbeats 8000000 in
theorem lawInverseOf_any (a : Option Addr) (n c : Nat) (cs : List Chg) (w : World) (h : IsChgs w a n cs) :
    Calls Try.prog 9 #[.slice a n c] w fun e w' => e = .returned (.bool true) ∧ Below w.heap.size w w' := by
  obtain ⟨hr, hn0, hm, hs⟩ := h
  have HN : Hid (cs.length = n) := hn0
  have HSm : Hid (∀ x ∈ cs, x.b.s.size ≤ maxLen ∧ x.a.s.size ≤ maxLen) := hs
  have HR : Hid (∀ W, Below w.heap.size w W → Rs chE 10 W a cs) := fun W hW => hr.below hW (Nat.le_refl _)
  clear hr hn0 hs
  go_enter Try.func9, Try.ntmps9
  go_wp2_with fail
  refine (szChangeS_any a cs n c _ 1048576 HN.out hm HSm.out (HR.out _ (Below.refl _ _)) (by omega) (by omega)).mono ?_
  rintro e w1 ⟨⟨r, rfl, hr1, hl⟩, g1⟩
  by_cases h0 : r < 0
  · go_wp2_with fail
    go_ret
    exact ⟨rfl, g1⟩
  have hn : n ≤ 1048576 := (hl (by omega)).1
  have HZ : Hid (∀ x ∈ cs, x.b.s.size ≤ 1048576 ∧ x.a.s.size ≤ 1048576) := (hl (by omega)).2
  have h0 : ¬ (r < 0) := h0
  clear hl
  have hLl := ivL_len cs
  have HSpec0 : Hid (∀ (a : Option Addr) (W : World), Rs chE 10 W a cs → Calls Try.prog 46 #[.slice a n n] W fun e w' => IvPost (ivQ cs) (ivL cs) W e w') := fun a W h1 => specInverseOf_any a cs n n W HN.out hm HSm.out h1
  have HImpl0 : Hid (∀ (a : Option Addr) (W : World), Rs chE 10 W a cs → Calls Try.prog 15 #[.slice a n n] W fun e w' => IvPost (ivQ cs) (ivL cs) W e w') := fun a W h1 => implInverseOf_any a cs n n W HN.out hm HZ.out h1
  generalize ivQ cs = q at HSpec0 HImpl0
  generalize ivL cs = L at HSpec0 HImpl0 hLl
  obtain ⟨m, hm0⟩ : ∃ m, m = L.length := ⟨_, rfl⟩
  have HM : Hid (L.length = m) := hm0.symm
  have hm1 : m ≤ 1000 := by omega
  have HSpec : Hid (∀ (a : Option Addr) (W : World), Rs chE 10 W a cs → Calls Try.prog 46 #[.slice a n n] W fun e w' => ∃ p3 c3, e = .returned (.agg #[.int .i64 q, .slice p3 m c3]) ∧ Below W.heap.size W w' ∧ SlIn chE 10 W.heap.size w'.heap.size w' p3 L) := fun a W h1 => (HSpec0.out a W h1).mono fun e w' hA => by
    obtain ⟨p3, c3, h3⟩ := hA
    rw [HM.out] at h3
    exact ⟨p3, c3, h3⟩
  have HImpl : Hid (∀ (a : Option Addr) (W : World), Rs chE 10 W a cs → Calls Try.prog 15 #[.slice a n n] W fun e w' => ∃ p3 c3, e = .returned (.agg #[.int .i64 q, .slice p3 m c3]) ∧ Below W.heap.size W w' ∧ SlIn chE 10 W.heap.size w'.heap.size w' p3 L) := fun a W h1 => (HImpl0.out a W h1).mono fun e w' hA => by
    obtain ⟨p3, c3, h3⟩ := hA
    rw [HM.out] at h3
    exact ⟨p3, c3, h3⟩
  clear hm0 HSpec0 HImpl0 hLl
  go_wp2_with fail
  refine (toChangeS_any a cs n c _ HN.out hn (HR.out _ g1)).mono ?_
  rintro e w2 ⟨rfl, g2, o2⟩
  have r2 := o2.reads
  have g2 := g1.trans (g2.mono g1.size)
  clear g1 o2
  go_wp2_with fail
  refine (HSpec.out _ _ r2).mono ?_
  rintro e w3 ⟨a3, c3, rfl, g3, s3⟩
  have g3 := g2.trans (g3.mono g2.size)
  clear g2 r2
  go_upto_region 6 with (fail)
  generalize hY : World.alloc _ _ = wc
  have gY3 : Below w3.heap.size w3 wc := by rw [← hY]; go_grown
  have C3 : RsC wc w3.heap.size q a3 m c3 := by rw [← hY]; exact ⟨by simp [go_sem], by simp [go_sem]⟩
  have s3 := s3.below gY3
  have hhi3 : w3.heap.size ≤ wc.heap.size := gY3.size
  have hl3 := C3.lt
  have g3 := g3.trans (gY3.mono g3.size)
  clear hY gY3
  generalize w3.heap.size = b3 at C3 s3 hhi3 hl3 ⊢
  generalize w2.heap.size = lo3 at s3
  go_wp2_with fail
  refine (toChangeS_any a cs n c _ HN.out hn (HR.out _ g3)).mono ?_
  rintro e w4 ⟨rfl, g4, o4⟩
  have C3 := C3.below g4
  have s3 := s3.below g4
  have hYb4 : w.heap.size ≤ wc.heap.size := g3.size
  have hb47 : wc.heap.size ≤ w4.heap.size := g4.size
  have g4 : Below w.heap.size w w4 := g3.trans (g4.mono g3.size)
  generalize wc.heap.size = b4 at o4 hl3 hhi3 hYb4 hb47 ⊢
  clear g3
  have r4 := o4.reads
  go_wp2_with fail
  refine (HImpl.out _ _ r4).mono ?_
  rintro e w5 ⟨a5, c5', rfl, g5, s5⟩
  have hs5 := g5.size
  have C3 := C3.below g5
  have s3 := s3.below g5
  have o5 := o4.below g5
  have g5 : Below w.heap.size w w5 := g4.trans (g5.mono g4.size)
  clear g4 o4 r4
  go_upto_region 8 with (fail)
  generalize hY : World.alloc _ _ = Y5
  have gY5 : Below w5.heap.size w5 Y5 := by rw [← hY]; go_grown
  have C5 : RsC Y5 w5.heap.size q a5 m c5' := by rw [← hY]; exact ⟨by simp [go_sem], by simp [go_sem]⟩
  have C3 := C3.below gY5
  have s3 := s3.below gY5
  have s5 := s5.below gY5
  have o5 := o5.below gY5
  have g5 := g5.trans (gY5.mono g5.size)
  clear hY gY5
  generalize w5.heap.size = b5 at C5 s5 hs5 ⊢
  generalize w4.heap.size = b6 at s5 hs5 o5 hb47
  have hcon := eqChangesResult_same q a5 a3 L m c5' c3 Y5 HM.out hm1 s5.reads s3.reads
  obtain ⟨x0, x1⟩ := C3
  obtain ⟨y0, y1⟩ := C5
  go_wp2_with (go_at_call 48; refine hcon.mono ?_)
  rintro e w6 ⟨rfl, g6⟩
  have C3 : RsC w6 b3 q a3 m c3 := RsC.below (w := Y5) ⟨x0, x1⟩ g6
  have C5 : RsC w6 b5 q a5 m c5' := RsC.below (w := Y5) ⟨y0, y1⟩ g6
  have s3 := s3.below g6
  have s5 := s5.below g6
  have o6 := o5.below g6
  have g6 := g5.trans (g6.mono g5.size)
  clear g5 o5 x0 x1 y0 y1 hcon
  go_wp2_with fail
  refine (toChangeS_any a cs n c _ HN.out hn (HR.out _ g6)).mono ?_
  rintro e w7 ⟨rfl, g7, o7⟩
  have C3 := C3.below g7
  have C5 := C5.below g7
  have s3 := s3.below g7
  have s5 := s5.below g7
  have o6 := o6.below g7
  have g7 : Below w.heap.size w w7 := g6.trans (g7.mono g6.size)
  generalize w6.heap.size = b8 at o7 ⊢
  clear g6
  go_wp2_with fail
  refine (eqChangeS_same _ _ cs n n n _ HN.out (by omega) o6.reads o7.reads).mono ?_
  rintro e w8 ⟨rfl, g8⟩
  have C3 := C3.below g8
  have C5 := C5.below g8
  have s3 := s3.below g8
  have s5 := s5.below g8
  have o8 := o6.below g8
  have g8 : Below w.heap.size w w8 := g7.trans (g8.mono g7.size)
  clear g7 o6 o7
  go_wp2_with fail
  refine (markChangeS_wide _ _ _ cs n n 1 _ HN.out hn (by omega) (by omega) o8).mono ?_
  rintro e w9 ⟨rfl, t9, _⟩
  have C3 := C3.turned t9 (.inl (by omega))
  have C5 := C5.turned t9 (.inr (by omega))
  have s3 := s3.turned t9 (.inl (by omega))
  have s5 := s5.turned t9 (.inr (by omega))
  have hs8 := g8.size
  have g9 : Below w.heap.size w w9 := g8.trans (t9.toBelow hs8 (by omega))
  obtain ⟨k9, hk9⟩ : ∃ k : Int, ((1 + 10 * n : Nat) : Int) = k := ⟨_, rfl⟩
  have hk9' : ¬ k9 < 0 := by omega
  rw [hk9]
  clear g8 o8 t9 hk9
  obtain ⟨x0, x1⟩ := C3
  obtain ⟨y0, y1⟩ := C5
  have hcon := eqChangesResult_same q a5 a3 L m c5' c3 w9 HM.out hm1 s5.reads s3.reads
  go_wp2_with (go_at_call 48; refine hcon.mono ?_)
  rintro e w10 ⟨rfl, g10⟩
  have C3 : RsC w10 b3 q a3 m c3 := RsC.below (w := w9) ⟨x0, x1⟩ g10
  have C5 : RsC w10 b5 q a5 m c5' := RsC.below (w := w9) ⟨y0, y1⟩ g10
  have s3 := s3.below g10
  have s5 := s5.below g10
  have g10 := g9.trans (g10.mono g9.size)
  clear g9 x0 x1 y0 y1 hcon
  obtain ⟨y0, y1⟩ := C5
  have hcon := markChangesResult_any q a5 b6 b5 L m c5' w10 HM.out hm1 s5
  obtain ⟨mm, hmm⟩ : ∃ mm : Int, mm = ((1 + 10 * m : Nat) : Int) := ⟨_, rfl⟩
  have hmm0 : ¬ mm < 0 := by omega
  have HMM : Hid (((1 + 10 * m : Nat) : Int) = mm) := hmm.symm
  rw [← hmm] at hcon
  clear hmm
  go_wp2_with (go_at_call 51; refine hcon.mono ?_)
  rintro e w11 ⟨rfl, t11, s5'⟩
  have C3 := C3.turned t11 (.inl (by omega))
  have C5 : RsC w11 b5 q a5 m c5' := RsC.turned (w := w10) ⟨y0, y1⟩ t11 (.inr (Nat.le_refl _))
  have s3 := s3.turned t11 (.inl (by omega))
  have hs10 := g10.size
  have g11 : Below w.heap.size w w11 := g10.trans (t11.toBelow hs10 (by omega))
  clear g10 t11 y0 y1 hcon s5
  obtain ⟨y0, y1⟩ := C5
  have hcon := heldChangesResult_any q a5 m c5' w11 hm1 s5'.reads
  rw [HMM.out] at hcon
  go_wp2_with (go_at_call 52; refine hcon.mono ?_)
  rintro e w12 ⟨rfl, g12⟩
  have C3 := C3.below g12
  have C5 : RsC w12 b5 q a5 m c5' := RsC.below (w := w11) ⟨y0, y1⟩ g12
  have s3 := s3.below g12
  have s5 := s5'.below g12
  have gB := g11.trans (g12.mono g11.size)
  clear g11 g12 y0 y1 hcon s5'
  go_wp2_with fail
  refine (toChangeS_any a cs n c _ HN.out hn (HR.out _ gB)).mono ?_
  rintro e w13 ⟨rfl, g13, o13⟩
  have r13 := o13.reads
  have C3 := C3.below g13
  have C5 := C5.below g13
  have s3 := s3.below g13
  have s5 := s5.below g13
  have gB := gB.trans (g13.mono gB.size)
  clear g13 o13
  go_wp2_with fail
  refine (HImpl.out _ _ r13).mono ?_
  rintro e w14 ⟨a14, c14, rfl, g14, s14⟩
  have C3 := C3.below g14
  have C5 := C5.below g14
  have s3 := s3.below g14
  have s5 := s5.below g14
  have gB := gB.trans (g14.mono gB.size)
  clear g14 r13
  go_upto_region 25 with (fail)
  generalize hY : World.alloc _ _ = wz
  have gz : Below w14.heap.size w14 wz := by rw [← hY]; go_grown
  have C14 : RsC wz w14.heap.size q a14 m c14 := by rw [← hY]; exact ⟨by simp [go_sem], by simp [go_sem]⟩
  have C3 := C3.below gz
  have C5 := C5.below gz
  have s3 := s3.below gz
  have s5 := s5.below gz
  have s14 := s14.below gz
  have g14 := gB.trans (gz.mono gB.size)
  clear hY gz gB
  generalize w14.heap.size = b14 at C14 s14 ⊢
  have hcon := eqChangesResult_same q a14 a3 L m c14 c3 wz HM.out hm1 s14.reads s3.reads
  obtain ⟨x0, x1⟩ := C3
  obtain ⟨z0, z1⟩ := C14
  go_wp2_with (go_at_call 48; refine hcon.mono ?_)
  rintro e w15 ⟨rfl, g15⟩
  have C5 := C5.below g15
  have s5 := s5.below g15
  have g15 := g14.trans (g15.mono g14.size)
  clear g14 x0 x1 z0 z1 hcon s14 s3
  obtain ⟨y0, y1⟩ := C5
  have hcon := heldChangesResult_any q a5 m c5' w15 hm1 s5.reads
  rw [HMM.out] at hcon
  go_wp2_with (go_at_call 52; refine hcon.mono ?_)
  rintro e w16 ⟨rfl, g16⟩
  have g16 := g15.trans (g16.mono g15.size)
  clear g15 hcon y0 y1
  go_wp2_with fail
  go_ret
  exact ⟨rfl, g16⟩

end Go.Proofs.Ytddemhgimacchaa

