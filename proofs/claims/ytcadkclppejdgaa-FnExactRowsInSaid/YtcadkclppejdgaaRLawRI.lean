/-
  The law FnExactRowsIn answers true.
-/
import Derived.Test.YtcadkclppejdgaaRMkp

namespace Go.Proofs.Ytcadkclppejdgaa
open Go.RowKit Go.Maps
set_option linter.unusedVariables false

/-- The rows of an answer. -/
def RiL (ps : List (List Int)) (rs : List Rw) : Prop := (viewQ ps = 0 → RowsOrd ps rs) ∧ (viewQ ps ≠ 0 → rs = [])
theorem RiL.same {ps : List (List Int)} {rs rs' : List Rw} (h : RiL ps rs) (h' : RiL ps rs') : rs = rs' := by
  by_cases hq : viewQ ps = 0
  · exact (h.1 hq).unique (h'.1 hq)
  · rw [h.2 hq, h'.2 hq]
theorem RiL.len {ps : List (List Int)} {rs : List Rw} (h : RiL ps rs) (hp : PgOk ps) : rs.length ≤ 1000 := by
  by_cases hq : viewQ ps = 0
  · have h1 := (h.1 hq).1.length_eq
    have h2 := plF_len (mvF (allL ps)) (allL ps)
    have h3 := (allL_ok hp).2
    rw [List.length_map] at h1
    unfold seenL at h1
    omega
  · rw [h.2 hq]; simp

theorem RiPost.form {ps : List (List Int)} {w w' : World} {e : Ending} (h : RiPost ps w e w') : ∃ a rs c, e = .returned (.agg #[.int .i64 (viewQ ps), .slice a rs.length c]) ∧ Below w.heap.size w w' ∧ SlIn rwE 4 w.heap.size w'.heap.size w' a rs ∧ RiL ps rs := by
  obtain ⟨v, rs, rfl, g, ho, h1, h2⟩ := h
  obtain ⟨a, c, rfl, _, hi, _⟩ := SlIn.ofRow rwE_len ho
  exact ⟨a, rs, c, rfl, g, hi, h1, h2⟩

set_option maxRecDepth 20000 in
set_option maxHeartbeats 4000000 in
theorem lawRowsIn_any (a : Option Addr) (n c : Nat) (ps : List (List Int)) (w : World) (h : IsPages w a n ps) :
    Calls Try.prog 4 #[.slice a n c] w fun e w' => e = .returned (.bool true) ∧ Below w.heap.size w w' := by
  have hm := h.ln
  have HI : Hid (IsPages w a n ps) := h
  obtain ⟨q, hq⟩ : ∃ q, q = viewQ ps := ⟨_, rfl⟩
  have HQ : Hid (viewQ ps = q) := hq.symm
  clear hq h
  go_enter Try.func4, Try.ntmps4
  go_wp2_with fail
  refine (szByteSS_any a ps n c _ 1048576 HI.out (by omega) (by omega)).mono ?_
  rintro e w1 ⟨⟨r, rfl, hr1, hl⟩, hw1⟩
  subst w1
  by_cases h0 : r < 0
  · go_wp2_with fail
    go_ret
    exact ⟨rfl, Below.refl _ _⟩
  obtain ⟨hn, hpo⟩ := hl (by omega)
  have HP : Hid (PgOk ps) := hpo
  have HN : Hid (ps.length = n) := HI.out.eq
  have HR : Hid (PgRead w a ps) := HI.out.rd
  have h0 : ¬ (r < 0) := h0
  clear hl hpo HI
  go_wp2_with fail
  refine (toByteSS_any a ps n c _ HN.out hn HP.out HR.out).mono ?_
  rintro e w2 ⟨rfl, g2, hl2, F2, o2⟩
  have r2 := o2.reads HN.out
  clear o2 hl2 F2
  go_wp2_with fail
  refine (specRowsIn_any _ ps n n _ HN.out hm HP.out r2).mono ?_
  rintro e w3 hri
  obtain ⟨a3, rs, c3, rfl, g3, s3, L3⟩ := hri.form
  have hs3 := g3.size
  rw [HQ.out]
  have HL : Hid (RiL ps rs) := L3
  obtain ⟨m, hm0⟩ : ∃ m, m = rs.length := ⟨_, rfl⟩
  have HM : Hid (rs.length = m) := hm0.symm
  have hm1 : m ≤ 1000 := by rw [hm0]; exact L3.len HP.out
  rw [← hm0]
  have g3 : Below w.heap.size w w3 := g2.trans (g3.mono g2.size)
  have hs2 := g2.size
  clear r2 hri L3 hm0 g2
  go_upto_region 6 with (fail)
  generalize hY : World.alloc _ _ = Y
  have gY : Below w3.heap.size w3 Y := by rw [← hY]; go_grown
  have C3 : RsC Y w3.heap.size q a3 m c3 := by rw [← hY]; exact ⟨by simp [go_sem], by simp [go_sem]⟩
  have s3 := s3.below gY
  have hl3 := C3.lt
  have g3 := g3.trans (gY.mono g3.size)
  clear hY gY
  generalize w3.heap.size = b3 at C3 s3 hl3 hs3 ⊢
  generalize w2.heap.size = b2 at s3 hs3 hs2
  go_wp2_with fail
  refine (toByteSS_any a ps n c _ HN.out hn HP.out (HR.out.below g3 (Nat.le_refl _))).mono ?_
  rintro e w4 ⟨rfl, g4, hl4, F4, o4⟩
  have C3 := C3.below g4
  have s3 := s3.below g4
  have HF : Hid (∀ i zs, i < n → ps[i]? = some zs → zs ≠ [] → F4 i < w4.heap.size) := fun i zs hi hz hne => o4.lt hi hz hne
  have g4 : Below w.heap.size w w4 := g3.trans (g4.mono g3.size)
  have r4 := o4.reads HN.out
  generalize Y.heap.size = b4 at r4 o4 hl4 hl3 ⊢
  clear g3
  go_wp2_with fail
  refine (implRowsIn_any _ ps n n _ HN.out hm HP.out r4).mono ?_
  rintro e w5 hri
  obtain ⟨a5, rs5, c5, rfl, g5, s5, L5⟩ := hri.form
  have hrr : rs5 = rs := L5.same HL.out
  subst hrr
  rw [HQ.out, HM.out]
  have hs5 := g5.size
  have C3 := C3.below g5
  have s3 := s3.below g5
  have o5 := o4.below hl4 g5
  have hl5 := Nat.lt_of_lt_of_le hl4 g5.size
  have g5 : Below w.heap.size w w5 := g4.trans (g5.mono g4.size)
  clear g4 o4 r4 hri L5
  go_upto_region 8 with (fail)
  generalize hY : World.alloc _ _ = Y5
  have gY : Below w5.heap.size w5 Y5 := by rw [← hY]; go_grown
  have C5 : RsC Y5 w5.heap.size q a5 m c5 := by rw [← hY]; exact ⟨by simp [go_sem], by simp [go_sem]⟩
  have C3 := C3.below gY
  have s3 := s3.below gY
  have s5 := s5.below gY
  have o5 := o5.below hl5 gY
  have hl5 := Nat.lt_of_lt_of_le hl5 gY.size
  have g5 := g5.trans (gY.mono g5.size)
  clear hY gY
  generalize w5.heap.size = b5 at C5 s5 hs5 ⊢
  generalize w4.heap.size = b6 at s5 hs5 hl4 HF
  have hcon := eqRowsResult_same q a5 a3 rs5 m c5 c3 Y5 HM.out hm1 s5.reads s3.reads
  obtain ⟨x0, x1⟩ := C3
  obtain ⟨y0, y1⟩ := C5
  go_wp2_with (go_at_call 16; refine hcon.mono ?_)
  rintro e w6 ⟨rfl, g6⟩
  have C3 : RsC w6 b3 q a3 m c3 := RsC.below (w := Y5) ⟨x0, x1⟩ g6
  have C5 : RsC w6 b5 q a5 m c5 := RsC.below (w := Y5) ⟨y0, y1⟩ g6
  have s3 := s3.below g6
  have s5 := s5.below g6
  have o6 := o5.below hl5 g6
  have hl6 := Nat.lt_of_lt_of_le hl5 g6.size
  have g6 := g5.trans (g6.mono g5.size)
  clear g5 o5 hl5 x0 x1 y0 y1 hcon
  go_wp2_with fail
  refine (toByteSS_any a ps n c _ HN.out hn HP.out (HR.out.below g6 (Nat.le_refl _))).mono ?_
  rintro e w7 ⟨rfl, g7, hl7, F7, o7⟩
  have C3 := C3.below g7
  have C5 := C5.below g7
  have s3 := s3.below g7
  have s5 := s5.below g7
  have o6 := o6.below hl6 g7
  have hl6 := Nat.lt_of_lt_of_le hl6 g7.size
  have g7 : Below w.heap.size w w7 := g6.trans (g7.mono g6.size)
  generalize w6.heap.size = b7 at o7 hl7 ⊢
  clear g6
  go_wp2_with fail
  refine (eqByteSS_same _ _ ps n F4 F7 _ HN.out hm HP.out o6 o7 hl6 hl7).mono ?_
  rintro e w8 ⟨rfl, g8⟩
  have C3 := C3.below g8
  have C5 := C5.below g8
  have s3 := s3.below g8
  have s5 := s5.below g8
  have o8 := o6.below hl6 g8
  have g8 : Below w.heap.size w w8 := g7.trans (g8.mono g7.size)
  clear g7 o6 o7 hl7
  go_wp2_with fail
  refine (markByteSS_any b4 n n b6 ps F4 _ HN.out hn HP.out o8 HF.out).mono ?_
  rintro e w9 ⟨k9, rfl, hk9, t9⟩
  have hk9 : ¬ k9 < 0 := by omega
  have C3 := C3.turned t9 (.inl (by omega))
  have C5 := C5.turned t9 (.inr (by omega))
  have s3 := s3.turned t9 (.inl (by omega))
  have s5 := s5.turned t9 (.inr (by omega))
  have hs8 := g8.size
  have g9 : Below w.heap.size w w9 := g8.trans (t9.toBelow hs8 (by omega))
  clear g8 o8 t9
  obtain ⟨x0, x1⟩ := C3
  obtain ⟨y0, y1⟩ := C5
  have hcon := eqRowsResult_same q a5 a3 rs5 m c5 c3 w9 HM.out hm1 s5.reads s3.reads
  go_wp2_with (go_at_call 16; refine hcon.mono ?_)
  rintro e w10 ⟨rfl, g10⟩
  have C3 : RsC w10 b3 q a3 m c3 := RsC.below (w := w9) ⟨x0, x1⟩ g10
  have C5 : RsC w10 b5 q a5 m c5 := RsC.below (w := w9) ⟨y0, y1⟩ g10
  have s3 := s3.below g10
  have s5 := s5.below g10
  have g10 := g9.trans (g10.mono g9.size)
  clear g9 x0 x1 y0 y1 hcon
  obtain ⟨y0, y1⟩ := C5
  have hcon := markRowsResult_any q a5 b6 b5 rs5 m c5 w10 HM.out hm1 s5
  obtain ⟨mm, hmm⟩ : ∃ mm : Int, mm = ((1 + 4 * m : Nat) : Int) := ⟨_, rfl⟩
  have hmm0 : ¬ mm < 0 := by omega
  have HMM : Hid (((1 + 4 * m : Nat) : Int) = mm) := hmm.symm
  rw [← hmm] at hcon
  clear hmm
  go_wp2_with (go_at_call 18; refine hcon.mono ?_)
  rintro e w11 ⟨rfl, t11, s5'⟩
  have C3 := C3.turned t11 (.inl (by omega))
  have C5 : RsC w11 b5 q a5 m c5 := RsC.turned (w := w10) ⟨y0, y1⟩ t11 (.inr (Nat.le_refl _))
  have s3 := s3.turned t11 (.inl (by omega))
  have hs10 := g10.size
  have g11 : Below w.heap.size w w11 := g10.trans (t11.toBelow hs10 (by omega))
  clear g10 t11 y0 y1 hcon s5
  obtain ⟨y0, y1⟩ := C5
  have hcon := heldRowsResult_any q a5 m c5 w11 hm1 s5'.reads
  rw [HMM.out] at hcon
  go_wp2_with (go_at_call 19; refine hcon.mono ?_)
  rintro e w12 ⟨rfl, g12⟩
  have C3 := C3.below g12
  have C5 : RsC w12 b5 q a5 m c5 := RsC.below (w := w11) ⟨y0, y1⟩ g12
  have s3 := s3.below g12
  have s5 := s5'.below g12
  have g12 := g11.trans (g12.mono g11.size)
  clear g11 y0 y1 hcon s5'
  go_wp2_with fail
  refine (toByteSS_any a ps n c _ HN.out hn HP.out (HR.out.below g12 (Nat.le_refl _))).mono ?_
  rintro e w13 ⟨rfl, g13, hl13, F13, o13⟩
  have C3 := C3.below g13
  have C5 := C5.below g13
  have s3 := s3.below g13
  have s5 := s5.below g13
  have r13 := o13.reads HN.out
  have g13 : Below w.heap.size w w13 := g12.trans (g13.mono g12.size)
  generalize w12.heap.size = b13 at r13 ⊢
  clear g12 o13 hl13 F13
  go_wp2_with fail
  refine (implRowsIn_any _ ps n n _ HN.out hm HP.out r13).mono ?_
  rintro e w14 hri
  obtain ⟨a14, rs14, c14, rfl, g14, s14, L14⟩ := hri.form
  have hrr : rs14 = rs5 := L14.same HL.out
  rw [hrr] at s14
  rw [HQ.out, hrr, HM.out]
  clear hrr
  have C3 := C3.below g14
  have C5 := C5.below g14
  have s3 := s3.below g14
  have s5 := s5.below g14
  have s14 := s14.reads
  have g14 : Below w.heap.size w w14 := g13.trans (g14.mono g13.size)
  clear g13 r13 hri L14
  go_upto_region 25 with (fail)
  generalize hY : World.alloc _ _ = Y14
  have gY : Below w14.heap.size w14 Y14 := by rw [← hY]; go_grown
  have C14 : RsC Y14 w14.heap.size q a14 m c14 := by rw [← hY]; exact ⟨by simp [go_sem], by simp [go_sem]⟩
  have C3 := C3.below gY
  have C5 := C5.below gY
  have s3 := s3.below gY
  have s5 := s5.below gY
  have s14 := s14.below gY (Nat.le_refl _)
  have g14 := g14.trans (gY.mono g14.size)
  clear hY gY
  generalize w14.heap.size = b14 at C14 ⊢
  have hcon := eqRowsResult_same q a14 a3 rs5 m c14 c3 Y14 HM.out hm1 s14 s3.reads
  obtain ⟨x0, x1⟩ := C3
  obtain ⟨z0, z1⟩ := C14
  go_wp2_with (go_at_call 16; refine hcon.mono ?_)
  rintro e w15 ⟨rfl, g15⟩
  have C5 := C5.below g15
  have s5 := s5.below g15
  have g15 := g14.trans (g15.mono g14.size)
  clear g14 x0 x1 z0 z1 hcon s14 s3
  obtain ⟨y0, y1⟩ := C5
  have hcon := heldRowsResult_any q a5 m c5 w15 hm1 s5.reads
  rw [HMM.out] at hcon
  go_wp2_with (go_at_call 19; refine hcon.mono ?_)
  rintro e w16 ⟨rfl, g16⟩
  have g16 := g15.trans (g16.mono g15.size)
  clear g15 hcon y0 y1
  go_wp2_with fail
  go_ret
  exact ⟨rfl, g16⟩

end Go.Proofs.Ytcadkclppejdgaa
