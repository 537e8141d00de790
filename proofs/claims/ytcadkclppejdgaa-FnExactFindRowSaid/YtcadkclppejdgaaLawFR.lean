/-
  The law FnExactFindRow answers true.
-/
import Derived.Test.YtcadkclppejdgaaFns
import Derived.Test.YtcadkclppejdgaaOpg
namespace Go.Proofs.Ytcadkclppejdgaa
open Go.RowKit Go.Maps
set_option linter.unusedVariables false

set_option maxHeartbeats 1000000 in
theorem eqPlaceResult_same (q p s t k v : Int) (st : ByteArray) (w : World) :
    Calls Try.prog 22 #[.agg #[.int .i64 q, .int .i64 p, .int .i64 s, .int .i64 t, .int .i64 k, .int .i64 v, .string st], .agg #[.int .i64 q, .int .i64 p, .int .i64 s, .int .i64 t, .int .i64 k, .int .i64 v, .string st]] w fun e w' => e = .returned (.bool true) ∧ Below w.heap.size w w' := by
  go_enter Try.func22, Try.ntmps22
  go_wp2_with fail
  refine (eqRow_same t k v st _).mono ?_
  rintro e w' ⟨rfl, g⟩
  have g2 : Below w.heap.size w w' := Below.trans (by go_grown) (g.mono (by simp; omega))
  clear g
  go_wp2_with fail
  go_ret
  exact ⟨rfl, g2⟩

set_option maxRecDepth 20000 in
set_option maxHeartbeats 2000000 in
theorem lawFindRow_any (a : Option Addr) (n c : Nat) (ps : List (List Int)) (t k : Int) (w : World) (h : IsPages w a n ps) (ht : (Lit.int .i64 t).wf = true) (hk : (Lit.int .i64 k).wf = true) :
    Calls Try.prog 5 #[.slice a n c, .int .i64 t, .int .i64 k] w fun e w' => e = .returned (.bool true) ∧ Below w.heap.size w w' := by
  have hm := h.ln
  have HI : Hid (IsPages w a n ps) := h
  obtain ⟨q, hq⟩ : ∃ q, q = findR ps t k := ⟨_, rfl⟩
  have HQ : Hid (findR ps t k = q) := hq.symm
  clear hq h ht hk
  obtain ⟨yq, yp, ys, yt, yk, yv, yst⟩ := q
  go_enter Try.func5, Try.ntmps5
  go_wp2_with fail
  refine (szByteSS_any a ps n c _ 1048576 HI.out (by omega) (by omega)).mono ?_
  rintro e w1 ⟨⟨r, rfl, hr1, hl⟩, hw1⟩
  subst w1
  by_cases h0 : r < 0
  · go_wp2_with fail
    go_ret
    exact ⟨rfl, Below.refl _ _⟩
  obtain ⟨hn, hpo⟩ := hl (by omega)
  have HP : Hid (PgOk ps) := hpo
  have HN : Hid (ps.length = n) := HI.out.eq
  have HR : Hid (PgRead w a ps) := HI.out.rd
  have h0 : ¬ (r < 0) := h0
  clear hl hpo HI
  go_wp2_with fail
  refine (toByteSS_any a ps n c _ HN.out hn HP.out HR.out).mono ?_
  rintro e w2 ⟨rfl, g2, hl2, F2, o2⟩
  have r2 := o2.reads HN.out
  clear o2 hl2 F2
  go_wp2_with fail
  refine (specFindRow_any _ ps n n t k _ HN.out hm HP.out r2).mono ?_
  rintro e w3 ⟨rfl, g3⟩
  rw [HQ.out]
  simp only [plV]
  have g3 : Below w.heap.size w w3 := g2.trans (g3.mono g2.size)
  clear g2 r2
  go_upto_region 6 with (fail)
  generalize hY : World.alloc _ _ = Y
  have gY : Below w3.heap.size w3 Y := by rw [← hY]; go_grown
  have C : PlC Y w3.heap.size 0 ⟨yq, yp, ys, ⟨yt, yk, yv, yst⟩⟩ := by rw [← hY]; exact ⟨by simp [go_sem], by simp [go_sem], by simp [go_sem], by simp [go_sem], by simp [go_sem], by simp [go_sem], by simp [go_sem]⟩
  have g3 := g3.trans (gY.mono g3.size)
  clear hY gY
  generalize w3.heap.size = b3 at C ⊢
  go_wp2_with fail
  refine (toByteSS_any a ps n c _ HN.out hn HP.out (HR.out.below g3 (Nat.le_refl _))).mono ?_
  rintro e w4 ⟨rfl, g4, hl4, F4, o4⟩
  have C := C.below g4 C.lt
  have g4 : Below w.heap.size w w4 := g3.trans (g4.mono g3.size)
  have r4 := o4.reads HN.out
  generalize Y.heap.size = b4 at r4 o4 hl4 ⊢
  clear g3
  go_wp2_with fail
  refine (implFindRow_any _ ps n n t k _ HN.out hm HP.out r4).mono ?_
  rintro e w5 ⟨rfl, g5⟩
  rw [HQ.out]
  simp only [plV]
  have C := C.below g5 C.lt
  have o5 := o4.below hl4 g5
  have hl5 := Nat.lt_of_lt_of_le hl4 g5.size
  have g5 : Below w.heap.size w w5 := g4.trans (g5.mono g4.size)
  clear g4 o4 r4 hl4
  go_upto_region 8 with (fail)
  generalize hY : World.alloc _ _ = Y5
  have gY : Below w5.heap.size w5 Y5 := by rw [← hY]; go_grown
  have C5 : PlC Y5 w5.heap.size 0 ⟨yq, yp, ys, ⟨yt, yk, yv, yst⟩⟩ := by rw [← hY]; exact ⟨by simp [go_sem], by simp [go_sem], by simp [go_sem], by simp [go_sem], by simp [go_sem], by simp [go_sem], by simp [go_sem]⟩
  have C := C.below gY C.lt
  have o5 := o5.below hl5 gY
  have hl5 := Nat.lt_of_lt_of_le hl5 gY.size
  have g5 := g5.trans (gY.mono g5.size)
  clear hY gY
  generalize w5.heap.size = b5 at C5 ⊢
  obtain ⟨x0, x1, x2, x3, x4, x5, x6⟩ := C
  obtain ⟨y0, y1, y2, y3, y4, y5, y6⟩ := C5
  dsimp only at x0 x1 x2 x3 x4 x5 x6 y0 y1 y2 y3 y4 y5 y6
  go_wp2_with fail
  refine (eqPlaceResult_same yq yp ys yt yk yv yst _).mono ?_
  rintro e w6 ⟨rfl, g6⟩
  have o6 := o5.below hl5 g6
  have hl6 := Nat.lt_of_lt_of_le hl5 g6.size
  have g6 := g5.trans (g6.mono g5.size)
  clear g5 o5 hl5 x0 x1 x2 x3 x4 x5 x6 y0 y1 y2 y3 y4 y5 y6
  go_wp2_with fail
  refine (toByteSS_any a ps n c _ HN.out hn HP.out (HR.out.below g6 (Nat.le_refl _))).mono ?_
  rintro e w7 ⟨rfl, g7, hl7, F7, o7⟩
  have o6 := o6.below hl6 g7
  have hl6 := Nat.lt_of_lt_of_le hl6 g7.size
  have g7 : Below w.heap.size w w7 := g6.trans (g7.mono g6.size)
  generalize w6.heap.size = b7 at o7 hl7 ⊢
  go_wp2_with fail
  refine (eqByteSS_same _ _ ps n F4 F7 _ HN.out hm HP.out o6 o7 hl6 hl7).mono ?_
  rintro e w8 ⟨rfl, g8⟩
  have g8 : Below w.heap.size w w8 := g7.trans (g8.mono g7.size)
  clear g7 o6 o7
  go_wp2_with fail
  go_ret
  exact ⟨rfl, g8⟩

end Go.Proofs.Ytcadkclppejdgaa
