/-
  The law FnExactLongestIn answers true.
-/
import Derived.Test.YtmnnkgcknkhgdaaDoorLon
import Derived.Test.YtmnnkgcknkhgdaaDoorRdw
namespace Go.Proofs.YtmnnkgcknkhgdaaDoor
open Go.RowKit
set_option linter.unusedVariables false

structure InC (w : World) (b : Nat) (q v : Int) : Prop where
  c0 : w.cell? ⟨b, 0, none⟩ = some (.int .i64 q)
  c1 : w.cell? ⟨b, 1, none⟩ = some (.int .i64 v)
theorem InC.lt {w : World} {b : Nat} {q v : Int} (h : InC w b q v) : b < w.heap.size := World.block_lt_of_cell? w _ h.c0
theorem InC.below {w w' : World} {b : Nat} {q v : Int} (h : InC w b q v) (hb : Below w.heap.size w w') : InC w' b q v :=
  ⟨(hb.cell (p := ⟨b, 0, none⟩) h.lt).trans h.c0, (hb.cell (p := ⟨b, 1, none⟩) h.lt).trans h.c1⟩

set_option maxHeartbeats 400000 in
theorem eqIntResult_same (q v : Int) (w : World) : Calls Tryd.prog 10 #[.agg #[.int .i64 q, .int .i64 v], .agg #[.int .i64 q, .int .i64 v]] w fun e w' => e = .returned (.bool true) ∧ Below w.heap.size w w' := by
  go_enter Tryd.func10, Tryd.ntmps10
  go_wp2
  go_ret
  exact ⟨rfl, by go_grown⟩

set_option maxRecDepth 20000 in
set_option maxHeartbeats 4000000 in
theorem lawLongestIn_any (a : Option Addr) (n c : Nat) (bs : List Rw) (t : Int) (w : World) (hE : Errs w) (h : IsRows w a n bs) :
    Calls Tryd.prog 3 #[.slice a n c, .int .i64 t] w fun e w' => e = .returned (.bool true) ∧ Below w.heap.size w w' := by
  obtain ⟨hr, hn, hm, hs, _⟩ := h
  have HR : Hid (∀ W, Below w.heap.size w W → Rs rwE 4 W a bs) := fun W hW => hr.below hW (Nat.le_refl _)
  have HE : Hid (∀ W, Below w.heap.size w W → Errs W) := fun W hW => hE.below hW
  have HN : Hid (bs.length = n) := hn
  have HS : Hid (∀ r ∈ bs, r.s.size ≤ maxLen) := hs
  obtain ⟨q, hq⟩ : ∃ q, q = liQ bs t := ⟨_, rfl⟩
  have HQ : Hid (liQ bs t = q) := hq.symm
  obtain ⟨v, hv⟩ : ∃ v, v = liV bs t := ⟨_, rfl⟩
  have HV : Hid (liV bs t = v) := hv.symm
  clear hq hv hr hn hs hE
  go_enter Tryd.func3, Tryd.ntmps3
  go_wp2_with fail
  refine (szRowS_any a bs n c _ 1048576 HN.out hm HS.out (HR.out _ (Below.refl _ _)) (by omega) (by omega)).mono ?_
  rintro e w2 ⟨⟨r, rfl, hr1, hl⟩, g2⟩
  by_cases h0 : r < 0
  · go_wp2_with fail
    go_ret
    exact ⟨rfl, g2⟩
  have hn : n ≤ 1048576 := (hl (by omega)).1
  have h0 : ¬ (r < 0) := h0
  clear hl
  go_wp2_with fail
  refine (toRowS_any a bs n c _ HN.out hn (HR.out _ g2)).mono ?_
  rintro e w4 ⟨rfl, g4, o3⟩
  have g4 : Below w.heap.size w w4 := g2.trans (g4.mono g2.size)
  generalize w2.heap.size = b2 at o3 ⊢
  clear g2
  go_wp2_with fail
  refine (specLongestIn_any _ bs n n t _ HN.out (by omega) HS.out o3.reads).mono ?_
  rintro e w5 ⟨rfl, g5⟩
  rw [HQ.out, HV.out]
  have g5 : Below w.heap.size w w5 := g4.trans (g5.mono g4.size)
  clear o3 g4
  go_upto_region 6 with (fail)
  generalize hY : World.alloc _ _ = Y
  have gY : Below w5.heap.size w5 Y := by rw [← hY]; go_grown
  have C3 : InC Y w5.heap.size q v := by rw [← hY]; exact ⟨by simp [go_sem], by simp [go_sem]⟩
  have g5 := g5.trans (gY.mono g5.size)
  clear hY gY
  generalize w5.heap.size = b3 at C3 ⊢
  go_wp2_with fail
  refine (toRowS_any a bs n c _ HN.out hn (HR.out _ g5)).mono ?_
  rintro e w7 ⟨rfl, g6, o6⟩
  have C3 := C3.below g6
  have g7 : Below w.heap.size w w7 := g5.trans (g6.mono g5.size)
  generalize Y.heap.size = b6 at o6 ⊢
  clear g5 g6
  go_wp2_with fail
  refine (implLongestIn_any _ bs n n t _ HN.out (by omega) HS.out o6.reads (HE.out _ g7)).mono ?_
  rintro e w8 ⟨rfl, g8⟩
  rw [HQ.out, HV.out]
  have C3 := C3.below g8
  have o6 := o6.below g8
  have g8 : Below w.heap.size w w8 := g7.trans (g8.mono g7.size)
  clear g7
  go_upto_region 8 with (fail)
  generalize hY : World.alloc _ _ = Y5
  have gY : Below w8.heap.size w8 Y5 := by rw [← hY]; go_grown
  have C5 : InC Y5 w8.heap.size q v := by rw [← hY]; exact ⟨by simp [go_sem], by simp [go_sem]⟩
  have C3 := C3.below gY
  have o6 := o6.below gY
  have g8 := g8.trans (gY.mono g8.size)
  clear hY gY
  generalize w8.heap.size = b5 at C5 ⊢
  obtain ⟨x0, x1⟩ := C3
  obtain ⟨y0, y1⟩ := C5
  go_wp2_with (go_at_call 10; refine (eqIntResult_same q v _).mono ?_)
  rintro e w9 ⟨rfl, g9⟩
  have o6 := o6.below g9
  have g9 := g8.trans (g9.mono g8.size)
  clear g8 x0 x1 y0 y1
  go_wp2_with fail
  refine (toRowS_any a bs n c _ HN.out hn (HR.out _ g9)).mono ?_
  rintro e w10 ⟨rfl, g10, p10⟩
  have o6 := o6.below g10
  have g10 : Below w.heap.size w w10 := g9.trans (g10.mono g9.size)
  generalize w9.heap.size = b at p10 ⊢
  clear g9
  go_wp2_with fail
  refine (eqRowS_same _ _ bs n n n _ HN.out (by omega) o6.reads p10.reads).mono ?_
  rintro e w13 ⟨rfl, g11⟩
  have g13 : Below w.heap.size w w13 := g10.trans (g11.mono g10.size)
  clear g10 p10 o6
  go_wp2_with fail
  go_ret
  exact ⟨rfl, g13⟩

end Go.Proofs.YtmnnkgcknkhgdaaDoor

