/-
  The law FnExactKeyText answers true.
-/
import Derived.Test.YtmnnkgcknkhgdaaDoorKtx
namespace Go.Proofs.YtmnnkgcknkhgdaaDoor
open Go.RowKit
set_option linter.unusedVariables false

structure TxC (w : World) (b : Nat) (q : Int) (s : ByteArray) : Prop where
  c0 : w.cell? ⟨b, 0, none⟩ = some (.int .i64 q)
  c1 : w.cell? ⟨b, 1, none⟩ = some (.string s)
theorem TxC.lt {w : World} {b : Nat} {q : Int} {s : ByteArray} (h : TxC w b q s) : b < w.heap.size := World.block_lt_of_cell? w _ h.c0
theorem TxC.below {w w' : World} {b : Nat} {q : Int} {s : ByteArray} (h : TxC w b q s) (hb : Below w.heap.size w w') : TxC w' b q s :=
  ⟨(hb.cell (p := ⟨b, 0, none⟩) h.lt).trans h.c0, (hb.cell (p := ⟨b, 1, none⟩) h.lt).trans h.c1⟩

set_option maxRecDepth 20000 in
set_option maxHeartbeats 4000000 in
theorem lawKeyText_any (t k : Int) (w : World) (hT : Tab w) :
    Calls Tryd.prog 5 #[.agg #[.int .i64 t, .int .i64 k]] w fun e w' => e = .returned (.bool true) ∧ Below w.heap.size w w' := by
  have HT : Hid (∀ V, Below w.heap.size w V → Tab V) := fun V hV => hT.below hV
  have hS := specKeyText_any t k
  have hI := implKeyText_any t k
  generalize ktQ t k = q at hS hI
  generalize ktS t k = s at hS hI
  clear hT
  go_enter Tryd.func5, Tryd.ntmps5
  go_upto_region 1 with (fail)
  generalize hX : World.alloc _ _ = X
  have g : Below w.heap.size w X := by rw [← hX]; go_grown
  have k0 : X.cell? ⟨w.heap.size, 0, none⟩ = some (.int .i64 t) := by rw [← hX]; simp [go_sem]
  have k1 : X.cell? ⟨w.heap.size, 1, none⟩ = some (.int .i64 k) := by rw [← hX]; simp [go_sem]
  have HK : Hid (∀ V, Below X.heap.size X V → V.cell? ⟨w.heap.size, 0, none⟩ = some (.int .i64 t) ∧ V.cell? ⟨w.heap.size, 1, none⟩ = some (.int .i64 k)) := fun V hV => ⟨(hV.cell (p := ⟨w.heap.size, 0, none⟩) (World.block_lt_of_cell? X _ k0)).trans k0, (hV.cell (p := ⟨w.heap.size, 1, none⟩) (World.block_lt_of_cell? X _ k1)).trans k1⟩
  clear hX
  go_wp2_with fail
  refine (toKey_any t k _).mono ?_
  rintro e w1 ⟨rfl, g1⟩
  have gX : Below X.heap.size X w1 := g1
  clear k0 k1 g1
  go_wp2_with fail
  refine (hS _).mono ?_
  rintro e w2 ⟨rfl, g2⟩
  have gX := gX.trans (g2.mono gX.size)
  clear g2
  go_upto_region 2 with (fail)
  generalize hY : World.alloc _ _ = Y
  have gY : Below w2.heap.size w2 Y := by rw [← hY]; go_grown
  have C3 : TxC Y w2.heap.size q s := by rw [← hY]; exact ⟨by simp [go_sem], by simp [go_sem]⟩
  have gX := gX.trans (gY.mono gX.size)
  clear hY gY
  generalize w2.heap.size = b3 at C3 ⊢
  obtain ⟨k0, k1⟩ := HK.out _ gX
  go_wp2_with fail
  refine (toKey_any t k _).mono ?_
  rintro e w3 ⟨rfl, g3⟩
  have C3 := C3.below g3
  have gX := gX.trans (g3.mono gX.size)
  clear k0 k1 g3
  have hT3 := HT.out _ (g.trans (gX.mono g.size))
  go_wp2_with fail
  refine (hI _ hT3).mono ?_
  rintro e w4 ⟨rfl, g4⟩
  have C3 := C3.below g4
  have gX := gX.trans (g4.mono gX.size)
  clear g4 hT3
  go_upto_region 3 with (fail)
  generalize hY : World.alloc _ _ = Y5
  have gY : Below w4.heap.size w4 Y5 := by rw [← hY]; go_grown
  have C5 : TxC Y5 w4.heap.size q s := by rw [← hY]; exact ⟨by simp [go_sem], by simp [go_sem]⟩
  have C3 := C3.below gY
  have gX := gX.trans (gY.mono gX.size)
  clear hY gY
  generalize w4.heap.size = b5 at C5 ⊢
  obtain ⟨x0, x1⟩ := C3
  obtain ⟨y0, y1⟩ := C5
  go_wp2_with fail
  refine (eqTextResult_same q s _).mono ?_
  rintro e w5 ⟨rfl, g5⟩
  have gX := gX.trans (g5.mono gX.size)
  have gg := g.trans (gX.mono g.size)
  clear g5 x0 x1 y0 y1
  go_wp2_with fail
  go_ret
  exact ⟨rfl, gg⟩

end Go.Proofs.YtmnnkgcknkhgdaaDoor

