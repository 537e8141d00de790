/-
  DERIVED: THE SHELF's CONTRACTS AT THIS DUMP, IN PLAIN WORDS (tools/lay-plain.mjs out of 'TryShg9.lean', which tools/lay-shelf.mjs wrote): THE SAME DECLARATIONS UNDER THE SAME NAMES: 'import', 'namespace', 'open', 'def', 'theorem' AND NOTHING ELSE: no command of the shelf's: FOR A HAND-IN. Each laying: the table of numbers ('.._ren') and one theorem, a field a fact of the dump's own or the kernel's comparison; each contract: ONE APPLICATION.
-/
import Derived.Shelf.Pu.Clone
import Derived.Ground.MpProg
import Derived.Test.YtmbllmhpnopbdaaProg
import Derived.Test.YtmbllmhpnopbdaaFFChf

namespace Go.Proofs
open Go.Shelf
def Try.cloneL_ren : Go.Shelf.Ren := ⟨fun | 25 => 61 | n => n, fun | 9 => 9 | 3 => 3 | 4 => 4 | 37 => 22 | 0 => 0 | 47 => 113 | 5 => 5 | n => n, fun | n => n⟩
theorem Try.cloneL : Go.Proofs.LaysPu.n25 Try.prog Try.cloneL_ren := {
  mixed := by kernel_rfl
  f25 := Try.func61.trans (congrArg some (by kernel_rfl))
  t0 := Try.underlying0
  a0 := Try.isAgg0
  z0 := Try.sizeOf0
  v0 := Try.zeroValue0
  i0 := by kernel_rfl
  t3 := Try.underlying3
  a3 := Try.isAgg3
  z3 := Try.sizeOf3
  v3 := Try.zeroValue3
  i3 := by kernel_rfl
  t4 := Try.underlying4
  a4 := Try.isAgg4
  z4 := Try.sizeOf4
  v4 := Try.zeroValue4
  i4 := by kernel_rfl
  t5 := Try.underlying5
  a5 := Try.isAgg5
  z5 := Try.sizeOf5
  v5 := Try.zeroValue5
  i5 := by kernel_rfl
  t9 := Try.underlying9
  a9 := Try.isAgg9
  z9 := Try.sizeOf9
  v9 := Try.zeroValue9
  i9 := by kernel_rfl
  t37 := Try.underlying22
  a37 := Try.isAgg22
  z37 := Try.sizeOf22
  v37 := Try.zeroValue22
  i37 := by kernel_rfl
  t47 := Try.underlying113
  a47 := Try.isAgg113
  z47 := Try.sizeOf113
  v47 := Try.zeroValue113
  i47 := by kernel_rfl }
end Go.Proofs

/-
  A row with a text of its own: strings.Clone, ownRow. A change: its ten cells.
-/
namespace Go.Proofs.Ytmbllmhpnopbdaa
open Go.RowKit
set_option linter.unusedVariables false

set_option maxHeartbeats 400000 in
theorem clone_any (s : ByteArray) (w : World) (hs : s.size ≤ 1048576) : Calls Try.prog 49 #[.string s] w fun e w' => e = .returned (.string s) ∧ Below w.heap.size w w' := by
  have hcon := AnyPu.stringslite_Clone Try.cloneL s w (by omega)
  change Calls Try.prog 61 _ _ _ at hcon
  go_enter Try.func49, Try.ntmps49
  go_wp2_with (go_at_call 61; refine hcon.mono ?_; rintro e w' ⟨rfl, g⟩)
  go_ret
  exact ⟨rfl, g⟩

set_option maxHeartbeats 1000000 in
theorem ownRow_any (t k v : Int) (s : ByteArray) (w : World) (hs : s.size ≤ 1048576) : Calls Try.prog 32 #[.agg #[.int .i64 t, .int .i64 k, .int .i64 v, .string s]] w fun e w' => e = .returned (.agg #[.int .i64 t, .int .i64 k, .int .i64 v, .string s]) ∧ Below w.heap.size w w' := by
  have hcon := fun W => clone_any s W hs
  have HC : Hid (∀ W, Calls Try.prog 49 #[.string s] W fun e w' => e = .returned (.string s) ∧ Below W.heap.size W w') := hcon
  clear hcon
  go_enter Try.func32, Try.ntmps32
  go_upto_region 1 with (fail)
  generalize hY : World.alloc _ _ = Y
  have gY : Below w.heap.size w Y := by rw [← hY]; go_grown
  have C : RowC Y w.heap.size 0 ⟨t, k, v, s⟩ := by rw [← hY]; exact ⟨by simp [go_sem], by simp [go_sem], by simp [go_sem], by simp [go_sem]⟩
  have f3 : Y.frozen? ⟨w.heap.size, 3, none⟩ = false := by rw [← hY]; simp [go_sem]
  have Z : RowC Y (w.heap.size + 1) 0 ⟨0, 0, 0, ⟨#[]⟩⟩ := by rw [← hY]; exact ⟨by simp [go_sem], by simp [go_sem], by simp [go_sem], by simp [go_sem]⟩
  have z0 : Y.frozen? ⟨w.heap.size + 1, 0, none⟩ = false := by rw [← hY]; simp [go_sem]
  have z1 : Y.frozen? ⟨w.heap.size + 1, 1, none⟩ = false := by rw [← hY]; simp [go_sem]
  have z2 : Y.frozen? ⟨w.heap.size + 1, 2, none⟩ = false := by rw [← hY]; simp [go_sem]
  have z3 : Y.frozen? ⟨w.heap.size + 1, 3, none⟩ = false := by rw [← hY]; simp [go_sem]
  clear hY
  have hlC := C.lt
  have hlZ := Z.lt
  have hne : w.heap.size + 1 ≠ w.heap.size := by omega
  have hge : w.heap.size ≤ w.heap.size + 1 := by omega
  obtain ⟨b1, hb1⟩ : ∃ b1, b1 = w.heap.size + 1 := ⟨_, rfl⟩
  rw [← hb1] at Z z0 z1 z2 z3 hlZ hne hge ⊢
  have gsz := Nat.le_refl w.heap.size
  have hb0 : w.heap.size ≤ w.heap.size := Nat.le_refl _
  clear hb1
  obtain ⟨b0, hb0'⟩ : ∃ b0, b0 = w.heap.size := ⟨_, rfl⟩
  have hB0 : w.heap.size ≤ b0 := by omega
  have hB1 : w.heap.size ≤ b1 := by omega
  have hnn : b1 ≠ b0 := by omega
  rw [← hb0'] at C f3 hlC ⊢
  clear hb0' hne hge gsz hb0
  obtain ⟨y0, y1, y2, y3⟩ := C
  dsimp only at y0 y1 y2 y3
  go_wp2_with fail
  refine (HC.out _).mono ?_
  rintro e w' ⟨rfl, g⟩
  have C : RowC w' b0 0 ⟨t, k, v, s⟩ := RowC.below (w := Y) ⟨y0, y1, y2, y3⟩ g hlC
  have Z := Z.below g hlZ
  have f3 := (g.frozen (p := ⟨b0, 3, none⟩) hlC).trans f3
  have z0 := (g.frozen (p := ⟨b1, 0, none⟩) hlZ).trans z0
  have z1 := (g.frozen (p := ⟨b1, 1, none⟩) hlZ).trans z1
  have z2 := (g.frozen (p := ⟨b1, 2, none⟩) hlZ).trans z2
  have z3 := (g.frozen (p := ⟨b1, 3, none⟩) hlZ).trans z3
  have gg := gY.trans (g.mono gY.size)
  clear y0 y1 y2 y3 g gY hlC hlZ
  obtain ⟨y0, y1, y2, y3⟩ := C
  obtain ⟨x0, x1, x2, x3⟩ := Z
  dsimp only at y0 y1 y2 y3 x0 x1 x2 x3
  go_wp2_with fail
  refine bodyPost_ret (v := .agg #[.int .i64 t, .int .i64 k, .int .i64 v, .string s]) (by simp [results, Try.results32, go_sem, *]) rfl ?_
  exact ⟨rfl, by go_grown⟩

end Go.Proofs.Ytmbllmhpnopbdaa
