/-
  A store with nothing in it and its answer: compared, marked, looked at again.
-/
import Derived.Test.YtdlcihgeopekgaaNil
import Derived.Deep.CutRange
import Derived.Lib.SmallJoins
namespace Go.Proofs.Ytdlcihgeopekgaa
open Go.RowKit Go.ChangeShapes Go.WideShapes
set_option linter.unusedVariables false
set_option maxRecDepth 20000

structure C2 (w : World) (b : Nat) (v0 v1 : Value) : Prop where
  c0 : w.cell? ⟨b, 0, none⟩ = some v0
  c1 : w.cell? ⟨b, 1, none⟩ = some v1
theorem C2.lt {w : World} {b : Nat} {v0 v1 : Value} (h : C2 w b v0 v1) : b < w.heap.size := World.block_lt_of_cell? w _ h.c0
theorem C2.below {w w' : World} {b B : Nat} {v0 v1 : Value} (h : C2 w b v0 v1) (hb : Below B w w') (hl : b < B) : C2 w' b v0 v1 :=
  ⟨(hb.cell (p := ⟨b, 0, none⟩) hl).trans h.c0, (hb.cell (p := ⟨b, 1, none⟩) hl).trans h.c1⟩
structure C6 (w : World) (b : Nat) (v0 v1 v2 v3 v4 v5 : Value) : Prop where
  c0 : w.cell? ⟨b, 0, none⟩ = some v0
  c1 : w.cell? ⟨b, 1, none⟩ = some v1
  c2 : w.cell? ⟨b, 2, none⟩ = some v2
  c3 : w.cell? ⟨b, 3, none⟩ = some v3
  c4 : w.cell? ⟨b, 4, none⟩ = some v4
  c5 : w.cell? ⟨b, 5, none⟩ = some v5
theorem C6.lt {w : World} {b : Nat} {v0 v1 v2 v3 v4 v5 : Value} (h : C6 w b v0 v1 v2 v3 v4 v5) : b < w.heap.size := World.block_lt_of_cell? w _ h.c0
theorem C6.below {w w' : World} {b B : Nat} {v0 v1 v2 v3 v4 v5 : Value} (h : C6 w b v0 v1 v2 v3 v4 v5) (hb : Below B w w') (hl : b < B) : C6 w' b v0 v1 v2 v3 v4 v5 :=
  ⟨(hb.cell (p := ⟨b, 0, none⟩) hl).trans h.c0, (hb.cell (p := ⟨b, 1, none⟩) hl).trans h.c1, (hb.cell (p := ⟨b, 2, none⟩) hl).trans h.c2, (hb.cell (p := ⟨b, 3, none⟩) hl).trans h.c3, (hb.cell (p := ⟨b, 4, none⟩) hl).trans h.c4, (hb.cell (p := ⟨b, 5, none⟩) hl).trans h.c5⟩
structure C8 (w : World) (b : Nat) (v0 v1 v2 v3 v4 v5 v6 v7 : Value) : Prop where
  c0 : w.cell? ⟨b, 0, none⟩ = some v0
  c1 : w.cell? ⟨b, 1, none⟩ = some v1
  c2 : w.cell? ⟨b, 2, none⟩ = some v2
  c3 : w.cell? ⟨b, 3, none⟩ = some v3
  c4 : w.cell? ⟨b, 4, none⟩ = some v4
  c5 : w.cell? ⟨b, 5, none⟩ = some v5
  c6 : w.cell? ⟨b, 6, none⟩ = some v6
  c7 : w.cell? ⟨b, 7, none⟩ = some v7
theorem C8.lt {w : World} {b : Nat} {v0 v1 v2 v3 v4 v5 v6 v7 : Value} (h : C8 w b v0 v1 v2 v3 v4 v5 v6 v7) : b < w.heap.size := World.block_lt_of_cell? w _ h.c0
theorem C8.below {w w' : World} {b B : Nat} {v0 v1 v2 v3 v4 v5 v6 v7 : Value} (h : C8 w b v0 v1 v2 v3 v4 v5 v6 v7) (hb : Below B w w') (hl : b < B) : C8 w' b v0 v1 v2 v3 v4 v5 v6 v7 :=
  ⟨(hb.cell (p := ⟨b, 0, none⟩) hl).trans h.c0, (hb.cell (p := ⟨b, 1, none⟩) hl).trans h.c1, (hb.cell (p := ⟨b, 2, none⟩) hl).trans h.c2, (hb.cell (p := ⟨b, 3, none⟩) hl).trans h.c3, (hb.cell (p := ⟨b, 4, none⟩) hl).trans h.c4, (hb.cell (p := ⟨b, 5, none⟩) hl).trans h.c5, (hb.cell (p := ⟨b, 6, none⟩) hl).trans h.c6, (hb.cell (p := ⟨b, 7, none⟩) hl).trans h.c7⟩
set_option maxHeartbeats 4000000 in
theorem eqLog_nil  (w : World) : Calls Try.prog 18 #[.agg #[.slice none 0 0, .slice none 0 0], .agg #[.slice none 0 0, .slice none 0 0]] w fun e w' => e = .returned (.bool true) ∧ Below w.heap.size w w' := by
  have H0 : Hid (∀ V, Calls Try.prog 27 #[.slice none 0 0, .slice none 0 0] V fun e w' => e = .returned (.bool true) ∧ Below V.heap.size V w') := fun V => eqByteS_nil V
  have H1 : Hid (∀ V, Calls Try.prog 27 #[.slice none 0 0, .slice none 0 0] V fun e w' => e = .returned (.bool true) ∧ Below V.heap.size V w') := fun V => eqByteS_nil V
  go_enter Try.func18, Try.ntmps18
  go_upto_region 1 with (fail)
  generalize hY : World.alloc _ _ = Y
  have g : Below w.heap.size w Y := by rw [← hY]; go_grown
  have X : C2 Y w.heap.size (.slice none 0 0) (.slice none 0 0) := by rw [← hY]; exact ⟨by simp [go_sem], by simp [go_sem]⟩
  have Z : C2 Y (w.heap.size + 1) (.slice none 0 0) (.slice none 0 0) := by rw [← hY]; exact ⟨by simp [go_sem], by simp [go_sem]⟩
  clear hY
  obtain ⟨ab, hab⟩ : ∃ ab, w.heap.size = ab := ⟨_, rfl⟩
  obtain ⟨bb, hbb⟩ : ∃ bb, ab + 1 = bb := ⟨_, rfl⟩
  rw [hab] at X Z
  rw [hbb] at Z
  simp only [hab]
  try simp only [hbb]
  have HAB : Hid (w.heap.size = ab) := hab
  clear hab hbb
  have lX := X.lt
  have HX : Hid (∀ V, Below Y.heap.size Y V → C2 V ab (.slice none 0 0) (.slice none 0 0)) := fun V hV => X.below hV lX
  have lZ := Z.lt
  have HZ : Hid (∀ V, Below Y.heap.size Y V → C2 V bb (.slice none 0 0) (.slice none 0 0)) := fun V hV => Z.below hV lZ
  obtain ⟨a0, a1⟩ := X
  obtain ⟨b0, b1⟩ := Z
  go_wp2_with fail
  refine (H0.out _).mono ?_
  rintro e w1 ⟨rfl, g1⟩
  clear a0 a1 b0 b1
  obtain ⟨a0, a1⟩ := HX.out w1 g1
  obtain ⟨b0, b1⟩ := HZ.out w1 g1
  go_wp2_with fail
  refine (H1.out _).mono ?_
  rintro e w2 ⟨rfl, g2⟩
  have g2 := g1.trans (g2.mono g1.size)
  clear a0 a1 b0 b1
  obtain ⟨a0, a1⟩ := HX.out w2 g2
  obtain ⟨b0, b1⟩ := HZ.out w2 g2
  go_wp2_with fail
  go_ret
  exact ⟨rfl, g.trans (g2.mono g.size)⟩

set_option maxHeartbeats 4000000 in
theorem eqStore_nil (u : Bool) (nx : Int) (w : World) : Calls Try.prog 11 #[.agg #[.bool u, .slice none 0 0, .slice none 0 0, .slice none 0 0, .slice none 0 0, .int .i64 nx], .agg #[.bool u, .slice none 0 0, .slice none 0 0, .slice none 0 0, .slice none 0 0, .int .i64 nx]] w fun e w' => e = .returned (.bool true) ∧ Below w.heap.size w w' := by
  have H0 : Hid (∀ V, Calls Try.prog 17 #[.slice none 0 0, .slice none 0 0] V fun e w' => e = .returned (.bool true) ∧ Below V.heap.size V w') := fun V => eqByteSS_nil V
  have H1 : Hid (∀ V, Calls Try.prog 18 #[.agg #[.slice none 0 0, .slice none 0 0], .agg #[.slice none 0 0, .slice none 0 0]] V fun e w' => e = .returned (.bool true) ∧ Below V.heap.size V w') := fun V => eqLog_nil V
  have H2 : Hid (∀ V, Calls Try.prog 19 #[.slice none 0 0, .slice none 0 0] V fun e w' => e = .returned (.bool true) ∧ Below V.heap.size V w') := fun V => eqTxS_nil V
  go_enter Try.func11, Try.ntmps11
  go_upto_region 1 with (fail)
  generalize hY : World.alloc _ _ = Y
  have g : Below w.heap.size w Y := by rw [← hY]; go_grown
  have X : C6 Y w.heap.size (.bool u) (.slice none 0 0) (.slice none 0 0) (.slice none 0 0) (.slice none 0 0) (.int .i64 nx) := by rw [← hY]; exact ⟨by simp [go_sem], by simp [go_sem], by simp [go_sem], by simp [go_sem], by simp [go_sem], by simp [go_sem]⟩
  have Z : C6 Y (w.heap.size + 1) (.bool u) (.slice none 0 0) (.slice none 0 0) (.slice none 0 0) (.slice none 0 0) (.int .i64 nx) := by rw [← hY]; exact ⟨by simp [go_sem], by simp [go_sem], by simp [go_sem], by simp [go_sem], by simp [go_sem], by simp [go_sem]⟩
  clear hY
  obtain ⟨ab, hab⟩ : ∃ ab, w.heap.size = ab := ⟨_, rfl⟩
  obtain ⟨bb, hbb⟩ : ∃ bb, ab + 1 = bb := ⟨_, rfl⟩
  rw [hab] at X Z
  rw [hbb] at Z
  simp only [hab]
  try simp only [hbb]
  have HAB : Hid (w.heap.size = ab) := hab
  clear hab hbb
  have lX := X.lt
  have HX : Hid (∀ V, Below Y.heap.size Y V → C6 V ab (.bool u) (.slice none 0 0) (.slice none 0 0) (.slice none 0 0) (.slice none 0 0) (.int .i64 nx)) := fun V hV => X.below hV lX
  have lZ := Z.lt
  have HZ : Hid (∀ V, Below Y.heap.size Y V → C6 V bb (.bool u) (.slice none 0 0) (.slice none 0 0) (.slice none 0 0) (.slice none 0 0) (.int .i64 nx)) := fun V hV => Z.below hV lZ
  obtain ⟨a0, a1, a2, a3, a4, a5⟩ := X
  obtain ⟨b0, b1, b2, b3, b4, b5⟩ := Z
  go_wp2_with fail
  refine (H0.out _).mono ?_
  rintro e w1 ⟨rfl, g1⟩
  clear a0 a1 a2 a3 a4 a5 b0 b1 b2 b3 b4 b5
  obtain ⟨a0, a1, a2, a3, a4, a5⟩ := HX.out w1 g1
  obtain ⟨b0, b1, b2, b3, b4, b5⟩ := HZ.out w1 g1
  go_wp2_with fail
  refine (H1.out _).mono ?_
  rintro e w2 ⟨rfl, g2⟩
  have g2 := g1.trans (g2.mono g1.size)
  clear a0 a1 a2 a3 a4 a5 b0 b1 b2 b3 b4 b5
  obtain ⟨a0, a1, a2, a3, a4, a5⟩ := HX.out w2 g2
  obtain ⟨b0, b1, b2, b3, b4, b5⟩ := HZ.out w2 g2
  go_wp2_with fail
  refine (H2.out _).mono ?_
  rintro e w3 ⟨rfl, g3⟩
  have g3 := g2.trans (g3.mono g2.size)
  clear a0 a1 a2 a3 a4 a5 b0 b1 b2 b3 b4 b5
  obtain ⟨a0, a1, a2, a3, a4, a5⟩ := HX.out w3 g3
  obtain ⟨b0, b1, b2, b3, b4, b5⟩ := HZ.out w3 g3
  go_wp2_with fail
  go_ret
  exact ⟨rfl, g.trans (g3.mono g.size)⟩

set_option maxHeartbeats 4000000 in
theorem eqStoreResult_nil (q : Int) (u : Bool) (nx : Int) (w : World) : Calls Try.prog 6 #[.agg #[.int .i64 q, .int .i64 0, .bool u, .slice none 0 0, .slice none 0 0, .slice none 0 0, .slice none 0 0, .int .i64 nx], .agg #[.int .i64 q, .int .i64 0, .bool u, .slice none 0 0, .slice none 0 0, .slice none 0 0, .slice none 0 0, .int .i64 nx]] w fun e w' => e = .returned (.bool true) ∧ Below w.heap.size w w' := by
  have H0 : Hid (∀ V, Calls Try.prog 11 #[.agg #[.bool u, .slice none 0 0, .slice none 0 0, .slice none 0 0, .slice none 0 0, .int .i64 nx], .agg #[.bool u, .slice none 0 0, .slice none 0 0, .slice none 0 0, .slice none 0 0, .int .i64 nx]] V fun e w' => e = .returned (.bool true) ∧ Below V.heap.size V w') := fun V => eqStore_nil u nx V
  go_enter Try.func6, Try.ntmps6
  go_upto_region 1 with (fail)
  generalize hY : World.alloc _ _ = Y
  have g : Below w.heap.size w Y := by rw [← hY]; go_grown
  have X : C8 Y w.heap.size (.int .i64 q) (.int .i64 0) (.bool u) (.slice none 0 0) (.slice none 0 0) (.slice none 0 0) (.slice none 0 0) (.int .i64 nx) := by rw [← hY]; exact ⟨by simp [go_sem], by simp [go_sem], by simp [go_sem], by simp [go_sem], by simp [go_sem], by simp [go_sem], by simp [go_sem], by simp [go_sem]⟩
  have Z : C8 Y (w.heap.size + 1) (.int .i64 q) (.int .i64 0) (.bool u) (.slice none 0 0) (.slice none 0 0) (.slice none 0 0) (.slice none 0 0) (.int .i64 nx) := by rw [← hY]; exact ⟨by simp [go_sem], by simp [go_sem], by simp [go_sem], by simp [go_sem], by simp [go_sem], by simp [go_sem], by simp [go_sem], by simp [go_sem]⟩
  clear hY
  obtain ⟨ab, hab⟩ : ∃ ab, w.heap.size = ab := ⟨_, rfl⟩
  obtain ⟨bb, hbb⟩ : ∃ bb, ab + 1 = bb := ⟨_, rfl⟩
  rw [hab] at X Z
  rw [hbb] at Z
  simp only [hab]
  try simp only [hbb]
  have HAB : Hid (w.heap.size = ab) := hab
  clear hab hbb
  have lX := X.lt
  have HX : Hid (∀ V, Below Y.heap.size Y V → C8 V ab (.int .i64 q) (.int .i64 0) (.bool u) (.slice none 0 0) (.slice none 0 0) (.slice none 0 0) (.slice none 0 0) (.int .i64 nx)) := fun V hV => X.below hV lX
  have lZ := Z.lt
  have HZ : Hid (∀ V, Below Y.heap.size Y V → C8 V bb (.int .i64 q) (.int .i64 0) (.bool u) (.slice none 0 0) (.slice none 0 0) (.slice none 0 0) (.slice none 0 0) (.int .i64 nx)) := fun V hV => Z.below hV lZ
  obtain ⟨a0, a1, a2, a3, a4, a5, a6, a7⟩ := X
  obtain ⟨b0, b1, b2, b3, b4, b5, b6, b7⟩ := Z
  go_wp2_with fail
  refine (H0.out _).mono ?_
  rintro e w1 ⟨rfl, g1⟩
  clear a0 a1 a2 a3 a4 a5 a6 a7 b0 b1 b2 b3 b4 b5 b6 b7
  obtain ⟨a0, a1, a2, a3, a4, a5, a6, a7⟩ := HX.out w1 g1
  obtain ⟨b0, b1, b2, b3, b4, b5, b6, b7⟩ := HZ.out w1 g1
  go_wp2_with fail
  go_ret
  exact ⟨rfl, g.trans (g1.mono g.size)⟩

set_option maxHeartbeats 4000000 in
theorem markLog_nil  (k : Nat) (w : World) : Calls Try.prog 21 #[.agg #[.slice none 0 0, .slice none 0 0], .int .i64 k] w fun e w' => e = .returned (.int .i64 k) ∧ Below w.heap.size w w' := by
  have H0 : Hid (∀ V, Calls Try.prog 29 #[.slice none 0 0, .int .i64 k] V fun e w' => e = .returned (.int .i64 k) ∧ Below V.heap.size V w') := fun V => markByteS_nil k V
  have H1 : Hid (∀ V, Calls Try.prog 29 #[.slice none 0 0, .int .i64 k] V fun e w' => e = .returned (.int .i64 k) ∧ Below V.heap.size V w') := fun V => markByteS_nil k V
  go_enter Try.func21, Try.ntmps21
  go_upto_region 1 with (fail)
  generalize hY : World.alloc _ _ = Y
  have g : Below w.heap.size w Y := by rw [← hY]; go_grown
  have X : C2 Y w.heap.size (.slice none 0 0) (.slice none 0 0) := by rw [← hY]; exact ⟨by simp [go_sem], by simp [go_sem]⟩
  clear hY
  obtain ⟨ab, hab⟩ : ∃ ab, w.heap.size = ab := ⟨_, rfl⟩
  rw [hab] at X
  simp only [hab]
  have HAB : Hid (w.heap.size = ab) := hab
  clear hab
  have lX := X.lt
  have HX : Hid (∀ V, Below Y.heap.size Y V → C2 V ab (.slice none 0 0) (.slice none 0 0)) := fun V hV => X.below hV lX
  obtain ⟨a0, a1⟩ := X
  go_wp2_with fail
  refine (H0.out _).mono ?_
  rintro e w1 ⟨rfl, g1⟩
  clear a0 a1
  obtain ⟨a0, a1⟩ := HX.out w1 g1
  go_wp2_with fail
  refine (H1.out _).mono ?_
  rintro e w2 ⟨rfl, g2⟩
  have g2 := g1.trans (g2.mono g1.size)
  clear a0 a1
  obtain ⟨a0, a1⟩ := HX.out w2 g2
  go_wp2_with fail
  go_ret
  exact ⟨rfl, g.trans (g2.mono g.size)⟩

set_option maxHeartbeats 4000000 in
theorem markStore_nil (u : Bool) (nx : Int) (k : Nat) (w : World) : Calls Try.prog 12 #[.agg #[.bool u, .slice none 0 0, .slice none 0 0, .slice none 0 0, .slice none 0 0, .int .i64 nx], .int .i64 k] w fun e w' => e = .returned (.int .i64 k) ∧ Below w.heap.size w w' := by
  have H0 : Hid (∀ V, Calls Try.prog 20 #[.slice none 0 0, .int .i64 k] V fun e w' => e = .returned (.int .i64 k) ∧ Below V.heap.size V w') := fun V => markByteSS_nil k V
  have H1 : Hid (∀ V, Calls Try.prog 21 #[.agg #[.slice none 0 0, .slice none 0 0], .int .i64 k] V fun e w' => e = .returned (.int .i64 k) ∧ Below V.heap.size V w') := fun V => markLog_nil k V
  have H2 : Hid (∀ V, Calls Try.prog 22 #[.slice none 0 0, .int .i64 k] V fun e w' => e = .returned (.int .i64 k) ∧ Below V.heap.size V w') := fun V => markTxS_nil k V
  go_enter Try.func12, Try.ntmps12
  go_upto_region 1 with (fail)
  generalize hY : World.alloc _ _ = Y
  have g : Below w.heap.size w Y := by rw [← hY]; go_grown
  have X : C6 Y w.heap.size (.bool u) (.slice none 0 0) (.slice none 0 0) (.slice none 0 0) (.slice none 0 0) (.int .i64 nx) := by rw [← hY]; exact ⟨by simp [go_sem], by simp [go_sem], by simp [go_sem], by simp [go_sem], by simp [go_sem], by simp [go_sem]⟩
  clear hY
  obtain ⟨ab, hab⟩ : ∃ ab, w.heap.size = ab := ⟨_, rfl⟩
  rw [hab] at X
  simp only [hab]
  have HAB : Hid (w.heap.size = ab) := hab
  clear hab
  have lX := X.lt
  have HX : Hid (∀ V, Below Y.heap.size Y V → C6 V ab (.bool u) (.slice none 0 0) (.slice none 0 0) (.slice none 0 0) (.slice none 0 0) (.int .i64 nx)) := fun V hV => X.below hV lX
  obtain ⟨a0, a1, a2, a3, a4, a5⟩ := X
  go_wp2_with fail
  refine (H0.out _).mono ?_
  rintro e w1 ⟨rfl, g1⟩
  clear a0 a1 a2 a3 a4 a5
  obtain ⟨a0, a1, a2, a3, a4, a5⟩ := HX.out w1 g1
  go_wp2_with fail
  refine (H1.out _).mono ?_
  rintro e w2 ⟨rfl, g2⟩
  have g2 := g1.trans (g2.mono g1.size)
  clear a0 a1 a2 a3 a4 a5
  obtain ⟨a0, a1, a2, a3, a4, a5⟩ := HX.out w2 g2
  go_wp2_with fail
  refine (H2.out _).mono ?_
  rintro e w3 ⟨rfl, g3⟩
  have g3 := g2.trans (g3.mono g2.size)
  clear a0 a1 a2 a3 a4 a5
  obtain ⟨a0, a1, a2, a3, a4, a5⟩ := HX.out w3 g3
  go_wp2_with fail
  go_ret
  exact ⟨rfl, g.trans (g3.mono g.size)⟩

set_option maxHeartbeats 4000000 in
theorem markStoreResult_nil (q : Int) (u : Bool) (nx : Int) (k : Nat) (w : World) : Calls Try.prog 7 #[.agg #[.int .i64 q, .int .i64 0, .bool u, .slice none 0 0, .slice none 0 0, .slice none 0 0, .slice none 0 0, .int .i64 nx], .int .i64 k] w fun e w' => e = .returned (.int .i64 k) ∧ Below w.heap.size w w' := by
  have H0 : Hid (∀ V, Calls Try.prog 12 #[.agg #[.bool u, .slice none 0 0, .slice none 0 0, .slice none 0 0, .slice none 0 0, .int .i64 nx], .int .i64 k] V fun e w' => e = .returned (.int .i64 k) ∧ Below V.heap.size V w') := fun V => markStore_nil u nx k V
  go_enter Try.func7, Try.ntmps7
  go_upto_region 1 with (fail)
  generalize hY : World.alloc _ _ = Y
  have g : Below w.heap.size w Y := by rw [← hY]; go_grown
  have X : C8 Y w.heap.size (.int .i64 q) (.int .i64 0) (.bool u) (.slice none 0 0) (.slice none 0 0) (.slice none 0 0) (.slice none 0 0) (.int .i64 nx) := by rw [← hY]; exact ⟨by simp [go_sem], by simp [go_sem], by simp [go_sem], by simp [go_sem], by simp [go_sem], by simp [go_sem], by simp [go_sem], by simp [go_sem]⟩
  clear hY
  obtain ⟨ab, hab⟩ : ∃ ab, w.heap.size = ab := ⟨_, rfl⟩
  rw [hab] at X
  simp only [hab]
  have HAB : Hid (w.heap.size = ab) := hab
  clear hab
  have lX := X.lt
  have HX : Hid (∀ V, Below Y.heap.size Y V → C8 V ab (.int .i64 q) (.int .i64 0) (.bool u) (.slice none 0 0) (.slice none 0 0) (.slice none 0 0) (.slice none 0 0) (.int .i64 nx)) := fun V hV => X.below hV lX
  obtain ⟨a0, a1, a2, a3, a4, a5, a6, a7⟩ := X
  go_wp2_with fail
  refine (H0.out _).mono ?_
  rintro e w1 ⟨rfl, g1⟩
  clear a0 a1 a2 a3 a4 a5 a6 a7
  obtain ⟨a0, a1, a2, a3, a4, a5, a6, a7⟩ := HX.out w1 g1
  go_wp2_with fail
  go_ret
  exact ⟨rfl, g.trans (g1.mono g.size)⟩

set_option maxHeartbeats 4000000 in
theorem heldLog_nil  (k : Nat) (w : World) : Calls Try.prog 24 #[.agg #[.slice none 0 0, .slice none 0 0], .int .i64 k] w fun e w' => e = .returned (.int .i64 k) ∧ Below w.heap.size w w' := by
  have H0 : Hid (∀ V, Calls Try.prog 33 #[.slice none 0 0, .int .i64 k] V fun e w' => e = .returned (.int .i64 k) ∧ Below V.heap.size V w') := fun V => heldByteS_nil k V
  have H1 : Hid (∀ V, Calls Try.prog 33 #[.slice none 0 0, .int .i64 k] V fun e w' => e = .returned (.int .i64 k) ∧ Below V.heap.size V w') := fun V => heldByteS_nil k V
  have hnn : ¬ ((k : Nat) : Int) < 0 := by omega
  go_enter Try.func24, Try.ntmps24
  go_upto_region 1 with (fail)
  generalize hY : World.alloc _ _ = Y
  have g : Below w.heap.size w Y := by rw [← hY]; go_grown
  have X : C2 Y w.heap.size (.slice none 0 0) (.slice none 0 0) := by rw [← hY]; exact ⟨by simp [go_sem], by simp [go_sem]⟩
  clear hY
  obtain ⟨ab, hab⟩ : ∃ ab, w.heap.size = ab := ⟨_, rfl⟩
  rw [hab] at X
  simp only [hab]
  have HAB : Hid (w.heap.size = ab) := hab
  clear hab
  have lX := X.lt
  have HX : Hid (∀ V, Below Y.heap.size Y V → C2 V ab (.slice none 0 0) (.slice none 0 0)) := fun V hV => X.below hV lX
  obtain ⟨a0, a1⟩ := X
  go_wp2_with fail
  refine (H0.out _).mono ?_
  rintro e w1 ⟨rfl, g1⟩
  clear a0 a1
  obtain ⟨a0, a1⟩ := HX.out w1 g1
  go_wp2_with fail
  refine (H1.out _).mono ?_
  rintro e w2 ⟨rfl, g2⟩
  have g2 := g1.trans (g2.mono g1.size)
  clear a0 a1
  obtain ⟨a0, a1⟩ := HX.out w2 g2
  go_wp2_with fail
  go_ret
  exact ⟨rfl, g.trans (g2.mono g.size)⟩

set_option maxHeartbeats 4000000 in
theorem heldStore_nil (u : Bool) (nx : Int) (k : Nat) (w : World) : Calls Try.prog 13 #[.agg #[.bool u, .slice none 0 0, .slice none 0 0, .slice none 0 0, .slice none 0 0, .int .i64 nx], .int .i64 k] w fun e w' => e = .returned (.int .i64 k) ∧ Below w.heap.size w w' := by
  have H0 : Hid (∀ V, Calls Try.prog 23 #[.slice none 0 0, .int .i64 k] V fun e w' => e = .returned (.int .i64 k) ∧ Below V.heap.size V w') := fun V => heldByteSS_nil k V
  have H1 : Hid (∀ V, Calls Try.prog 24 #[.agg #[.slice none 0 0, .slice none 0 0], .int .i64 k] V fun e w' => e = .returned (.int .i64 k) ∧ Below V.heap.size V w') := fun V => heldLog_nil k V
  have H2 : Hid (∀ V, Calls Try.prog 25 #[.slice none 0 0, .int .i64 k] V fun e w' => e = .returned (.int .i64 k) ∧ Below V.heap.size V w') := fun V => heldTxS_nil k V
  have hnn : ¬ ((k : Nat) : Int) < 0 := by omega
  go_enter Try.func13, Try.ntmps13
  go_upto_region 1 with (fail)
  generalize hY : World.alloc _ _ = Y
  have g : Below w.heap.size w Y := by rw [← hY]; go_grown
  have X : C6 Y w.heap.size (.bool u) (.slice none 0 0) (.slice none 0 0) (.slice none 0 0) (.slice none 0 0) (.int .i64 nx) := by rw [← hY]; exact ⟨by simp [go_sem], by simp [go_sem], by simp [go_sem], by simp [go_sem], by simp [go_sem], by simp [go_sem]⟩
  clear hY
  obtain ⟨ab, hab⟩ : ∃ ab, w.heap.size = ab := ⟨_, rfl⟩
  rw [hab] at X
  simp only [hab]
  have HAB : Hid (w.heap.size = ab) := hab
  clear hab
  have lX := X.lt
  have HX : Hid (∀ V, Below Y.heap.size Y V → C6 V ab (.bool u) (.slice none 0 0) (.slice none 0 0) (.slice none 0 0) (.slice none 0 0) (.int .i64 nx)) := fun V hV => X.below hV lX
  obtain ⟨a0, a1, a2, a3, a4, a5⟩ := X
  go_wp2_with fail
  refine (H0.out _).mono ?_
  rintro e w1 ⟨rfl, g1⟩
  clear a0 a1 a2 a3 a4 a5
  obtain ⟨a0, a1, a2, a3, a4, a5⟩ := HX.out w1 g1
  go_wp2_with fail
  refine (H1.out _).mono ?_
  rintro e w2 ⟨rfl, g2⟩
  have g2 := g1.trans (g2.mono g1.size)
  clear a0 a1 a2 a3 a4 a5
  obtain ⟨a0, a1, a2, a3, a4, a5⟩ := HX.out w2 g2
  go_wp2_with fail
  refine (H2.out _).mono ?_
  rintro e w3 ⟨rfl, g3⟩
  have g3 := g2.trans (g3.mono g2.size)
  clear a0 a1 a2 a3 a4 a5
  obtain ⟨a0, a1, a2, a3, a4, a5⟩ := HX.out w3 g3
  go_wp2_with fail
  go_ret
  exact ⟨rfl, g.trans (g3.mono g.size)⟩

set_option maxHeartbeats 4000000 in
theorem heldStoreResult_nil (q : Int) (u : Bool) (nx : Int) (k : Nat) (w : World) : Calls Try.prog 8 #[.agg #[.int .i64 q, .int .i64 0, .bool u, .slice none 0 0, .slice none 0 0, .slice none 0 0, .slice none 0 0, .int .i64 nx], .int .i64 k] w fun e w' => e = .returned (.int .i64 k) ∧ Below w.heap.size w w' := by
  have H0 : Hid (∀ V, Calls Try.prog 13 #[.agg #[.bool u, .slice none 0 0, .slice none 0 0, .slice none 0 0, .slice none 0 0, .int .i64 nx], .int .i64 k] V fun e w' => e = .returned (.int .i64 k) ∧ Below V.heap.size V w') := fun V => heldStore_nil u nx k V
  have hnn : ¬ ((k : Nat) : Int) < 0 := by omega
  go_enter Try.func8, Try.ntmps8
  go_upto_region 1 with (fail)
  generalize hY : World.alloc _ _ = Y
  have g : Below w.heap.size w Y := by rw [← hY]; go_grown
  have X : C8 Y w.heap.size (.int .i64 q) (.int .i64 0) (.bool u) (.slice none 0 0) (.slice none 0 0) (.slice none 0 0) (.slice none 0 0) (.int .i64 nx) := by rw [← hY]; exact ⟨by simp [go_sem], by simp [go_sem], by simp [go_sem], by simp [go_sem], by simp [go_sem], by simp [go_sem], by simp [go_sem], by simp [go_sem]⟩
  clear hY
  obtain ⟨ab, hab⟩ : ∃ ab, w.heap.size = ab := ⟨_, rfl⟩
  rw [hab] at X
  simp only [hab]
  have HAB : Hid (w.heap.size = ab) := hab
  clear hab
  have lX := X.lt
  have HX : Hid (∀ V, Below Y.heap.size Y V → C8 V ab (.int .i64 q) (.int .i64 0) (.bool u) (.slice none 0 0) (.slice none 0 0) (.slice none 0 0) (.slice none 0 0) (.int .i64 nx)) := fun V hV => X.below hV lX
  obtain ⟨a0, a1, a2, a3, a4, a5, a6, a7⟩ := X
  go_wp2_with fail
  refine (H0.out _).mono ?_
  rintro e w1 ⟨rfl, g1⟩
  clear a0 a1 a2 a3 a4 a5 a6 a7
  obtain ⟨a0, a1, a2, a3, a4, a5, a6, a7⟩ := HX.out w1 g1
  go_wp2_with fail
  go_ret
  exact ⟨rfl, g.trans (g1.mono g.size)⟩

end Go.Proofs.Ytdlcihgeopekgaa
