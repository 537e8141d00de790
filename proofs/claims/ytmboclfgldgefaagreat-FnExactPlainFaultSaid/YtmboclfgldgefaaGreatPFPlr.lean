/-
  A plain one and its answer: compared, marked, looked at again.
-/
import Derived.Test.YtmboclfgldgefaaGreatPFMkr
import Derived.Test.YtmboclfgldgefaaGreatPFMtt
import Derived.Test.YtmboclfgldgefaaGreatPFRwt

namespace Go.Proofs.YtmboclfgldgefaaGreat
open Go.RowKit Go.Maps
set_option linter.unusedVariables false
set_option maxRecDepth 20000

/-- Three cells of a plain one; five of its answer. -/
structure P3 (w : World) (b : Nat) (x y z : Value) : Prop where
  c0 : w.cell? ⟨b, 0, none⟩ = some x
  c1 : w.cell? ⟨b, 1, none⟩ = some y
  c2 : w.cell? ⟨b, 2, none⟩ = some z
theorem P3.lt {w : World} {b : Nat} {x y z : Value} (h : P3 w b x y z) : b < w.heap.size := World.block_lt_of_cell? w _ h.c0
theorem P3.below {w w' : World} {b B : Nat} {x y z : Value} (h : P3 w b x y z) (hb : Below B w w') (hl : b < B) : P3 w' b x y z :=
  ⟨(hb.cell (p := ⟨b, 0, none⟩) hl).trans h.c0, (hb.cell (p := ⟨b, 1, none⟩) hl).trans h.c1, (hb.cell (p := ⟨b, 2, none⟩) hl).trans h.c2⟩
structure P5 (w : World) (b : Nat) (p q : Int) (x y z : Value) : Prop where
  c0 : w.cell? ⟨b, 0, none⟩ = some (.int .i64 p)
  c1 : w.cell? ⟨b, 1, none⟩ = some (.int .i64 q)
  c2 : w.cell? ⟨b, 2, none⟩ = some x
  c3 : w.cell? ⟨b, 3, none⟩ = some y
  c4 : w.cell? ⟨b, 4, none⟩ = some z
theorem P5.lt {w : World} {b : Nat} {p q : Int} {x y z : Value} (h : P5 w b p q x y z) : b < w.heap.size := World.block_lt_of_cell? w _ h.c0
theorem P5.below {w w' : World} {b B : Nat} {p q : Int} {x y z : Value} (h : P5 w b p q x y z) (hb : Below B w w') (hl : b < B) : P5 w' b p q x y z :=
  ⟨(hb.cell (p := ⟨b, 0, none⟩) hl).trans h.c0, (hb.cell (p := ⟨b, 1, none⟩) hl).trans h.c1, (hb.cell (p := ⟨b, 2, none⟩) hl).trans h.c2, (hb.cell (p := ⟨b, 3, none⟩) hl).trans h.c3, (hb.cell (p := ⟨b, 4, none⟩) hl).trans h.c4⟩

set_option maxHeartbeats 4000000 in
theorem eqPlain_same (ra ra' : Option Addr) (rs : List Rw) (rn rc rd : Nat) (a a' : Option Addr) (xs : List TxV) (n c d : Nat) (nx : Int) (w : World) (hrn : rs.length = rn) (hrm : rn ≤ 9223372036854775807) (hr : Rs rwE 4 w ra rs) (hr' : Rs rwE 4 w ra' rs) (hn : xs.length = n) (hm : n ≤ 9223372036854775807) (hs : ∀ x ∈ xs, TxOk 1048576 x) (hx : TxRd w a xs) (hx' : TxRd w a' xs) :
    Calls Tryz.prog 9 #[.agg #[.slice ra rn rc, .slice a n c, .int .i64 nx], .agg #[.slice ra' rn rd, .slice a' n d, .int .i64 nx]] w fun e w' => e = .returned (.bool true) ∧ Below w.heap.size w w' := by
  have HE1 : Hid (∀ V, Below w.heap.size w V → Calls Tryz.prog 27 #[.slice ra rn rc, .slice ra' rn rd] V fun e w' => e = .returned (.bool true) ∧ Below V.heap.size V w') := fun V hV => eqRowS_same ra ra' rs rn rc rd V hrn hrm (hr.below hV (Nat.le_refl _)) (hr'.below hV (Nat.le_refl _))
  have HE2 : Hid (∀ V, Below w.heap.size w V → Calls Tryz.prog 28 #[.slice a n c, .slice a' n d] V fun e w' => e = .returned (.bool true) ∧ Below V.heap.size V w') := fun V hV => eqTxS_same a a' xs n c d V hn hs hm (hx.below hV (Nat.le_refl _)) (hx'.below hV (Nat.le_refl _))
  clear hrn hr hr' hn hs hx hx'
  go_enter Tryz.func9, Tryz.ntmps9
  go_upto_region 1 with (fail)
  generalize hY : World.alloc _ _ = Y
  have g : Below w.heap.size w Y := by rw [← hY]; go_grown
  have A : P3 Y w.heap.size (.slice ra rn rc) (.slice a n c) (.int .i64 nx) := by rw [← hY]; exact ⟨by simp [go_sem], by simp [go_sem], by simp [go_sem]⟩
  have B : P3 Y (w.heap.size + 1) (.slice ra' rn rd) (.slice a' n d) (.int .i64 nx) := by rw [← hY]; exact ⟨by simp [go_sem], by simp [go_sem], by simp [go_sem]⟩
  clear hY
  obtain ⟨ab, hab⟩ : ∃ ab, w.heap.size = ab := ⟨_, rfl⟩
  obtain ⟨bb, hbb⟩ : ∃ bb, ab + 1 = bb := ⟨_, rfl⟩
  rw [hab] at A B
  rw [hbb] at B
  simp only [hab]
  try simp only [hbb]
  have HAB : Hid (w.heap.size = ab) := hab
  clear hab hbb
  have lA := A.lt
  have lB := B.lt
  have HA : Hid (∀ V, Below Y.heap.size Y V → P3 V ab (.slice ra rn rc) (.slice a n c) (.int .i64 nx)) := fun V hV => A.below hV lA
  have HB : Hid (∀ V, Below Y.heap.size Y V → P3 V bb (.slice ra' rn rd) (.slice a' n d) (.int .i64 nx)) := fun V hV => B.below hV lB
  obtain ⟨a0, a1, a2⟩ := A
  obtain ⟨b0, b1, b2⟩ := B
  go_wp2_with fail
  refine (HE1.out _ g).mono ?_
  rintro e w1 ⟨rfl, g1⟩
  obtain ⟨a0, a1, a2⟩ := HA.out w1 g1
  obtain ⟨b0, b1, b2⟩ := HB.out w1 g1
  have hcon := HE2.out w1 (g.trans (g1.mono g.size))
  go_wp2_with fail
  refine hcon.mono ?_
  rintro e w2 ⟨rfl, g2⟩
  have g2 := g1.trans (g2.mono g1.size)
  obtain ⟨a0, a1, a2⟩ := HA.out w2 g2
  obtain ⟨b0, b1, b2⟩ := HB.out w2 g2
  have g := g.trans (g2.mono g.size)
  go_wp2_with fail
  go_ret
  exact ⟨rfl, g⟩

theorem rs_nil {α : Type} {enc : α → List Value} {k : Nat} {w : World} {a : Option Addr} : Rs enc k w a [] := .inl rfl
theorem Below.ofTurned0 {w w' : World} (h : Turned 0 0 w w') : Below w.heap.size w w' := ⟨h.os, h.tape, h.output, h.size, fun k hk => h.block k hk (by omega)⟩
set_option maxHeartbeats 4000000 in
theorem markPlain_nil (nx : Int) (k : Nat) (w : World) (hk0 : 1 ≤ k) (hk1 : k ≤ 1000) :
    Calls Tryz.prog 13 #[.agg #[.slice none 0 0, .slice none 0 0, .int .i64 nx], .int .i64 k] w fun e w' => e = .returned (.int .i64 k) ∧ Below w.heap.size w w' := by
  have H1 : Hid (∀ V, Calls Tryz.prog 30 #[.slice none 0 0, .int .i64 k] V fun e w' => e = .returned (.int .i64 k) ∧ Below V.heap.size V w') := fun V => (markRowS_wide none 0 0 [] 0 0 k V rfl (by omega) hk0 (by omega) (.inl rfl)).mono fun e w' h => ⟨h.1, Below.ofTurned0 h.2.1⟩
  have H2 : Hid (∀ V, Calls Tryz.prog 31 #[.slice none 0 0, .int .i64 k] V fun e w' => e = .returned (.int .i64 k) ∧ Below V.heap.size V w') := fun V => (markTxS_any none V.heap.size [] 0 0 k V rfl (by omega) (fun x hx => by simp at hx) hk0 (by have : cS [] = 0 := rfl; omega) (Nat.le_refl _) (.inl rfl)).mono fun e w' h => ⟨h.1, h.2.1⟩
  go_enter Tryz.func13, Tryz.ntmps13
  go_upto_region 1 with (fail)
  generalize hY : World.alloc _ _ = Y
  have g : Below w.heap.size w Y := by rw [← hY]; go_grown
  have A : P3 Y w.heap.size (.slice none 0 0) (.slice none 0 0) (.int .i64 nx) := by rw [← hY]; exact ⟨by simp [go_sem], by simp [go_sem], by simp [go_sem]⟩
  clear hY
  obtain ⟨ab, hab⟩ : ∃ ab, w.heap.size = ab := ⟨_, rfl⟩
  rw [hab] at A
  simp only [hab]
  have HAB : Hid (w.heap.size = ab) := hab
  clear hab
  have lA := A.lt
  have HA : Hid (∀ V, Below Y.heap.size Y V → P3 V ab (.slice none 0 0) (.slice none 0 0) (.int .i64 nx)) := fun V hV => A.below hV lA
  obtain ⟨a0, a1, a2⟩ := A
  go_wp2_with fail
  refine (H1.out _).mono ?_
  rintro e w1 ⟨rfl, g1⟩
  obtain ⟨a0, a1, a2⟩ := HA.out w1 g1
  have g := g.trans (g1.mono g.size)
  go_wp2_with fail
  refine (H2.out _).mono ?_
  rintro e w2 ⟨rfl, g2⟩
  have g := g.trans (g2.mono g.size)
  clear a0 a1 a2 g1
  go_wp2_with fail
  go_ret
  exact ⟨rfl, g⟩
end Go.Proofs.YtmboclfgldgefaaGreat
