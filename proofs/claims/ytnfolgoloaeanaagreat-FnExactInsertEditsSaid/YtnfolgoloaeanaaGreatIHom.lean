/-
  The program's homeOf.
-/
import Derived.Test.YtnfolgoloaeanaaGreatIDpc
import Derived.Test.YtnfolgoloaeanaaGreatIMce

namespace Go.Proofs.YtnfolgoloaeanaaGreat
open Go.RowKit
set_option linter.unusedVariables false

/-- Two cells that may be written. -/
structure B2 (w : World) (b : Nat) (x y : Value) : Prop where
  c0 : w.cell? ⟨b, 0, none⟩ = some x
  c1 : w.cell? ⟨b, 1, none⟩ = some y
  f0 : w.frozen? ⟨b, 0, none⟩ = false
  f1 : w.frozen? ⟨b, 1, none⟩ = false
theorem B2.lt {w : World} {b : Nat} {x y : Value} (h : B2 w b x y) : b < w.heap.size := World.block_lt_of_cell? w _ h.c0
theorem B2.below {w w' : World} {b B : Nat} {x y : Value} (h : B2 w b x y) (hb : Below B w w') (hB : b < B) : B2 w' b x y :=
  ⟨(hb.cell (p := ⟨b, 0, none⟩) hB).trans h.c0, (hb.cell (p := ⟨b, 1, none⟩) hB).trans h.c1, (hb.frozen (p := ⟨b, 0, none⟩) hB).trans h.f0, (hb.frozen (p := ⟨b, 1, none⟩) hB).trans h.f1⟩
theorem B2.turnS {w w' : World} {b : Nat} {x y : Value} {S : Nat → Prop} (h : B2 w b x y) (ht : TurnS S w w') (hn : ¬ S b) : B2 w' b x y :=
  ⟨ht.cell (p := ⟨b, 0, none⟩) h.c0 hn, ht.cell (p := ⟨b, 1, none⟩) h.c1 hn, (ht.frozen (p := ⟨b, 0, none⟩) h.c0 hn).trans h.f0, (ht.frozen (p := ⟨b, 1, none⟩) h.c1 hn).trans h.f1⟩
theorem B2.new (w : World) (x y : Value) (t : TypeId) : B2 (w.alloc (.cells #[x, y] t)) w.heap.size x y := ⟨by simp [go_sem], by simp [go_sem], by simp [go_sem], by simp [go_sem]⟩

/-- Ten cells of a new cell and its place, which may be written. -/
structure PcN (w : World) (b : Nat) : Prop where
  c0 : w.cell? ⟨b, 0, none⟩ = some (.int .i64 0)
  c1 : w.cell? ⟨b, 1, none⟩ = some (.int .i64 0)
  c2 : w.cell? ⟨b, 2, none⟩ = some (.int .i64 0)
  c3 : w.cell? ⟨b, 3, none⟩ = some (.int .i64 0)
  c4 : w.cell? ⟨b, 4, none⟩ = some (.int .i64 0)
  c5 : w.cell? ⟨b, 5, none⟩ = some (.int .i64 0)
  c6 : w.cell? ⟨b, 6, none⟩ = some (.int .i64 0)
  c7 : w.cell? ⟨b, 7, none⟩ = some (.int .i64 0)
  c8 : w.cell? ⟨b, 8, none⟩ = some (.int .i64 0)
  c9 : w.cell? ⟨b, 9, none⟩ = some (.string ⟨#[]⟩)
  f0 : w.frozen? ⟨b, 0, none⟩ = false
  f1 : w.frozen? ⟨b, 1, none⟩ = false
  f2 : w.frozen? ⟨b, 2, none⟩ = false
  f3 : w.frozen? ⟨b, 3, none⟩ = false
  f4 : w.frozen? ⟨b, 4, none⟩ = false
  f5 : w.frozen? ⟨b, 5, none⟩ = false
  f6 : w.frozen? ⟨b, 6, none⟩ = false
  f7 : w.frozen? ⟨b, 7, none⟩ = false
  f8 : w.frozen? ⟨b, 8, none⟩ = false
  f9 : w.frozen? ⟨b, 9, none⟩ = false
theorem PcN.lt {w : World} {b : Nat} (h : PcN w b) : b < w.heap.size := World.block_lt_of_cell? w _ h.c0
theorem PcN.new (w : World) : PcN (w.alloc (.cells #[.int .i64 0, .int .i64 0, .int .i64 0, .int .i64 0, .int .i64 0, .int .i64 0, .int .i64 0, .int .i64 0, .int .i64 0, .string ⟨#[]⟩] 186)) w.heap.size := ⟨by simp [go_sem], by simp [go_sem], by simp [go_sem], by simp [go_sem], by simp [go_sem], by simp [go_sem], by simp [go_sem], by simp [go_sem], by simp [go_sem], by simp [go_sem], by simp [go_sem], by simp [go_sem], by simp [go_sem], by simp [go_sem], by simp [go_sem], by simp [go_sem], by simp [go_sem], by simp [go_sem], by simp [go_sem], by simp [go_sem]⟩
theorem PcN.below {w w' : World} {b B : Nat} (h : PcN w b) (hb : Below B w w') (hB : b < B) : PcN w' b := ⟨(hb.cell (p := ⟨b, 0, none⟩) hB).trans h.c0, (hb.cell (p := ⟨b, 1, none⟩) hB).trans h.c1, (hb.cell (p := ⟨b, 2, none⟩) hB).trans h.c2, (hb.cell (p := ⟨b, 3, none⟩) hB).trans h.c3, (hb.cell (p := ⟨b, 4, none⟩) hB).trans h.c4, (hb.cell (p := ⟨b, 5, none⟩) hB).trans h.c5, (hb.cell (p := ⟨b, 6, none⟩) hB).trans h.c6, (hb.cell (p := ⟨b, 7, none⟩) hB).trans h.c7, (hb.cell (p := ⟨b, 8, none⟩) hB).trans h.c8, (hb.cell (p := ⟨b, 9, none⟩) hB).trans h.c9, (hb.frozen (p := ⟨b, 0, none⟩) hB).trans h.f0, (hb.frozen (p := ⟨b, 1, none⟩) hB).trans h.f1, (hb.frozen (p := ⟨b, 2, none⟩) hB).trans h.f2, (hb.frozen (p := ⟨b, 3, none⟩) hB).trans h.f3, (hb.frozen (p := ⟨b, 4, none⟩) hB).trans h.f4, (hb.frozen (p := ⟨b, 5, none⟩) hB).trans h.f5, (hb.frozen (p := ⟨b, 6, none⟩) hB).trans h.f6, (hb.frozen (p := ⟨b, 7, none⟩) hB).trans h.f7, (hb.frozen (p := ⟨b, 8, none⟩) hB).trans h.f8, (hb.frozen (p := ⟨b, 9, none⟩) hB).trans h.f9⟩
theorem B2.turned {w w' : World} {b lo hi : Nat} {x y : Value} (h : B2 w b x y) (ht : Turned lo hi w w') (hn : b < lo ∨ hi ≤ b) : B2 w' b x y :=
  ⟨ht.cell (p := ⟨b, 0, none⟩) h.c0 hn, ht.cell (p := ⟨b, 1, none⟩) h.c1 hn, (ht.frozen (p := ⟨b, 0, none⟩) h.c0 hn).trans h.f0, (ht.frozen (p := ⟨b, 1, none⟩) h.c1 hn).trans h.f1⟩

/-- What homeOf needs of the world along its region: boxes and the way to the page. -/
structure HoW (w : World) (n₀ : Nat) (X : World) (ob : Nat) (es : List (Int × List Int)) (cur : List (List Int)) (x1 : Option Addr) (k1 : Nat) (V1 : List Value) (x2 : Option Addr) (k2 : Nat) (V2 : List Value) (bb rb : Nat) (pn sn : Nat) (V : World) : Prop where
  h : HpS n₀ X ob es cur x1 k1 V1 x2 k2 V2 V
  b : B2 V bb (.int .i64 pn) (.int .i64 sn)
  r : B2 V rb (.int .i64 0) (.int .i64 0)
  g : Below w.heap.size w V
  l : w.heap.size ≤ bb
  m : w.heap.size ≤ rb
theorem HoW.below {w : World} {n₀ : Nat} {X : World} {ob : Nat} {es : List (Int × List Int)} {cur : List (List Int)} {x1 : Option Addr} {k1 : Nat} {V1 : List Value} {x2 : Option Addr} {k2 : Nat} {V2 : List Value} {bb rb pn sn : Nat} {V V' : World} (h : HoW w n₀ X ob es cur x1 k1 V1 x2 k2 V2 bb rb pn sn V) (hb : Below V.heap.size V V') : HoW w n₀ X ob es cur x1 k1 V1 x2 k2 V2 bb rb pn sn V' :=
  ⟨h.h.below hb, h.b.below hb h.b.lt, h.r.below hb h.r.lt, h.g.trans (hb.mono h.g.size), h.l, h.m⟩

end Go.Proofs.YtnfolgoloaeanaaGreat

