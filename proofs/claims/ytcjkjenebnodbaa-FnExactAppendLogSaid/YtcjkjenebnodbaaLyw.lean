/-
  What the laws of functions that answer a log carry.
-/
import Derived.Test.YtcjkjenebnodbaaSsy
namespace Go.Proofs.Ytcjkjenebnodbaa
open Go.RowKit
set_option linter.unusedVariables false

/-- Block b holds the three cells of a LogResult. -/
structure L3 (V : World) (b : Nat) (q : Int) (p : Option Addr) (u c : Nat) (r : Option Addr) (v d : Nat) : Prop where
  c0 : V.cell? ⟨b, 0, none⟩ = some (.int .i64 q)
  c1 : V.cell? ⟨b, 1, none⟩ = some (.slice p u c)
  c2 : V.cell? ⟨b, 2, none⟩ = some (.slice r v d)
theorem L3.up {V W : World} {b : Nat} {q : Int} {p r : Option Addr} {u c v d : Nat} (h : L3 V b q p u c r v d) (hb : Below V.heap.size V W) : L3 W b q p u c r v d := ⟨cellUp hb h.c0, cellUp hb h.c1, cellUp hb h.c2⟩
theorem L3.turned {lo hi b : Nat} {V W : World} {q : Int} {p r : Option Addr} {u c v d : Nat} (h : L3 V b q p u c r v d) (ht : Turned lo hi V W) (hn : b < lo ∨ hi ≤ b) : L3 W b q p u c r v d :=
  ⟨ht.cell h.c0 (by simp only; omega), ht.cell h.c1 (by simp only; omega), ht.cell h.c2 (by simp only; omega)⟩

theorem syB_len (xs ys : List Int) : (syB xs ys).length ≤ xs.length + ys.length := by
  unfold syB
  split
  · rw [List.length_append]; exact Nat.le_refl _
  · exact Nat.zero_le _

/-- The argument in its box, the model's answer, the copy that was handed in, the program's answer: each with its bytes. -/
structure LyS (w : World) (x y : Option Addr) (n c m d : Nat) (q : Int) (us vs : List Int) (u v : Nat) (p3 r3 : Option Addr) (c3 d3 : Nat) (px qx : Option Addr) (xs ys : List Int) (p5 r5 : Option Addr) (c5 d5 : Nat) (us5 vs5 : List Int) (l1 l2 l3 l4 l5 m3 mx m5 : Nat) (V : World) : Prop where
  r0 : LgAt V w.heap.size x n c y m d
  y3 : LogIn w.heap.size m3 l1 V p3 r3 us vs
  b3 : L3 V l1 q p3 u c3 r3 v d3
  yx : LogIn l2 mx l3 V px qx xs ys
  bx : LgAt V l3 px n n qx m m
  y5 : LogIn l4 m5 l5 V p5 r5 us5 vs5
  b5 : L3 V l5 q p5 u c5 r5 v d5
  s0 : w.heap.size ≤ l1
  s1 : l1 < l2
  s2 : l2 ≤ l3
  s3 : l3 < l4
  s4 : l4 ≤ l5
  gb : Below w.heap.size w V

section
variable {w : World} {x y : Option Addr} {n c m d : Nat} {q : Int} {us vs : List Int} {u v : Nat} {p3 r3 : Option Addr} {c3 d3 : Nat} {px qx : Option Addr} {xs ys xs' ys' : List Int} {p5 r5 : Option Addr} {c5 d5 : Nat} {us5 vs5 us5' vs5' : List Int} {l1 l2 l3 l4 l5 m3 mx m5 : Nat} {V W : World}
theorem LyS.up (h : LyS w x y n c m d q us vs u v p3 r3 c3 d3 px qx xs ys p5 r5 c5 d5 us5 vs5 l1 l2 l3 l4 l5 m3 mx m5 V) (hb : Below V.heap.size V W) : LyS w x y n c m d q us vs u v p3 r3 c3 d3 px qx xs ys p5 r5 c5 d5 us5 vs5 l1 l2 l3 l4 l5 m3 mx m5 W :=
  ⟨h.r0.up hb, h.y3.below hb, h.b3.up hb, h.yx.below hb, h.bx.up hb, h.y5.below hb, h.b5.up hb, h.s0, h.s1, h.s2, h.s3, h.s4, h.gb.trans (hb.mono h.gb.size)⟩
theorem LyS.markX (h : LyS w x y n c m d q us vs u v p3 r3 c3 d3 px qx xs ys p5 r5 c5 d5 us5 vs5 l1 l2 l3 l4 l5 m3 mx m5 V) (ht : Turned l2 l3 V W) (hy : LogIn l2 mx l3 W px qx xs' ys') : LyS w x y n c m d q us vs u v p3 r3 c3 d3 px qx xs' ys' p5 r5 c5 d5 us5 vs5 l1 l2 l3 l4 l5 m3 mx m5 W := by
  have := h.s0; have := h.s1; have := h.s2; have := h.s3; have := h.s4
  exact ⟨h.r0.turned ht (.inl (by omega)), h.y3.turned ht (.inl (by omega)), h.b3.turned ht (.inl (by omega)), hy, h.bx.turned ht (.inr (by omega)), h.y5.turned ht (.inr (by omega)), h.b5.turned ht (.inr (by omega)), h.s0, h.s1, h.s2, h.s3, h.s4, h.gb.trans (ht.toBelow h.gb.size (by omega))⟩
theorem LyS.markB (h : LyS w x y n c m d q us vs u v p3 r3 c3 d3 px qx xs ys p5 r5 c5 d5 us5 vs5 l1 l2 l3 l4 l5 m3 mx m5 V) (ht : Turned l4 l5 V W) (hy : LogIn l4 m5 l5 W p5 r5 us5' vs5') : LyS w x y n c m d q us vs u v p3 r3 c3 d3 px qx xs ys p5 r5 c5 d5 us5' vs5' l1 l2 l3 l4 l5 m3 mx m5 W := by
  have := h.s0; have := h.s1; have := h.s2; have := h.s3; have := h.s4
  exact ⟨h.r0.turned ht (.inl (by omega)), h.y3.turned ht (.inl (by omega)), h.b3.turned ht (.inl (by omega)), h.yx.turned ht (.inl (by omega)), h.bx.turned ht (.inl (by omega)), hy, h.b5.turned ht (.inr (by omega)), h.s0, h.s1, h.s2, h.s3, h.s4, h.gb.trans (ht.toBelow h.gb.size (by omega))⟩
end

end Go.Proofs.Ytcjkjenebnodbaa
