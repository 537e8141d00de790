/-
  What the law FnExactAppendLog carries.
-/
import Derived.Test.YtcjkjenebnodbaaSap
import Derived.Test.YtcjkjenebnodbaaLyw
import Derived.Test.YtcjkjenebnodbaaSzg
namespace Go.Proofs.Ytcjkjenebnodbaa
open Go.RowKit
set_option linter.unusedVariables false

theorem RcAt.turned {lo hi b : Nat} {V W : World} {k tx pg : Int} {a : Option Addr} {n c : Nat} (h : RcAt V b k tx pg a n c) (ht : Turned lo hi V W) (hn : b < lo ∨ hi ≤ b) : RcAt W b k tx pg a n c :=
  ⟨ht.cell h.c0 (by simp only; omega), ht.cell h.c1 (by simp only; omega), ht.cell h.c2 (by simp only; omega), ht.cell h.c3 (by simp only; omega)⟩

/-- The arguments in their boxes. -/
structure LaA (w : World) (x y : Option Addr) (n c m d : Nat) (k tx pg : Int) (a : Option Addr) (l e' : Nat) (V : World) : Prop where
  r0 : LgAt V w.heap.size x n c y m d
  rc : RcAt V (w.heap.size + 1) k tx pg a l e'
  g : Below w.heap.size w V
section
variable {w : World} {x y : Option Addr} {n c m d : Nat} {k tx pg : Int} {a : Option Addr} {l e' : Nat} {V W : World}
theorem LaA.up (h : LaA w x y n c m d k tx pg a l e' V) (hb : Below V.heap.size V W) : LaA w x y n c m d k tx pg a l e' W := ⟨h.r0.up hb, h.rc.up hb, h.g.trans (hb.mono h.g.size)⟩
theorem LaA.turned (h : LaA w x y n c m d k tx pg a l e' V) {lo hi : Nat} (ht : Turned lo hi V W) (hn : w.heap.size + 2 ≤ lo) : LaA w x y n c m d k tx pg a l e' W := ⟨h.r0.turned ht (.inl (by omega)), h.rc.turned ht (.inl (by omega)), h.g.trans (ht.toBelow h.g.size (by omega))⟩
theorem LaA.lt (h : LaA w x y n c m d k tx pg a l e' V) : w.heap.size + 2 ≤ V.heap.size := World.block_lt_of_cell? V _ h.rc.c0
end

/-- .. and the model's answer, both copies that were handed in, the program's answer. -/
structure LaS (w : World) (x y : Option Addr) (n c m d : Nat) (k tx pg : Int) (a : Option Addr) (l e' : Nat) (q : Int) (us vs : List Int) (u v : Nat) (p3 r3 : Option Addr) (c3 d3 : Nat) (px qx : Option Addr) (xs ys : List Int) (br : Nat) (PR : Nat → Int) (AR : Nat → Option Addr) (CR : Nat → Nat) (ZR : Nat → List Int) (FR : Nat → Nat) (p5 r5 : Option Addr) (c5 d5 : Nat) (us5 vs5 : List Int) (lb l1 l3 l6 l7 l4 l5 m3 mx m5 : Nat) (V : World) : Prop where
  A : LaA w x y n c m d k tx pg a l e' V
  y3 : LogIn w.heap.size m3 l1 V p3 r3 us vs
  b3 : L3 V lb q p3 u c3 r3 v d3
  yx : LogIn l1 mx l3 V px qx xs ys
  bx : LgAt V l3 px n n qx m m
  yr : Own l6 l7 V br l PR AR CR ZR FR
  bc : RcAt V l7 k tx pg (some ⟨br, 0, none⟩) l l
  y5 : LogIn l4 m5 l5 V p5 r5 us5 vs5
  b5 : L3 V l5 q p5 u c5 r5 v d5
  s0 : w.heap.size + 2 ≤ l1
  sb : lb < l1
  s1 : l1 ≤ l3
  s2 : l3 < l6
  s3 : l6 ≤ l7
  s4 : l7 < l4
  s5 : l4 ≤ l5
section
variable {w : World} {x y : Option Addr} {n c m d : Nat} {k tx pg : Int} {a : Option Addr} {l e' : Nat} {q : Int} {us vs : List Int} {u v : Nat} {p3 r3 : Option Addr} {c3 d3 : Nat} {px qx : Option Addr} {xs ys xs' ys' : List Int} {br : Nat} {PR PR' : Nat → Int} {AR : Nat → Option Addr} {CR : Nat → Nat} {ZR ZR' : Nat → List Int} {FR : Nat → Nat} {p5 r5 : Option Addr} {c5 d5 : Nat} {us5 vs5 us5' vs5' : List Int} {lb l1 l3 l6 l7 l4 l5 m3 mx m5 : Nat} {V W : World}
theorem LaS.up (h : LaS w x y n c m d k tx pg a l e' q us vs u v p3 r3 c3 d3 px qx xs ys br PR AR CR ZR FR p5 r5 c5 d5 us5 vs5 lb l1 l3 l6 l7 l4 l5 m3 mx m5 V) (hb : Below V.heap.size V W) : LaS w x y n c m d k tx pg a l e' q us vs u v p3 r3 c3 d3 px qx xs ys br PR AR CR ZR FR p5 r5 c5 d5 us5 vs5 lb l1 l3 l6 l7 l4 l5 m3 mx m5 W :=
  ⟨h.A.up hb, h.y3.below hb, h.b3.up hb, h.yx.below hb, h.bx.up hb, h.yr.below hb, h.bc.up hb, h.y5.below hb, h.b5.up hb, h.s0, h.sb, h.s1, h.s2, h.s3, h.s4, h.s5⟩
theorem LaS.markX (h : LaS w x y n c m d k tx pg a l e' q us vs u v p3 r3 c3 d3 px qx xs ys br PR AR CR ZR FR p5 r5 c5 d5 us5 vs5 lb l1 l3 l6 l7 l4 l5 m3 mx m5 V) (ht : Turned l1 l3 V W) (hy : LogIn l1 mx l3 W px qx xs' ys') : LaS w x y n c m d k tx pg a l e' q us vs u v p3 r3 c3 d3 px qx xs' ys' br PR AR CR ZR FR p5 r5 c5 d5 us5 vs5 lb l1 l3 l6 l7 l4 l5 m3 mx m5 W := by
  have := h.s0; have := h.sb; have := h.s1; have := h.s2; have := h.s3; have := h.s4; have := h.s5
  exact ⟨h.A.turned ht (by omega), h.y3.turned ht (.inl (by omega)), h.b3.turned ht (.inl (by omega)), hy, h.bx.turned ht (.inr (by omega)), h.yr.turned ht (.inr (by omega)), h.bc.turned ht (.inr (by omega)), h.y5.turned ht (.inr (by omega)), h.b5.turned ht (.inr (by omega)), h.s0, h.sb, h.s1, h.s2, h.s3, h.s4, h.s5⟩
theorem LaS.markR (h : LaS w x y n c m d k tx pg a l e' q us vs u v p3 r3 c3 d3 px qx xs ys br PR AR CR ZR FR p5 r5 c5 d5 us5 vs5 lb l1 l3 l6 l7 l4 l5 m3 mx m5 V) (ht : Turned l6 l7 V W) (hy : Own l6 l7 W br l PR' AR CR ZR' FR) : LaS w x y n c m d k tx pg a l e' q us vs u v p3 r3 c3 d3 px qx xs ys br PR' AR CR ZR' FR p5 r5 c5 d5 us5 vs5 lb l1 l3 l6 l7 l4 l5 m3 mx m5 W := by
  have := h.s0; have := h.sb; have := h.s1; have := h.s2; have := h.s3; have := h.s4; have := h.s5
  exact ⟨h.A.turned ht (by omega), h.y3.turned ht (.inl (by omega)), h.b3.turned ht (.inl (by omega)), h.yx.turned ht (.inl (by omega)), h.bx.turned ht (.inl (by omega)), hy, h.bc.turned ht (.inr (by omega)), h.y5.turned ht (.inr (by omega)), h.b5.turned ht (.inr (by omega)), h.s0, h.sb, h.s1, h.s2, h.s3, h.s4, h.s5⟩
theorem LaS.markB (h : LaS w x y n c m d k tx pg a l e' q us vs u v p3 r3 c3 d3 px qx xs ys br PR AR CR ZR FR p5 r5 c5 d5 us5 vs5 lb l1 l3 l6 l7 l4 l5 m3 mx m5 V) (ht : Turned l4 l5 V W) (hy : LogIn l4 m5 l5 W p5 r5 us5' vs5') : LaS w x y n c m d k tx pg a l e' q us vs u v p3 r3 c3 d3 px qx xs ys br PR AR CR ZR FR p5 r5 c5 d5 us5' vs5' lb l1 l3 l6 l7 l4 l5 m3 mx m5 W := by
  have := h.s0; have := h.sb; have := h.s1; have := h.s2; have := h.s3; have := h.s4; have := h.s5
  exact ⟨h.A.turned ht (by omega), h.y3.turned ht (.inl (by omega)), h.b3.turned ht (.inl (by omega)), h.yx.turned ht (.inl (by omega)), h.bx.turned ht (.inl (by omega)), h.yr.turned ht (.inl (by omega)), h.bc.turned ht (.inl (by omega)), hy, h.b5.turned ht (.inr (by omega)), h.s0, h.sb, h.s1, h.s2, h.s3, h.s4, h.s5⟩
theorem LaS.turned5 (h : LaS w x y n c m d k tx pg a l e' q us vs u v p3 r3 c3 d3 px qx xs ys br PR AR CR ZR FR p5 r5 c5 d5 us5 vs5 lb l1 l3 l6 l7 l4 l5 m3 mx m5 V) {lo hi : Nat} (ht : Turned lo hi V W) (hl : l5 < lo) : LaS w x y n c m d k tx pg a l e' q us vs u v p3 r3 c3 d3 px qx xs ys br PR AR CR ZR FR p5 r5 c5 d5 us5 vs5 lb l1 l3 l6 l7 l4 l5 m3 mx m5 W := by
  have := h.s0; have := h.sb; have := h.s1; have := h.s2; have := h.s3; have := h.s4; have := h.s5
  exact ⟨h.A.turned ht (by omega), h.y3.turned ht (.inl (by omega)), h.b3.turned ht (.inl (by omega)), h.yx.turned ht (.inl (by omega)), h.bx.turned ht (.inl (by omega)), h.yr.turned ht (.inl (by omega)), h.bc.turned ht (.inl (by omega)), h.y5.turned ht (.inl (by omega)), h.b5.turned ht (.inl (by omega)), h.s0, h.sb, h.s1, h.s2, h.s3, h.s4, h.s5⟩
end

theorem al_len (xs ys : List Int) (r : Int) (bs : List Int) : (alS xs ys r bs).length ≤ xs.length + ys.length + bs.length ∧ (alL xs ys r bs).length ≤ xs.length + ys.length + bs.length := by
  unfold alS alL
  constructor
  · split
    · omega
    · exact Nat.zero_le _
  · split
    · rw [List.length_append]; omega
    · exact Nat.zero_le _

end Go.Proofs.Ytcjkjenebnodbaa
