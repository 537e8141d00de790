/-
  What a law knows of two answers that are bytes, while it compares, marks and looks through them.
-/
import Derived.Test.YtnhfimgjljmfoaaBy
namespace Go.Proofs.Ytnhfimgjljmfoaa
open Go.RowKit

/-- Behind the start w0: block ba holds the answer with the bytes zs at a, block bb the one with the bytes ys at b, which lie from lo to below hi and nothing else does that the law reads. -/
structure PairSt (w0 : World) (q : Int) (zs ys : List Int) (n ba : Nat) (a : Option Addr) (c bb : Nat) (b : Option Addr) (d lo hi : Nat) (w : World) : Prop where
  ra : ResAt w ba q a n c
  rb : ResAt w bb q b n d
  ya : BytesIn w0.heap.size lo w a zs
  yb : BytesIn lo hi w b ys
  sa : ba < lo
  sb : hi ≤ bb
  s0 : w0.heap.size ≤ lo
  sw : bb < w.heap.size
  sl : lo ≤ hi
  g : Below w0.heap.size w0 w

theorem PairSt.step {w0 : World} {q : Int} {zs ys : List Int} {n ba : Nat} {a : Option Addr} {c bb : Nat} {b : Option Addr} {d lo hi : Nat} {w w' : World} (h : PairSt w0 q zs ys n ba a c bb b d lo hi w) (hb : Below w.heap.size w w') :
    PairSt w0 q zs ys n ba a c bb b d lo hi w' := by
  have h1 := h.g.size
  have h2 := hb.size
  exact ⟨h.ra.below hb, h.rb.below hb, h.ya.below hb, h.yb.below hb, h.sa, h.sb, h.s0, Nat.lt_of_lt_of_le h.sw h2, h.sl, h.g.trans (hb.mono h1)⟩

theorem PairSt.turn {w0 : World} {q : Int} {zs ys ys' : List Int} {n ba : Nat} {a : Option Addr} {c bb : Nat} {b : Option Addr} {d lo hi : Nat} {w w' : World} (h : PairSt w0 q zs ys n ba a c bb b d lo hi w) (ht : Turned lo hi w w') (hy : BytesIn lo hi w' b ys') :
    PairSt w0 q zs ys' n ba a c bb b d lo hi w' :=
  ⟨h.ra.turned ht (.inl h.sa), h.rb.turned ht (.inr h.sb), h.ya.turned ht (.inl (Nat.le_refl _)), hy, h.sa, h.sb, h.s0, Nat.lt_of_lt_of_le h.sw ht.size, h.sl, h.g.trans (ht.toBelow h.g.size h.s0)⟩

end Go.Proofs.Ytnhfimgjljmfoaa
