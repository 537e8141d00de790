/-
  What compares, marks and looks through a PageResult, and what a law knows of two such answers meanwhile.
-/
import Derived.Test.YtcadkclppejdgaaNew
namespace Go.Proofs.Ytcadkclppejdgaa
open Go.RowKit

/-- Block b holds the three cells of a PageResult. -/
structure PAt (w : World) (b : Nat) (q s : Int) (a : Option Addr) (n c : Nat) : Prop where
  c0 : w.cell? ⟨b, 0, none⟩ = some (.int .i64 q)
  c1 : w.cell? ⟨b, 1, none⟩ = some (.int .i64 s)
  c2 : w.cell? ⟨b, 2, none⟩ = some (.slice a n c)

theorem PAt.turned {lo hi b : Nat} {w w' : World} {q s : Int} {a : Option Addr} {n c : Nat} (h : PAt w b q s a n c) (ht : Turned lo hi w w') (hn : b < lo ∨ hi ≤ b) : PAt w' b q s a n c :=
  ⟨ht.cell h.c0 (by simp only; omega), ht.cell h.c1 (by simp only; omega), ht.cell h.c2 (by simp only; omega)⟩
theorem PAt.below {b : Nat} {w w' : World} {q s : Int} {a : Option Addr} {n c : Nat} (h : PAt w b q s a n c) (hb : Below w.heap.size w w') : PAt w' b q s a n c :=
  h.turned (lo := 0) (hi := 0) (Turned.ofBelow hb) (.inr (Nat.zero_le _))

/-- Behind the start w0: block ba holds the answer with the bytes zs at a, block bb the one with the bytes ys at b, which lie from lo to below hi and nothing else does that the law reads. -/
structure PPair (w0 : World) (q s : Int) (zs ys : List Int) (n ba : Nat) (a : Option Addr) (c bb : Nat) (b : Option Addr) (d lo hi : Nat) (w : World) : Prop where
  ra : PAt w ba q s a n c
  rb : PAt w bb q s b n d
  ya : BytesIn w0.heap.size lo w a zs
  yb : BytesIn lo hi w b ys
  sa : ba < lo
  sb : hi ≤ bb
  s0 : w0.heap.size ≤ lo
  sw : bb < w.heap.size
  sl : lo ≤ hi
  g : Below w0.heap.size w0 w

theorem PPair.step {w0 : World} {q s : Int} {zs ys : List Int} {n ba : Nat} {a : Option Addr} {c bb : Nat} {b : Option Addr} {d lo hi : Nat} {w w' : World} (h : PPair w0 q s zs ys n ba a c bb b d lo hi w) (hb : Below w.heap.size w w') :
    PPair w0 q s zs ys n ba a c bb b d lo hi w' := by
  have h1 := h.g.size
  have h2 := hb.size
  exact ⟨h.ra.below hb, h.rb.below hb, h.ya.below hb, h.yb.below hb, h.sa, h.sb, h.s0, Nat.lt_of_lt_of_le h.sw h2, h.sl, h.g.trans (hb.mono h1)⟩

theorem PPair.turn {w0 : World} {q s : Int} {zs ys ys' : List Int} {n ba : Nat} {a : Option Addr} {c bb : Nat} {b : Option Addr} {d lo hi : Nat} {w w' : World} (h : PPair w0 q s zs ys n ba a c bb b d lo hi w) (ht : Turned lo hi w w') (hy : BytesIn lo hi w' b ys') :
    PPair w0 q s zs ys' n ba a c bb b d lo hi w' :=
  ⟨h.ra.turned ht (.inl h.sa), h.rb.turned ht (.inr h.sb), h.ya.turned ht (.inl (Nat.le_refl _)), hy, h.sa, h.sb, h.s0, Nat.lt_of_lt_of_le h.sw ht.size, h.sl, h.g.trans (ht.toBelow h.g.size h.s0)⟩

end Go.Proofs.Ytcadkclppejdgaa

