/-
  Changes: their ten cells; the code of a change.
-/
import Derived.Test.YtmnnkgcknkhgdaaGreatDoorOw
namespace Go.Proofs.YtmnnkgcknkhgdaaGreatDoor
open Go.RowKit
set_option linter.unusedVariables false

/-- A change. -/
structure Chg where
  was : Bool
  b : Rw
  is : Bool
  a : Rw

def chE (x : Chg) : List Value := [.bool x.was, .int .i64 x.b.t, .int .i64 x.b.k, .int .i64 x.b.v, .string x.b.s, .bool x.is, .int .i64 x.a.t, .int .i64 x.a.k, .int .i64 x.a.v, .string x.a.s]

theorem chE_len (x : Chg) : (chE x).length = 10 := rfl

structure ChC (w : World) (b o : Nat) (x : Chg) : Prop where
  c0 : w.cell? ⟨b, o, none⟩ = some (.bool x.was)
  c1 : w.cell? ⟨b, o + 1, none⟩ = some (.int .i64 x.b.t)
  c2 : w.cell? ⟨b, o + 2, none⟩ = some (.int .i64 x.b.k)
  c3 : w.cell? ⟨b, o + 3, none⟩ = some (.int .i64 x.b.v)
  c4 : w.cell? ⟨b, o + 4, none⟩ = some (.string x.b.s)
  c5 : w.cell? ⟨b, o + 5, none⟩ = some (.bool x.is)
  c6 : w.cell? ⟨b, o + 6, none⟩ = some (.int .i64 x.a.t)
  c7 : w.cell? ⟨b, o + 7, none⟩ = some (.int .i64 x.a.k)
  c8 : w.cell? ⟨b, o + 8, none⟩ = some (.int .i64 x.a.v)
  c9 : w.cell? ⟨b, o + 9, none⟩ = some (.string x.a.s)

theorem ChC.lt {w : World} {b o : Nat} {x : Chg} (h : ChC w b o x) : b < w.heap.size := World.block_lt_of_cell? w _ h.c0

theorem ChC.below {w w' : World} {b o : Nat} {x : Chg} (h : ChC w b o x) {B : Nat} (hb : Below B w w') (hB : b < B) : ChC w' b o x :=
  have up : ∀ (p : Nat) (v : Value), w.cell? ⟨b, p, none⟩ = some v → w'.cell? ⟨b, p, none⟩ = some v := fun p v h => (hb.cell (p := ⟨b, p, none⟩) hB).trans h
  ⟨up _ _ h.c0, up _ _ h.c1, up _ _ h.c2, up _ _ h.c3, up _ _ h.c4, up _ _ h.c5, up _ _ h.c6, up _ _ h.c7, up _ _ h.c8, up _ _ h.c9⟩

theorem ChC.of {w : World} {b o : Nat} {x : Chg} (h : ∀ j u, (chE x)[j]? = some u → w.cell? ⟨b, o + j, none⟩ = some u) : ChC w b o x := ⟨h 0 _ rfl, h 1 _ rfl, h 2 _ rfl, h 3 _ rfl, h 4 _ rfl, h 5 _ rfl, h 6 _ rfl, h 7 _ rfl, h 8 _ rfl, h 9 _ rfl⟩

/-- The code of a change. -/
def chQ (c : Chg) : Int := if (!c.was && !c.is || c.was && c.is && (!(decide (c.b.t = c.a.t) && decide (c.b.k = c.a.k)))) = true then 1 else if c.was = true ∧ rwF c.b ≠ 0 then rwF c.b else if c.is = true then rwF c.a else 0

def kT (c : Chg) : Int := if c.is = true then c.a.t else c.b.t

def kK (c : Chg) : Int := if c.is = true then c.a.k else c.b.k


theorem RowC.lt {w : World} {b o : Nat} {r : Rw} (h : RowC w b o r) : b < w.heap.size := World.block_lt_of_cell? w _ h.c0

end Go.Proofs.YtmnnkgcknkhgdaaGreatDoor

