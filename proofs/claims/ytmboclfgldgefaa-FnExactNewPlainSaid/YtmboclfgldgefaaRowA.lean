/-
  The contracts of what compares two rows: szRow, toRow, and both IsBefore, for every row and in whatever memory; each lays new blocks alone.
-/
import Derived.Test.YtmboclfgldgefaaRows
import Derived.WalkKit
import Derived.WalkSpells
import Derived.WalkLawsBesides
import Derived.Handy
import Derived.BigQuiet
namespace Go.Proofs.Ytmboclfgldgefaa
open Go.RowKit

/-- Block b holds the four cells of a row. -/
structure RowAt (w : World) (b : Nat) (t k v : Int) (s : ByteArray) : Prop where
  c0 : w.cell? ⟨b, 0, none⟩ = some (.int .i64 t)
  c1 : w.cell? ⟨b, 1, none⟩ = some (.int .i64 k)
  c2 : w.cell? ⟨b, 2, none⟩ = some (.int .i64 v)
  c3 : w.cell? ⟨b, 3, none⟩ = some (.string s)

theorem rowAt_below {B b : Nat} {w w' : World} {t k v : Int} {s : ByteArray} (hb : Below B w w') (hlt : b < B) (h : RowAt w b t k v s) : RowAt w' b t k v s :=
  ⟨(hb.cell (p := ⟨b, 0, none⟩) hlt).trans h.c0, (hb.cell (p := ⟨b, 1, none⟩) hlt).trans h.c1, (hb.cell (p := ⟨b, 2, none⟩) hlt).trans h.c2, (hb.cell (p := ⟨b, 3, none⟩) hlt).trans h.c3⟩

theorem below_draws {B : Nat} {a w : World} (h : Below B a w) (n : Nat) : Below B a (w.drewN n) := ⟨h.os, h.tape, h.output, h.size, h.block⟩

set_option maxHeartbeats 400000 in
theorem szRow_fits (t k v : Int) (s : ByteArray) (n : Int) (w : World) (h0 : (s.size : Int) ≤ n) (h1 : n ≤ 1048576) :
    Calls Try.prog 59 #[.agg #[.int .i64 t, .int .i64 k, .int .i64 v, .string s], .int .i64 n] w fun e w' => e = .returned (.int .i64 (n - s.size)) ∧ Below w.heap.size w w' := by
  have hn : ¬ n - (s.size : Int) < 0 := by omega
  go_enter Try.func59, Try.ntmps59
  go_wp2
  go_ret
  exact ⟨rfl, by go_grown⟩

set_option maxHeartbeats 400000 in
theorem szRow_over (t k v : Int) (s : ByteArray) (n : Int) (w : World) (hs : s.size ≤ maxLen) (hn0 : 0 ≤ n) (h1 : n ≤ 1048576) (h0 : n < (s.size : Int)) :
    Calls Try.prog 59 #[.agg #[.int .i64 t, .int .i64 k, .int .i64 v, .string s], .int .i64 n] w fun e w' => e = .returned (.int .i64 (-1)) ∧ Below w.heap.size w w' := by
  unfold maxLen at hs
  have hn : n - (s.size : Int) < 0 := by omega
  go_enter Try.func59, Try.ntmps59
  go_wp2
  go_ret
  exact ⟨rfl, by go_grown⟩

set_option maxHeartbeats 400000 in
theorem toRow_any (t k v : Int) (s : ByteArray) (w : World) :
    Calls Try.prog 63 #[.agg #[.int .i64 t, .int .i64 k, .int .i64 v, .string s]] w fun e w' => e = .returned (.agg #[.int .i64 t, .int .i64 k, .int .i64 v, .string s]) ∧ Below w.heap.size w w' := by
  go_enter Try.func63, Try.ntmps63
  go_wp2
  go_returns
  exact ⟨rfl, by go_grown⟩

end Go.Proofs.Ytmboclfgldgefaa




