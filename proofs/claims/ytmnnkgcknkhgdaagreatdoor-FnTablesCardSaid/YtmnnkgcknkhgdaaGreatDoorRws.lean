/-
  Rows in slices: what they read as; szRowS, toRowS, eqRowS.
-/
import Derived.Test.YtmnnkgcknkhgdaaGreatDoorFla
import Derived.Test.YtmnnkgcknkhgdaaGreatDoorRowC
import Derived.Test.YtmnnkgcknkhgdaaGreatDoorRowB
import Derived.Test.YtmnnkgcknkhgdaaGreatDoorUnpS
import Derived.Deep.Cut
import Derived.Deep.MidRow
import Derived.Laws.CopyOwn
namespace Go.Proofs.YtmnnkgcknkhgdaaGreatDoor
open Go.RowKit
set_option linter.unusedVariables false

/-- A row. -/
structure Rw where
  t : Int
  k : Int
  v : Int
  s : ByteArray

def rwE (r : Rw) : List Value := [.int .i64 r.t, .int .i64 r.k, .int .i64 r.v, .string r.s]
def rwA (r : Rw) : Value := .agg #[.int .i64 r.t, .int .i64 r.k, .int .i64 r.v, .string r.s]
theorem rwE_len (r : Rw) : (rwE r).length = 4 := rfl

/-- Four cells of a row, at a place. -/
structure RowC (w : World) (b o : Nat) (r : Rw) : Prop where
  c0 : w.cell? ⟨b, o, none⟩ = some (.int .i64 r.t)
  c1 : w.cell? ⟨b, o + 1, none⟩ = some (.int .i64 r.k)
  c2 : w.cell? ⟨b, o + 2, none⟩ = some (.int .i64 r.v)
  c3 : w.cell? ⟨b, o + 3, none⟩ = some (.string r.s)

theorem RowC.below {w w' : World} {b o : Nat} {r : Rw} (h : RowC w b o r) {B : Nat} (hb : Below B w w') (hB : b < B) : RowC w' b o r :=
  ⟨(hb.cell (p := ⟨b, _, none⟩) hB).trans h.c0, (hb.cell (p := ⟨b, _, none⟩) hB).trans h.c1, (hb.cell (p := ⟨b, _, none⟩) hB).trans h.c2, (hb.cell (p := ⟨b, _, none⟩) hB).trans h.c3⟩

theorem RowC.of {w : World} {b o : Nat} {r : Rw} (h : ∀ j u, (rwE r)[j]? = some u → w.cell? ⟨b, o + j, none⟩ = some u) : RowC w b o r := ⟨h 0 _ rfl, h 1 _ rfl, h 2 _ rfl, h 3 _ rfl⟩

theorem Rs.row {w : World} {a : Option Addr} {rs : List Rw} (h : Rs rwE 4 w a rs) {i : Nat} {r : Rw} (hr : rs[i]? = some r) : ∃ b off, a = some ⟨b, off, none⟩ ∧ RowC w b (off + i * 4) r := by
  rcases h with h | ⟨b, off, ha, hc⟩
  · rw [h] at hr; simp at hr
  · exact ⟨b, off, ha, RowC.of (hc i r hr)⟩

theorem Rs.rowAt {w : World} {b off : Nat} {rs : List Rw} (h : Rs rwE 4 w (some ⟨b, off, none⟩) rs) {i : Nat} {r : Rw} (hr : rs[i]? = some r) : RowC w b (off + i * 4) r := by
  obtain ⟨b', off', ha, hc⟩ := h.row hr
  simp only [Option.some.injEq, Addr.mk.injEq, and_true] at ha
  obtain ⟨rfl, rfl⟩ := ha
  exact hc

theorem eqKeep {w W V : World} {S : World → Prop} (h : ∀ V, Below w.heap.size w V → S V) (h1 : Below w.heap.size w W) (hb : Below W.heap.size W V) : Below w.heap.size w V ∧ S V :=
  ⟨h1.trans (hb.mono h1.size), h V (h1.trans (hb.mono h1.size))⟩

theorem eqKeepD {w V : World} {S : World → Prop} (h : ∀ V, Below w.heap.size w V → S V) (hb : Below w.drew.heap.size w.drew V) : Below w.heap.size w V ∧ S V :=
  eqKeep h (Below.refl _ _).drew hb

theorem at_lt {rs : List Rw} {i : Nat} (h : i < rs.length) : ∃ r, rs[i]? = some r := ⟨rs[i], List.getElem?_eq_getElem h⟩

end Go.Proofs.YtmnnkgcknkhgdaaGreatDoor

