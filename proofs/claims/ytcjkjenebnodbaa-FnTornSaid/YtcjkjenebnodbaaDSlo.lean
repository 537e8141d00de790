/-
  The contracts of both SlotIn.
-/
import Derived.Test.YtcjkjenebnodbaaDClo
namespace Go.Proofs.Ytcjkjenebnodbaa.Dr
open Go.RowKit
set_option linter.unusedVariables false

def slotQ (zs : List Int) (x : Int) : Int := if fltOf zs = 0 then (if hasC zs x = true then 0 else 4) else fltOf zs
def slotB (zs : List Int) (x : Int) : List Int := if fltOf zs = 0 then (if hasC zs x = true then cellOf zs x.toNat else []) else []

/-- Block b holds the two cells of a BytesResult, and may be written. -/
structure BRes (w : World) (b : Nat) (q : Int) (v : Value) : Prop where
  c0 : w.cell? ⟨b, 0, none⟩ = some (.int .i64 q)
  c1 : w.cell? ⟨b, 1, none⟩ = some v
  f0 : w.frozen? ⟨b, 0, none⟩ = false
  f1 : w.frozen? ⟨b, 1, none⟩ = false
theorem BRes.lt {b : Nat} {w : World} {q : Int} {v : Value} (h : BRes w b q v) : b < w.heap.size := World.block_lt_of_cell? w _ h.c0
theorem BRes.below {b : Nat} {w w' : World} {q : Int} {v : Value} (h : BRes w b q v) (hb : Below w.heap.size w w') : BRes w' b q v :=
  ⟨(hb.cell (p := ⟨b, 0, none⟩) h.lt).trans h.c0, (hb.cell (p := ⟨b, 1, none⟩) h.lt).trans h.c1, (hb.frozen (p := ⟨b, 0, none⟩) h.lt).trans h.f0, (hb.frozen (p := ⟨b, 1, none⟩) h.lt).trans h.f1⟩

theorem hasC_slot {zs : List Int} {x : Int} (h : hasC zs x = true) : ∃ s : Nat, x = (s : Int) ∧ s < nb zs 0 ∧ empB zs s = false := by
  unfold hasC at h
  rw [Bool.and_eq_true] at h
  have h1 := h.1
  simp [inR] at h1
  exact ⟨x.toNat, by omega, by omega, by simpa using h.2⟩

theorem Arr.cellReads {V : World} {b : Nat} {ys : List Int} (h : Arr V b ys) (p l : Nat) (hl : p + l ≤ 64) : Reads V (some ⟨b, p, none⟩) ((ys.drop p).take l) := by
  have := (h.bytes (Nat.zero_le _) h.lt).reads.cell p l (by rw [h.len]; exact hl)
  rw [Nat.zero_add] at this
  exact this

def SlS (w : World) (zs : List Int) (x y b p l : Nat) (V : World) : Prop := (∃ v : Value, V.cell? ⟨x, 1, none⟩ = some v) ∧ V.cell? ⟨x, 0, none⟩ = some (.int .i64 0) ∧ V.frozen? ⟨x, 0, none⟩ = false ∧ V.frozen? ⟨x, 1, none⟩ = false ∧ V.cell? ⟨y, 0, none⟩ = some (.int .u64 p) ∧ V.cell? ⟨y, 1, none⟩ = some (.int .u64 l) ∧ Arr V b zs ∧ Below w.heap.size w V
theorem slKeep {w : World} {zs : List Int} {x y b p l : Nat} {W V : World} (h : SlS w zs x y b p l W) (hb : Below W.heap.size W V) : SlS w zs x y b p l V := by
  obtain ⟨⟨v, h1⟩, h2, h3, h4, h5, h6, h7, h8⟩ := h
  have hx : x < W.heap.size := World.block_lt_of_cell? W _ h1
  have hy : y < W.heap.size := World.block_lt_of_cell? W _ h5
  exact ⟨⟨v, (hb.cell (p := ⟨x, 1, none⟩) hx).trans h1⟩, (hb.cell (p := ⟨x, 0, none⟩) hx).trans h2, (hb.frozen (p := ⟨x, 0, none⟩) hx).trans h3, (hb.frozen (p := ⟨x, 1, none⟩) hx).trans h4, (hb.cell (p := ⟨y, 0, none⟩) hy).trans h5, (hb.cell (p := ⟨y, 1, none⟩) hy).trans h6, h7.grown hb, h8.trans (hb.mono h8.size)⟩

end Go.Proofs.Ytcjkjenebnodbaa.Dr

