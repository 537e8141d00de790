/-
  The contracts of both SlotIn.
-/
import Derived.Test.YtpoccjlngbdjlaaQDClo
import Derived.Test.YtpoccjlngbdjlaaQDCmp

namespace Go.Proofs.Ytpoccjlngbdjlaa.Dr
open Go.RowKit
set_option linter.unusedVariables false

def slotQ (zs : List Int) (x : Int) : Int := if fltOf zs = 0 then (if hasC zs x = true then 0 else 4) else fltOf zs
def slotB (zs : List Int) (x : Int) : List Int := if fltOf zs = 0 then (if hasC zs x = true then cellOf zs x.toNat else []) else []

/-- Block b holds the two cells of a BytesResult, and may be written. -/
structure BRes (w : World) (b : Nat) (q : Int) (v : Value) : Prop where
  c0 : w.cell? ⟨b, 0, none⟩ = some (.int .i64 q)
  c1 : w.cell? ⟨b, 1, none⟩ = some v
  f0 : w.frozen? ⟨b, 0, none⟩ = false
  f1 : w.frozen? ⟨b, 1, none⟩ = false
theorem BRes.lt {b : Nat} {w : World} {q : Int} {v : Value} (h : BRes w b q v) : b < w.heap.size := World.block_lt_of_cell? w _ h.c0
theorem BRes.below {b : Nat} {w w' : World} {q : Int} {v : Value} (h : BRes w b q v) (hb : Below w.heap.size w w') : BRes w' b q v :=
  ⟨(hb.cell (p := ⟨b, 0, none⟩) h.lt).trans h.c0, (hb.cell (p := ⟨b, 1, none⟩) h.lt).trans h.c1, (hb.frozen (p := ⟨b, 0, none⟩) h.lt).trans h.f0, (hb.frozen (p := ⟨b, 1, none⟩) h.lt).trans h.f1⟩

theorem hasC_slot {zs : List Int} {x : Int} (h : hasC zs x = true) : ∃ s : Nat, x = (s : Int) ∧ s < nb zs 0 ∧ empB zs s = false := by
  unfold hasC at h
  rw [Bool.and_eq_true] at h
  have h1 := h.1
  simp [inR] at h1
  exact ⟨x.toNat, by omega, by omega, by simpa using h.2⟩

theorem Arr.cellReads {V : World} {b : Nat} {ys : List Int} (h : Arr V b ys) (p l : Nat) (hl : p + l ≤ 64) : Reads V (some ⟨b, p, none⟩) ((ys.drop p).take l) := by
  have := (h.bytes (Nat.zero_le _) h.lt).reads.cell p l (by rw [h.len]; exact hl)
  rw [Nat.zero_add] at this
  exact this

def SlS (w : World) (zs : List Int) (x y b p l : Nat) (V : World) : Prop := (∃ v : Value, V.cell? ⟨x, 1, none⟩ = some v) ∧ V.cell? ⟨x, 0, none⟩ = some (.int .i64 0) ∧ V.frozen? ⟨x, 0, none⟩ = false ∧ V.frozen? ⟨x, 1, none⟩ = false ∧ V.cell? ⟨y, 0, none⟩ = some (.int .u64 p) ∧ V.cell? ⟨y, 1, none⟩ = some (.int .u64 l) ∧ Arr V b zs ∧ Below w.heap.size w V
theorem slKeep {w : World} {zs : List Int} {x y b p l : Nat} {W V : World} (h : SlS w zs x y b p l W) (hb : Below W.heap.size W V) : SlS w zs x y b p l V := by
  obtain ⟨⟨v, h1⟩, h2, h3, h4, h5, h6, h7, h8⟩ := h
  have hx : x < W.heap.size := World.block_lt_of_cell? W _ h1
  have hy : y < W.heap.size := World.block_lt_of_cell? W _ h5
  exact ⟨⟨v, (hb.cell (p := ⟨x, 1, none⟩) hx).trans h1⟩, (hb.cell (p := ⟨x, 0, none⟩) hx).trans h2, (hb.frozen (p := ⟨x, 0, none⟩) hx).trans h3, (hb.frozen (p := ⟨x, 1, none⟩) hx).trans h4, (hb.cell (p := ⟨y, 0, none⟩) hy).trans h5, (hb.cell (p := ⟨y, 1, none⟩) hy).trans h6, h7.grown hb, h8.trans (hb.mono h8.size)⟩

end Go.Proofs.Ytpoccjlngbdjlaa.Dr

/-
  The contract of the program's CompactPage.
-/
namespace Go.Proofs.Ytpoccjlngbdjlaa.Dr
open Go.RowKit
set_option linter.unusedVariables false

/-- What CompactPage answers: its code, its page. -/
def cqQ (zs : List Int) : Int := fltOf zs
def cqB (zs : List Int) : List Int := if fltOf zs = 0 then cpP zs (nb zs 0) else []

/-- What the loop carries beside the packed page. -/
structure CpS (w : World) (b : Nat) (ys : List Int) (V : World) : Prop where
  a : Arr V b ys
  x : PRes V w.heap.size 0 0 (.slice none 0 0)
  g : Below w.heap.size w V
theorem CpS.below {w : World} {b : Nat} {ys : List Int} {W V : World} (h : CpS w b ys W) (hb : Below W.heap.size W V) : CpS w b ys V := ⟨h.a.grown hb, h.x.grown hb, h.g.trans (hb.mono h.g.size)⟩
theorem CpS.turned {w : World} {b pb : Nat} {ys : List Int} {W V : World} (h : CpS w b ys W) (ht : Turned pb (pb + 1) W V) (hn : w.heap.size < b ∧ b < pb) : CpS w b ys V := ⟨h.a.turned ht (.inl hn.2), h.x.turned ht (.inl (by omega)), h.g.trans (ht.toBelow h.g.size (by omega))⟩
theorem CpS.rd {w : World} {b k : Nat} {ys : List Int} {W : World} (h : CpS w b ys W) (p l : Nat) (e : cellOf ys k = (ys.drop p).take l) (hl : p + l ≤ 64) : Reads W (some ⟨b, p, none⟩) (cellOf ys k) := by
  rw [e]
  exact h.a.cellReads p l hl
theorem cpKeep {w : World} {b y : Nat} {p l : Int} {ys : List Int} {W V : World} (h : W.cell? ⟨y, 0, none⟩ = some (.int .u64 p) ∧ W.cell? ⟨y, 1, none⟩ = some (.int .u64 l) ∧ CpS w b ys W) (hb : Below W.heap.size W V) :
    V.cell? ⟨y, 0, none⟩ = some (.int .u64 p) ∧ V.cell? ⟨y, 1, none⟩ = some (.int .u64 l) ∧ CpS w b ys V :=
  ⟨(hb.cell (World.block_lt_of_cell? W _ h.1)).trans h.1, (hb.cell (World.block_lt_of_cell? W _ h.2.1)).trans h.2.1, h.2.2.below hb⟩
theorem cpTurn {w : World} {b y pb : Nat} {p l : Int} {ys : List Int} {W V : World} (h : W.cell? ⟨y, 0, none⟩ = some (.int .u64 p) ∧ W.cell? ⟨y, 1, none⟩ = some (.int .u64 l) ∧ CpS w b ys W) (ht : Turned pb (pb + 1) W V) (hy : pb < y) (hn : w.heap.size < b ∧ b < pb) :
    V.cell? ⟨y, 0, none⟩ = some (.int .u64 p) ∧ V.cell? ⟨y, 1, none⟩ = some (.int .u64 l) ∧ CpS w b ys V :=
  ⟨ht.cell h.1 (by simp only; omega), ht.cell h.2.1 (by simp only; omega), h.2.2.turned ht hn⟩

end Go.Proofs.Ytpoccjlngbdjlaa.Dr
