/-
  The contracts of what compares two rows: szRow, toRow, and both IsBefore, for every row and in whatever memory; each lays new blocks alone.
-/
import Derived.Test.YtmbllmhpnopbdaaRows
import Derived.WalkKit
import Derived.WalkSpells
import Derived.WalkLawsBesides
import Derived.Handy
import Derived.BigQuiet

namespace Go.Proofs.Ytmbllmhpnopbdaa
open Go.RowKit

/-- Block b holds the four cells of a row. -/
structure RowAt (w : World) (b : Nat) (t k v : Int) (s : ByteArray) : Prop where
  c0 : w.cell? ⟨b, 0, none⟩ = some (.int .i64 t)
  c1 : w.cell? ⟨b, 1, none⟩ = some (.int .i64 k)
  c2 : w.cell? ⟨b, 2, none⟩ = some (.int .i64 v)
  c3 : w.cell? ⟨b, 3, none⟩ = some (.string s)

theorem rowAt_below {B b : Nat} {w w' : World} {t k v : Int} {s : ByteArray} (hb : Below B w w') (hlt : b < B) (h : RowAt w b t k v s) : RowAt w' b t k v s :=
  ⟨(hb.cell (p := ⟨b, 0, none⟩) hlt).trans h.c0, (hb.cell (p := ⟨b, 1, none⟩) hlt).trans h.c1, (hb.cell (p := ⟨b, 2, none⟩) hlt).trans h.c2, (hb.cell (p := ⟨b, 3, none⟩) hlt).trans h.c3⟩

theorem below_draws {B : Nat} {a w : World} (h : Below B a w) (n : Nat) : Below B a (w.drewN n) := ⟨h.os, h.tape, h.output, h.size, h.block⟩

end Go.Proofs.Ytmbllmhpnopbdaa

/-
  Bytes in memory: what a slice of bytes holds, and the contracts of what compares, marks and looks through such slices (eqByteS, markByteS, heldByteS and what hands a BytesResult to them).
-/
namespace Go.Proofs.Ytmbllmhpnopbdaa
open Go.RowKit

/-- The slice that begins at a holds the bytes zs, in a block from lo to below hi, which may be written. -/
def BytesIn (lo hi : Nat) (w : World) (a : Option Addr) (zs : List Int) : Prop :=
  zs = [] ∨ ∃ b off, a = some ⟨b, off, none⟩ ∧ lo ≤ b ∧ b < hi ∧ (∀ i, i < zs.length → w.cell? ⟨b, off + i, none⟩ = some (.int .u8 (zs.getD i 0))) ∧ (∀ i, i < zs.length → w.frozen? ⟨b, off + i, none⟩ = false)

/-- w' is w with new blocks, and with cells of blocks from lo to below hi written. -/
structure Turned (lo hi : Nat) (w w' : World) : Prop where
  os : w'.os = w.os
  tape : w'.tape = w.tape
  output : w'.output = w.output
  size : w.heap.size ≤ w'.heap.size
  block : ∀ k, k < w.heap.size → ¬ (lo ≤ k ∧ k < hi) → w'.heap[k]? = w.heap[k]?

theorem Turned.refl (lo hi : Nat) (w : World) : Turned lo hi w w := ⟨rfl, rfl, rfl, Nat.le_refl _, fun _ _ _ => rfl⟩
theorem Turned.ofBelow {lo hi : Nat} {w w' : World} (h : Below w.heap.size w w') : Turned lo hi w w' := ⟨h.os, h.tape, h.output, h.size, fun k hk _ => h.block k hk⟩
theorem Turned.trans {lo hi : Nat} {w w1 w2 : World} (h : Turned lo hi w w1) (k : Turned lo hi w1 w2) : Turned lo hi w w2 :=
  ⟨k.os.trans h.os, k.tape.trans h.tape, k.output.trans h.output, Nat.le_trans h.size k.size, fun i hi hn => (k.block i (Nat.lt_of_lt_of_le hi h.size) hn).trans (h.block i hi hn)⟩
theorem Turned.toBelow {lo hi B : Nat} {w w' : World} (h : Turned lo hi w w') (hB : B ≤ w.heap.size) (hl : B ≤ lo) : Below B w w' := ⟨h.os, h.tape, h.output, h.size, fun k hk => h.block k (by omega) (by omega)⟩
theorem Turned.setCell {lo hi : Nat} {w w' : World} (h : Turned lo hi w w') {p : Addr} (h1 : lo ≤ p.block) (h2 : p.block < hi) (v : Value) : Turned lo hi w (w'.setCell p v) :=
  h.trans ⟨rfl, rfl, rfl, by simp [World.setCell], fun k _ hn => Below.heap_setCell _ _ _ _ (by omega)⟩
theorem Turned.cell {lo hi : Nat} {w w' : World} (h : Turned lo hi w w') {p : Addr} {v : Value} (hc : w.cell? p = some v) (hn : p.block < lo ∨ hi ≤ p.block) : w'.cell? p = some v :=
  (World.cell?_of_block (h.block p.block (World.block_lt_of_cell? w p hc) (by omega))).trans hc
theorem Turned.frozen {lo hi : Nat} {w w' : World} (h : Turned lo hi w w') {p : Addr} {v : Value} (hc : w.cell? p = some v) (hn : p.block < lo ∨ hi ≤ p.block) : w'.frozen? p = w.frozen? p :=
  World.frozen?_of_block (h.block p.block (World.block_lt_of_cell? w p hc) (by omega))

theorem BytesIn.turned {l u lo hi : Nat} {w w' : World} {a : Option Addr} {zs : List Int} (h : BytesIn l u w a zs) (ht : Turned lo hi w w') (hn : u ≤ lo ∨ hi ≤ l) : BytesIn l u w' a zs := by
  rcases h with h | ⟨b, off, ha, h1, h2, hc, hf⟩
  · exact .inl h
  · exact .inr ⟨b, off, ha, h1, h2, fun i hi => ht.cell (hc i hi) (by simp only; omega), fun i hi => (ht.frozen (hc i hi) (by simp only; omega)).trans (hf i hi)⟩

theorem BytesIn.below {l u : Nat} {w w' : World} {a : Option Addr} {zs : List Int} (h : BytesIn l u w a zs) (hb : Below w.heap.size w w') : BytesIn l u w' a zs :=
  h.turned (lo := u) (hi := u) (Turned.ofBelow hb) (.inl (Nat.le_refl _))

theorem BytesIn.mono {lo lo' hi hi' : Nat} {w : World} {a : Option Addr} {zs : List Int} (h : BytesIn lo hi w a zs) (hl : lo' ≤ lo) (hh : hi ≤ hi') : BytesIn lo' hi' w a zs := by
  rcases h with h | ⟨b, off, ha, h1, h2, hc, hf⟩
  · exact .inl h
  · exact .inr ⟨b, off, ha, by omega, by omega, hc, hf⟩

/-- A store into a block below. -/
theorem BytesIn.setCell {lo hi : Nat} {w : World} {a : Option Addr} {zs : List Int} (h : BytesIn lo hi w a zs) {p : Addr} (hp : p.block < lo) (v : Value) : BytesIn lo hi (w.setCell p v) a zs := by
  rcases h with h | ⟨b, off, ha, h1, h2, hc, hf⟩
  · exact .inl h
  · refine .inr ⟨b, off, ha, h1, h2, fun i hi => ?_, fun i hi => ?_⟩
    · rw [World.cell?_setCell_other _ _ _ _ (fun e => by have := congrArg Addr.block e; simp at this; omega)]; exact hc i hi
    · rw [World.frozen?_setCell]; exact hf i hi

/-- Block b holds the two cells of a BytesResult. -/
structure ResAt (w : World) (b : Nat) (q : Int) (a : Option Addr) (n c : Nat) : Prop where
  c0 : w.cell? ⟨b, 0, none⟩ = some (.int .i64 q)
  c1 : w.cell? ⟨b, 1, none⟩ = some (.slice a n c)

theorem ResAt.turned {lo hi b : Nat} {w w' : World} {q : Int} {a : Option Addr} {n c : Nat} (h : ResAt w b q a n c) (ht : Turned lo hi w w') (hn : b < lo ∨ hi ≤ b) : ResAt w' b q a n c :=
  ⟨ht.cell h.c0 (by simp only; omega), ht.cell h.c1 (by simp only; omega)⟩
theorem ResAt.below {b : Nat} {w w' : World} {q : Int} {a : Option Addr} {n c : Nat} (h : ResAt w b q a n c) (hb : Below w.heap.size w w') : ResAt w' b q a n c :=
  h.turned (lo := 0) (hi := 0) (Turned.ofBelow hb) (.inr (Nat.zero_le _))

/-- The i-th mark, beginning with k. -/
def markOf (k : Int) (i : Nat) : Int := (k + i) % 256
/-- zs, its first j bytes marked. -/
def marked (k : Int) (j : Nat) (zs : List Int) : List Int := (List.range j).map (markOf k) ++ zs.drop j

theorem marked_zero (k : Int) (zs : List Int) : marked k 0 zs = zs := by simp [marked]
theorem marked_length (k : Int) (j : Nat) (zs : List Int) (h : j ≤ zs.length) : (marked k j zs).length = zs.length := by simp [marked]; omega
theorem marked_lt (k : Int) (j : Nat) (zs : List Int) (i : Nat) (h : i < j) : (marked k j zs).getD i 0 = markOf k i := by
  simp [marked, List.getD, List.getElem?_append, h]
theorem marked_ge (k : Int) (j : Nat) (zs : List Int) (i : Nat) (h : j ≤ i) : (marked k j zs).getD i 0 = zs.getD i 0 := by
  have h1 : ¬ i < j := by omega
  have h2 : j + (i - j) = i := by omega
  simp [marked, List.getD, List.getElem?_append, h1, h2]

theorem BytesIn.mark {w : World} {b off : Nat} {k : Int} {j : Nat} {zs : List Int} (hj : j < zs.length)
    (hc : ∀ i, i < zs.length → w.cell? ⟨b, off + i, none⟩ = some (.int .u8 ((marked k j zs).getD i 0))) :
    ∀ i, i < zs.length → (w.setCell ⟨b, off + j, none⟩ (.int .u8 (markOf k j))).cell? ⟨b, off + i, none⟩ = some (.int .u8 ((marked k (j + 1) zs).getD i 0)) := by
  intro i hi
  by_cases e : i = j
  · subst e
    rw [World.cell?_setCell_same _ _ _ (hc i hi), marked_lt k (i + 1) zs i (by omega)]
  · rw [World.cell?_setCell_other _ _ _ _ (fun h => e (by have := congrArg Addr.off h; simp at this; omega)), hc i hi]
    by_cases h1 : i < j
    · rw [marked_lt k j zs i h1, marked_lt k (j + 1) zs i (by omega)]
    · rw [marked_ge k j zs i (by omega), marked_ge k (j + 1) zs i (by omega)]

end Go.Proofs.Ytmbllmhpnopbdaa
