/-
  Bytes in memory: what a slice of bytes holds, and the contracts of what compares, marks and looks through such slices (eqByteS, markByteS, heldByteS and what hands a BytesResult to them).
-/
import Derived.Test.YteebbaleejbodaaARRowA
import Derived.Lib.AppendStr
import Derived.Lib.SmallJoins
import Derived.Deep.RegionHeld

namespace Go.Proofs.Yteebbaleejbodaa
open Go.RowKit

/-- The slice that begins at a holds the bytes zs, in a block from lo to below hi, which may be written. -/
def BytesIn (lo hi : Nat) (w : World) (a : Option Addr) (zs : List Int) : Prop :=
  zs = [] ∨ ∃ b off, a = some ⟨b, off, none⟩ ∧ lo ≤ b ∧ b < hi ∧ (∀ i, i < zs.length → w.cell? ⟨b, off + i, none⟩ = some (.int .u8 (zs.getD i 0))) ∧ (∀ i, i < zs.length → w.frozen? ⟨b, off + i, none⟩ = false)

/-- w' is w with new blocks, and with cells of blocks from lo to below hi written. -/
structure Turned (lo hi : Nat) (w w' : World) : Prop where
  os : w'.os = w.os
  tape : w'.tape = w.tape
  output : w'.output = w.output
  size : w.heap.size ≤ w'.heap.size
  block : ∀ k, k < w.heap.size → ¬ (lo ≤ k ∧ k < hi) → w'.heap[k]? = w.heap[k]?

theorem Turned.refl (lo hi : Nat) (w : World) : Turned lo hi w w := ⟨rfl, rfl, rfl, Nat.le_refl _, fun _ _ _ => rfl⟩
theorem Turned.ofBelow {lo hi : Nat} {w w' : World} (h : Below w.heap.size w w') : Turned lo hi w w' := ⟨h.os, h.tape, h.output, h.size, fun k hk _ => h.block k hk⟩
theorem Turned.trans {lo hi : Nat} {w w1 w2 : World} (h : Turned lo hi w w1) (k : Turned lo hi w1 w2) : Turned lo hi w w2 :=
  ⟨k.os.trans h.os, k.tape.trans h.tape, k.output.trans h.output, Nat.le_trans h.size k.size, fun i hi hn => (k.block i (Nat.lt_of_lt_of_le hi h.size) hn).trans (h.block i hi hn)⟩
theorem Turned.toBelow {lo hi B : Nat} {w w' : World} (h : Turned lo hi w w') (hB : B ≤ w.heap.size) (hl : B ≤ lo) : Below B w w' := ⟨h.os, h.tape, h.output, h.size, fun k hk => h.block k (by omega) (by omega)⟩
theorem Turned.setCell {lo hi : Nat} {w w' : World} (h : Turned lo hi w w') {p : Addr} (h1 : lo ≤ p.block) (h2 : p.block < hi) (v : Value) : Turned lo hi w (w'.setCell p v) :=
  h.trans ⟨rfl, rfl, rfl, by simp [World.setCell], fun k _ hn => Below.heap_setCell _ _ _ _ (by omega)⟩
theorem Turned.cell {lo hi : Nat} {w w' : World} (h : Turned lo hi w w') {p : Addr} {v : Value} (hc : w.cell? p = some v) (hn : p.block < lo ∨ hi ≤ p.block) : w'.cell? p = some v :=
  (World.cell?_of_block (h.block p.block (World.block_lt_of_cell? w p hc) (by omega))).trans hc
theorem Turned.frozen {lo hi : Nat} {w w' : World} (h : Turned lo hi w w') {p : Addr} {v : Value} (hc : w.cell? p = some v) (hn : p.block < lo ∨ hi ≤ p.block) : w'.frozen? p = w.frozen? p :=
  World.frozen?_of_block (h.block p.block (World.block_lt_of_cell? w p hc) (by omega))

theorem BytesIn.turned {l u lo hi : Nat} {w w' : World} {a : Option Addr} {zs : List Int} (h : BytesIn l u w a zs) (ht : Turned lo hi w w') (hn : u ≤ lo ∨ hi ≤ l) : BytesIn l u w' a zs := by
  rcases h with h | ⟨b, off, ha, h1, h2, hc, hf⟩
  · exact .inl h
  · exact .inr ⟨b, off, ha, h1, h2, fun i hi => ht.cell (hc i hi) (by simp only; omega), fun i hi => (ht.frozen (hc i hi) (by simp only; omega)).trans (hf i hi)⟩

theorem BytesIn.below {l u : Nat} {w w' : World} {a : Option Addr} {zs : List Int} (h : BytesIn l u w a zs) (hb : Below w.heap.size w w') : BytesIn l u w' a zs :=
  h.turned (lo := u) (hi := u) (Turned.ofBelow hb) (.inl (Nat.le_refl _))

theorem BytesIn.mono {lo lo' hi hi' : Nat} {w : World} {a : Option Addr} {zs : List Int} (h : BytesIn lo hi w a zs) (hl : lo' ≤ lo) (hh : hi ≤ hi') : BytesIn lo' hi' w a zs := by
  rcases h with h | ⟨b, off, ha, h1, h2, hc, hf⟩
  · exact .inl h
  · exact .inr ⟨b, off, ha, by omega, by omega, hc, hf⟩

/-- A store into a block below. -/
theorem BytesIn.setCell {lo hi : Nat} {w : World} {a : Option Addr} {zs : List Int} (h : BytesIn lo hi w a zs) {p : Addr} (hp : p.block < lo) (v : Value) : BytesIn lo hi (w.setCell p v) a zs := by
  rcases h with h | ⟨b, off, ha, h1, h2, hc, hf⟩
  · exact .inl h
  · refine .inr ⟨b, off, ha, h1, h2, fun i hi => ?_, fun i hi => ?_⟩
    · rw [World.cell?_setCell_other _ _ _ _ (fun e => by have := congrArg Addr.block e; simp at this; omega)]; exact hc i hi
    · rw [World.frozen?_setCell]; exact hf i hi

/-- Block b holds the two cells of a BytesResult. -/
structure ResAt (w : World) (b : Nat) (q : Int) (a : Option Addr) (n c : Nat) : Prop where
  c0 : w.cell? ⟨b, 0, none⟩ = some (.int .i64 q)
  c1 : w.cell? ⟨b, 1, none⟩ = some (.slice a n c)

theorem ResAt.turned {lo hi b : Nat} {w w' : World} {q : Int} {a : Option Addr} {n c : Nat} (h : ResAt w b q a n c) (ht : Turned lo hi w w') (hn : b < lo ∨ hi ≤ b) : ResAt w' b q a n c :=
  ⟨ht.cell h.c0 (by simp only; omega), ht.cell h.c1 (by simp only; omega)⟩
theorem ResAt.below {b : Nat} {w w' : World} {q : Int} {a : Option Addr} {n c : Nat} (h : ResAt w b q a n c) (hb : Below w.heap.size w w') : ResAt w' b q a n c :=
  h.turned (lo := 0) (hi := 0) (Turned.ofBelow hb) (.inr (Nat.zero_le _))

set_option maxHeartbeats 400000 in
theorem eqByteS_same (a b : Option Addr) (la lb ua ub : Nat) (zs : List Int) (n c d : Nat) (w : World) (hn : zs.length = n) (hm : n ≤ 140737488351232) (ha : BytesIn la ua w a zs) (hb : BytesIn lb ub w b zs) :
    Calls Try.prog 70 #[.slice a n c, .slice b n d] w fun e w' => e = .returned (.bool true) ∧ ∃ q, w' = w.drewN q := by
  by_cases h0 : n = 0
  · subst h0
    go_enter Try.func70, Try.ntmps70
    go_wp2
    go_rounds 1
    go_ret
    exact ⟨rfl, 0, rfl⟩
  · have hne : zs ≠ [] := by intro e; rw [e] at hn; simp at hn; omega
    rcases ha with ha | ⟨x, o, rfl, _, _, hc, _⟩
    · exact absurd ha hne
    rcases hb with hb | ⟨y, p, rfl, _, _, hd, _⟩
    · exact absurd hb hne
    clear hne
    go_enter Try.func70, Try.ntmps70
    go_wp2
    go_loopw [5] (fun i wr => ∃ k q : Nat, k ≤ n ∧ i = .int .i64 k ∧ wr = w.drewN q) (fun i _ => n - (intOf i).toNat)
    case atStart => exact ⟨0, 0, Nat.zero_le _, rfl, rfl⟩
    case round =>
      obtain ⟨k, q, hk, rfl, rfl⟩ := hrel
      by_cases hlt : k < n
      · have h1 := hc k (by omega)
        have h2 := hd k (by omega)
        clear hc hd
        have hi : (k : Int) < (n : Int) := by omega
        go_wp2
        go_quiet (fail)
        go_wp2
        go_roundw
        case rel => exact ⟨k + 1, q + nq, by omega, by go_num, rfl⟩
        case measure => simp [intOf]; omega
      · go_wp2
        go_ret
        exact ⟨rfl, q, rfl⟩

/-- The i-th mark, beginning with k. -/
def markOf (k : Int) (i : Nat) : Int := (k + i) % 256
/-- zs, its first j bytes marked. -/
def marked (k : Int) (j : Nat) (zs : List Int) : List Int := (List.range j).map (markOf k) ++ zs.drop j

theorem marked_zero (k : Int) (zs : List Int) : marked k 0 zs = zs := by simp [marked]
theorem marked_length (k : Int) (j : Nat) (zs : List Int) (h : j ≤ zs.length) : (marked k j zs).length = zs.length := by simp [marked]; omega
theorem marked_lt (k : Int) (j : Nat) (zs : List Int) (i : Nat) (h : i < j) : (marked k j zs).getD i 0 = markOf k i := by
  simp [marked, List.getD, List.getElem?_append, h]
theorem marked_ge (k : Int) (j : Nat) (zs : List Int) (i : Nat) (h : j ≤ i) : (marked k j zs).getD i 0 = zs.getD i 0 := by
  have h1 : ¬ i < j := by omega
  have h2 : j + (i - j) = i := by omega
  simp [marked, List.getD, List.getElem?_append, h1, h2]

theorem BytesIn.mark {w : World} {b off : Nat} {k : Int} {j : Nat} {zs : List Int} (hj : j < zs.length)
    (hc : ∀ i, i < zs.length → w.cell? ⟨b, off + i, none⟩ = some (.int .u8 ((marked k j zs).getD i 0))) :
    ∀ i, i < zs.length → (w.setCell ⟨b, off + j, none⟩ (.int .u8 (markOf k j))).cell? ⟨b, off + i, none⟩ = some (.int .u8 ((marked k (j + 1) zs).getD i 0)) := by
  intro i hi
  by_cases e : i = j
  · subst e
    rw [World.cell?_setCell_same _ _ _ (hc i hi), marked_lt k (i + 1) zs i (by omega)]
  · rw [World.cell?_setCell_other _ _ _ _ (fun h => e (by have := congrArg Addr.off h; simp at this; omega)), hc i hi]
    by_cases h1 : i < j
    · rw [marked_lt k j zs i h1, marked_lt k (j + 1) zs i (by omega)]
    · rw [marked_ge k j zs i (by omega), marked_ge k (j + 1) zs i (by omega)]

set_option maxHeartbeats 400000 in
theorem markByteS_any (a : Option Addr) (lo hi : Nat) (zs : List Int) (n c : Nat) (k : Int) (w : World) (hn : zs.length = n) (hm : n ≤ 140737488351232) (hk0 : 0 ≤ k) (hk1 : k ≤ 140737488351232) (ha : BytesIn lo hi w a zs) :
    Calls Try.prog 71 #[.slice a n c, .int .i64 k] w fun e w' => e = .returned (.int .i64 (k + n)) ∧ Turned lo hi w w' ∧ BytesIn lo hi w' a (marked k n zs) := by
  by_cases h0 : n = 0
  · subst h0
    have hz : zs = [] := by simpa using hn
    go_enter Try.func71, Try.ntmps71
    go_wp2
    go_rounds 1
    go_ret
    exact ⟨by simp, Turned.refl _ _ _, .inl (by simp [marked, hz])⟩
  · have hne : zs ≠ [] := by intro e; rw [e] at hn; simp at hn; omega
    rcases ha with ha | ⟨x, o, rfl, hlo, hhi, hc, hf⟩
    · exact absurd ha hne
    clear hne
    go_enter Try.func71, Try.ntmps71
    go_wp2
    go_loopw [5, 1] (fun i kk wr => ∃ j : Nat, j ≤ n ∧ i = .int .i64 j ∧ kk = .int .i64 (k + j) ∧ Turned lo hi w wr ∧ Hid (∀ i, i < zs.length → wr.cell? ⟨x, o + i, none⟩ = some (.int .u8 ((marked k j zs).getD i 0))) ∧ Hid (∀ i, i < zs.length → wr.frozen? ⟨x, o + i, none⟩ = false)) (fun i _ _ => n - (intOf i).toNat)
    case atStart => exact ⟨0, Nat.zero_le _, rfl, by simp, Turned.refl _ _ _, by show ∀ i, i < zs.length → _; rw [marked_zero]; exact hc, hf⟩
    case round =>
      obtain ⟨j, hj, rfl, rfl, ht, hcr, hfr⟩ := hrel
      by_cases hlt : j < n
      · have h1 := hcr.out j (by omega)
        have h2 := hfr.out j (by omega)
        clear hc hf
        have hjn : (j : Int) < (n : Int) := by omega
        go_wp2
        go_roundw
        case rel => exact ⟨j + 1, by omega, by go_num, by rw [Int.natCast_add, ← Int.add_assoc]; rfl, ht.setCell hlo hhi _, BytesIn.mark (by omega) hcr.out, fun i hi => by rw [World.frozen?_setCell]; exact hfr.out i hi⟩
        case measure => simp [intOf]; omega
      · have e : j = n := by omega
        subst e
        go_wp2
        go_ret
        exact ⟨rfl, ht, .inr ⟨x, o, rfl, hlo, hhi, fun i hi => hcr.out i (by rw [marked_length k _ zs (by omega)] at hi; exact hi), fun i hi => hfr.out i (by rw [marked_length k _ zs (by omega)] at hi; exact hi)⟩⟩

end Go.Proofs.Yteebbaleejbodaa

/-
  The contracts of what makes the cell of a row: rowCell and the model's l1Cell.
-/
namespace Go.Proofs.Yteebbaleejbodaa
open Go.RowKit

def cellBytes (f t k v : Int) (s : ByteArray) : List Int := [f, t, k, v / 256, v % 256, s.size] ++ s.data.toList.map fun b => (b.toNat : Int)

theorem info5' : (Try.prog.info? 5).map (fun i => (i.zero, i.size, i.bytes)) = some (some (.int .u8 0), 1, 1) := by kernel_rfl
theorem info5 : ∃ i, Try.prog.info? 5 = some i ∧ i.zero = some (.int .u8 0) ∧ i.size = 1 ∧ i.bytes = 1 := by
  have h := info5'
  cases hi : Try.prog.info? 5 with
  | none => rw [hi] at h; simp at h
  | some i => rw [hi] at h; simp at h; exact ⟨i, rfl, h.1, h.2.1, h.2.2⟩

theorem and255 (v : Int) (v0 : 0 ≤ v) (v1 : v ≤ 999) : bits BinOp.and IntKind.i64 v 255 = v % 256 := by
  obtain ⟨n, rfl⟩ := Int.eq_ofNat_of_zero_le v0
  have h : ∀ m : Fin 1000, bits BinOp.and IntKind.i64 (m.val : Int) 255 = (m.val : Int) % 256 := by decide +kernel
  exact h ⟨n, by omega⟩

/-- What owns a row of bytes holds them. -/
theorem bytesIn_owns {w : World} {base n g cap : Nat} {e : TypeId} {zs : List Int} (h : w.ownsRow base e 1 (.slice (some ⟨g, 0, none⟩) n cap) n (zs.map (Value.int .u8))) : BytesIn base w.heap.size w (some ⟨g, 0, none⟩) zs := by
  have hl : zs.length = n := by have := h.1; simpa using this
  have hlt := h.lt g (by simp [Value.ownBlock])
  refine .inr ⟨g, 0, rfl, hlt.1, hlt.2, fun i hi => ?_, fun i hi => ?_⟩
  · rw [Nat.zero_add, h.cellAt i (by omega)]
    simp [List.getElem?_eq_getElem hi, List.getD]
  · rw [Nat.zero_add]; exact h.frozenAt i

theorem strCells_ints (s : ByteArray) : Lib.strCells s = (s.data.toList.map fun b => (b.toNat : Int)).map (Value.int .u8) := by
  simp [Lib.strCells]

theorem ownsRow_drew {w : World} {base : Nat} {e : TypeId} {size : Nat} {v : Value} {n : Nat} {xs : List Value} (h : w.ownsRow base e size v n xs) : w.drew.ownsRow base e size v n xs := h

theorem bytesRow_cell (w : World) (s : ByteArray) (cap g : Nat) (e : TypeId) (m : Nat × Nat) (hg : g = w.heap.size) (j : Nat) (u : Value) (h : (Lib.strCells s)[j]? = some u) : (w.alloc (.cells (bytesRow s cap) e m)).cell? ((⟨g, 0, none⟩ : Addr).add j) = some u := by
  subst hg
  have hj : j < s.size := by have := (List.getElem?_eq_some_iff.1 h).1; rw [Lib.strCells_length] at this; exact this
  rw [show ((⟨w.heap.size, 0, none⟩ : Addr).add j) = ⟨w.heap.size, j, none⟩ from by unfold Addr.add; split <;> simp_all]
  rw [World.cell?_alloc_mark]
  simp [Lib.strCells] at h
  obtain ⟨x, hx, rfl⟩ := h
  obtain ⟨_, rfl⟩ := Array.getElem?_eq_some_iff.1 hx
  simp [bytesRow, Array.getElem?_append, hj]
end Go.Proofs.Yteebbaleejbodaa

/-
  The contract of toByteS: new memory that holds the same bytes.
-/
namespace Go.Proofs.Yteebbaleejbodaa
open Go.RowKit

/-- The slice that begins at a reads as the bytes zs. -/
def Reads (w : World) (a : Option Addr) (zs : List Int) : Prop :=
  zs = [] ∨ ∃ b off, a = some ⟨b, off, none⟩ ∧ ∀ i, i < zs.length → w.cell? ⟨b, off + i, none⟩ = some (.int .u8 (zs.getD i 0))

theorem Reads.below {w w' : World} {a : Option Addr} {zs : List Int} (h : Reads w a zs) {B : Nat} (hb : Below B w w') (hB : w.heap.size ≤ B) : Reads w' a zs := by
  rcases h with h | ⟨b, off, ha, hc⟩
  · exact .inl h
  · exact .inr ⟨b, off, ha, fun i hi => (hb.cell (p := ⟨b, off + i, none⟩) (Nat.lt_of_lt_of_le (World.block_lt_of_cell? w _ (hc i hi)) hB)).trans (hc i hi)⟩

theorem BytesIn.reads {lo hi : Nat} {w : World} {a : Option Addr} {zs : List Int} (h : BytesIn lo hi w a zs) : Reads w a zs := by
  rcases h with h | ⟨b, off, ha, _, _, hc, _⟩
  · exact .inl h
  · exact .inr ⟨b, off, ha, hc⟩

theorem made_zero (n i : Nat) (h : i < n) : (madeCells #[Value.int .u8 0] n).toList[i]? = some (.int .u8 0) := by
  simp [madeCells, h, Nat.mod_one]

set_option maxHeartbeats 400000 in
theorem toByteS_any (a : Option Addr) (zs : List Int) (n c : Nat) (w : World) (hn : zs.length = n) (hm : n ≤ 1048576) (ha : Reads w a zs) :
    Calls Try.prog 68 #[.slice a n c] w fun e w' => e = .returned (.slice (some ⟨w.heap.size, 0, none⟩) n n) ∧ Below w.heap.size w w' ∧ BytesIn w.heap.size w'.heap.size w' (some ⟨w.heap.size, 0, none⟩) zs := by
  obtain ⟨i0, hi, hz0, hz1, hz2⟩ := info5
  by_cases h0 : n = 0
  · subst h0
    have hz : zs = [] := by simpa using hn
    go_enter Try.func68, Try.ntmps68
    go_wp2_with (at_make; refine wpList_make_full _ rfl _ _ 106 rfl w.heap.size 5 i0 (.int .u8 0) 1 Try.underlying106 hi hz0 hz1 .i64 .i64 _ _ 0 rfl rfl rfl rfl ?c1 ?c2 (Nat.le_refl _) ?_)
    case c1 => omega
    case c2 => unfold maxLen; omega
    intro w1 hown hg
    have hB : Below w.heap.size w w1 := Below.grown (Below.refl _ _) hg (Nat.le_refl _) (fun k hk => by cases hk)
    clear hown hg
    go_wp2_with fail
    go_rounds 1
    go_ret
    exact ⟨rfl, hB, .inl hz⟩
  · rcases ha with ha | ⟨b, off, rfl, hc⟩
    · rw [ha] at hn; simp at hn; omega
    have hb0 : b < w.heap.size := World.block_lt_of_cell? w _ (hc 0 (by omega))
    go_enter Try.func68, Try.ntmps68
    go_wp2_with (at_make; refine wpList_make_full _ rfl _ _ 106 rfl w.heap.size 5 i0 (.int .u8 0) 1 Try.underlying106 hi hz0 hz1 .i64 .i64 _ _ n rfl rfl rfl rfl ?c1 ?c2 (Nat.le_refl _) ?_)
    case c1 => rw [hz2]; omega
    case c2 => unfold maxLen; omega
    intro w1 hown hg
    have hB : Below w.heap.size w w1 := Below.grown (Below.refl _ _) hg (Nat.le_refl _) (fun k hk => by cases hk)
    have hlt1 : w.heap.size < w1.heap.size := (hown.lt w.heap.size (by simp [Value.ownBlock])).2
    have hC : Hid (∀ i, i < n → w1.cell? ⟨w.heap.size, i, none⟩ = some (.int .u8 0)) := fun i hi => by rw [hown.cellAt i (by omega), made_zero n i hi]
    have hF : Hid (∀ i, i < n → w1.frozen? ⟨w.heap.size, i, none⟩ = false) := fun i _ => hown.frozenAt i
    have hD : Hid (∀ i, i < n → w1.cell? ⟨b, off + i, none⟩ = some (.int .u8 (zs.getD i 0))) := fun i hi => (hB.cell (p := ⟨b, off + i, none⟩) hb0).trans (hc i (by omega))
    clear hown hg hc hi hz0 hz1 hz2
    go_wp2_with fail
    go_loopw [4] (fun i wr => ∃ k : Nat, k ≤ n ∧ i = .int .i64 k ∧ Turned w.heap.size (w.heap.size + 1) w1 wr ∧ Hid (∀ i, i < n → wr.cell? ⟨w.heap.size, i, none⟩ = some (.int .u8 (if i < k then zs.getD i 0 else 0))) ∧ Hid (∀ i, i < n → wr.frozen? ⟨w.heap.size, i, none⟩ = false)) (fun i _ => n - (intOf i).toNat)
    case atStart => exact ⟨0, Nat.zero_le _, rfl, Turned.refl _ _ _, fun i hi => by rw [hC.out i hi]; simp, hF⟩
    case round =>
      obtain ⟨k, hk, rfl, ht, hcr, hfr⟩ := hrel
      by_cases hlt : k < n
      · have e1 : wr.cell? ⟨b, off + k, none⟩ = some (.int .u8 (zs.getD k 0)) := ht.cell (hD.out k hlt) (.inl hb0)
        have e2 : wr.cell? ⟨w.heap.size, k, none⟩ = some (.int .u8 0) := by rw [hcr.out k hlt]; simp
        have e3 := hfr.out k hlt
        obtain ⟨z, hzv⟩ : ∃ z, z = zs.getD k 0 := ⟨_, rfl⟩
        rw [← hzv] at e1
        have HV : Hid (z = zs.getD k 0) := hzv
        clear hzv
        have hkn : (k : Int) < (n : Int) := by omega
        go_wp2
        go_roundw
        case rel =>
          refine ⟨k + 1, by omega, by go_num, ht.setCell (Nat.le_refl _) (by simp) _, fun i hi => ?_, fun i hi => by rw [World.frozen?_setCell]; exact hfr.out i hi⟩
          by_cases e : i = k
          · subst e
            rw [World.cell?_setCell_same _ _ _ e2, if_pos (by omega), HV.out]
          · rw [World.cell?_setCell_other _ _ _ _ (fun h => e (by have := congrArg Addr.off h; simp at this; omega)), hcr.out i hi]
            by_cases h1 : i < k
            · simp [h1, show i < k + 1 from by omega]
            · simp [h1, show ¬ i < k + 1 from by omega]
        case measure => simp [intOf]; omega
      · have e : k = n := by omega
        subst e
        go_wp2
        go_ret
        refine ⟨rfl, hB.trans (ht.toBelow hB.size (Nat.le_refl _)), .inr ⟨w.heap.size, 0, rfl, Nat.le_refl _, Nat.lt_of_lt_of_le hlt1 ht.size, fun i hi => ?_, fun i hi => ?_⟩⟩
        · rw [Nat.zero_add, hcr.out i (by omega), if_pos (by omega)]
        · rw [Nat.zero_add]; exact hfr.out i (by omega)

end Go.Proofs.Yteebbaleejbodaa
