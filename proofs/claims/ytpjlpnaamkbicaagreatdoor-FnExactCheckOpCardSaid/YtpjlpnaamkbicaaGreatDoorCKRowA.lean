/-
  The contracts of what compares two rows: szRow, toRow, and both IsBefore, for every row and in whatever memory; each lays new blocks alone.
-/
import Derived.Test.YtpjlpnaamkbicaaGreatDoorRows
import Derived.WalkKit
import Derived.WalkSpells
import Derived.WalkLawsBesides
import Derived.Handy
import Derived.BigQuiet

namespace Go.Proofs.YtpjlpnaamkbicaaGreatDoor
open Go.RowKit

/-- Block b holds the four cells of a row. -/
structure RowAt (w : World) (b : Nat) (t k v : Int) (s : ByteArray) : Prop where
  c0 : w.cell? ⟨b, 0, none⟩ = some (.int .i64 t)
  c1 : w.cell? ⟨b, 1, none⟩ = some (.int .i64 k)
  c2 : w.cell? ⟨b, 2, none⟩ = some (.int .i64 v)
  c3 : w.cell? ⟨b, 3, none⟩ = some (.string s)

theorem rowAt_below {B b : Nat} {w w' : World} {t k v : Int} {s : ByteArray} (hb : Below B w w') (hlt : b < B) (h : RowAt w b t k v s) : RowAt w' b t k v s :=
  ⟨(hb.cell (p := ⟨b, 0, none⟩) hlt).trans h.c0, (hb.cell (p := ⟨b, 1, none⟩) hlt).trans h.c1, (hb.cell (p := ⟨b, 2, none⟩) hlt).trans h.c2, (hb.cell (p := ⟨b, 3, none⟩) hlt).trans h.c3⟩

theorem below_draws {B : Nat} {a w : World} (h : Below B a w) (n : Nat) : Below B a (w.drewN n) := ⟨h.os, h.tape, h.output, h.size, h.block⟩

set_option maxHeartbeats 400000 in
theorem szRow_fits (t k v : Int) (s : ByteArray) (n : Int) (w : World) (h0 : (s.size : Int) ≤ n) (h1 : n ≤ 1048576) :
    Calls Tryz.prog 15 #[.agg #[.int .i64 t, .int .i64 k, .int .i64 v, .string s], .int .i64 n] w fun e w' => e = .returned (.int .i64 (n - s.size)) ∧ Below w.heap.size w w' := by
  have hn : ¬ n - (s.size : Int) < 0 := by omega
  go_enter Tryz.func15, Tryz.ntmps15
  go_wp2
  go_ret
  exact ⟨rfl, by go_grown⟩

set_option maxHeartbeats 400000 in
theorem szRow_over (t k v : Int) (s : ByteArray) (n : Int) (w : World) (hs : s.size ≤ maxLen) (hn0 : 0 ≤ n) (h1 : n ≤ 1048576) (h0 : n < (s.size : Int)) :
    Calls Tryz.prog 15 #[.agg #[.int .i64 t, .int .i64 k, .int .i64 v, .string s], .int .i64 n] w fun e w' => e = .returned (.int .i64 (-1)) ∧ Below w.heap.size w w' := by
  unfold maxLen at hs
  have hn : n - (s.size : Int) < 0 := by omega
  go_enter Tryz.func15, Tryz.ntmps15
  go_wp2
  go_ret
  exact ⟨rfl, by go_grown⟩

set_option maxHeartbeats 400000 in
theorem toRow_any (t k v : Int) (s : ByteArray) (w : World) :
    Calls Tryz.prog 22 #[.agg #[.int .i64 t, .int .i64 k, .int .i64 v, .string s]] w fun e w' => e = .returned (.agg #[.int .i64 t, .int .i64 k, .int .i64 v, .string s]) ∧ Below w.heap.size w w' := by
  go_enter Tryz.func22, Tryz.ntmps22
  go_wp2
  go_returns
  exact ⟨rfl, by go_grown⟩

end Go.Proofs.YtpjlpnaamkbicaaGreatDoor

/-
  Bytes in memory: what a slice of bytes holds, and the contracts of what compares, marks and looks through such slices (eqByteS, markByteS, heldByteS and what hands a BytesResult to them).
-/
namespace Go.Proofs.YtpjlpnaamkbicaaGreatDoor
open Go.RowKit

/-- The slice that begins at a holds the bytes zs, in a block from lo to below hi, which may be written. -/
def BytesIn (lo hi : Nat) (w : World) (a : Option Addr) (zs : List Int) : Prop :=
  zs = [] ∨ ∃ b off, a = some ⟨b, off, none⟩ ∧ lo ≤ b ∧ b < hi ∧ (∀ i, i < zs.length → w.cell? ⟨b, off + i, none⟩ = some (.int .u8 (zs.getD i 0))) ∧ (∀ i, i < zs.length → w.frozen? ⟨b, off + i, none⟩ = false)

/-- w' is w with new blocks, and with cells of blocks from lo to below hi written. -/
structure Turned (lo hi : Nat) (w w' : World) : Prop where
  os : w'.os = w.os
  tape : w'.tape = w.tape
  output : w'.output = w.output
  size : w.heap.size ≤ w'.heap.size
  block : ∀ k, k < w.heap.size → ¬ (lo ≤ k ∧ k < hi) → w'.heap[k]? = w.heap[k]?

theorem Turned.refl (lo hi : Nat) (w : World) : Turned lo hi w w := ⟨rfl, rfl, rfl, Nat.le_refl _, fun _ _ _ => rfl⟩
theorem Turned.ofBelow {lo hi : Nat} {w w' : World} (h : Below w.heap.size w w') : Turned lo hi w w' := ⟨h.os, h.tape, h.output, h.size, fun k hk _ => h.block k hk⟩
theorem Turned.trans {lo hi : Nat} {w w1 w2 : World} (h : Turned lo hi w w1) (k : Turned lo hi w1 w2) : Turned lo hi w w2 :=
  ⟨k.os.trans h.os, k.tape.trans h.tape, k.output.trans h.output, Nat.le_trans h.size k.size, fun i hi hn => (k.block i (Nat.lt_of_lt_of_le hi h.size) hn).trans (h.block i hi hn)⟩
theorem Turned.toBelow {lo hi B : Nat} {w w' : World} (h : Turned lo hi w w') (hB : B ≤ w.heap.size) (hl : B ≤ lo) : Below B w w' := ⟨h.os, h.tape, h.output, h.size, fun k hk => h.block k (by omega) (by omega)⟩
theorem Turned.setCell {lo hi : Nat} {w w' : World} (h : Turned lo hi w w') {p : Addr} (h1 : lo ≤ p.block) (h2 : p.block < hi) (v : Value) : Turned lo hi w (w'.setCell p v) :=
  h.trans ⟨rfl, rfl, rfl, by simp [World.setCell], fun k _ hn => Below.heap_setCell _ _ _ _ (by omega)⟩
theorem Turned.cell {lo hi : Nat} {w w' : World} (h : Turned lo hi w w') {p : Addr} {v : Value} (hc : w.cell? p = some v) (hn : p.block < lo ∨ hi ≤ p.block) : w'.cell? p = some v :=
  (World.cell?_of_block (h.block p.block (World.block_lt_of_cell? w p hc) (by omega))).trans hc
theorem Turned.frozen {lo hi : Nat} {w w' : World} (h : Turned lo hi w w') {p : Addr} {v : Value} (hc : w.cell? p = some v) (hn : p.block < lo ∨ hi ≤ p.block) : w'.frozen? p = w.frozen? p :=
  World.frozen?_of_block (h.block p.block (World.block_lt_of_cell? w p hc) (by omega))

theorem BytesIn.turned {l u lo hi : Nat} {w w' : World} {a : Option Addr} {zs : List Int} (h : BytesIn l u w a zs) (ht : Turned lo hi w w') (hn : u ≤ lo ∨ hi ≤ l) : BytesIn l u w' a zs := by
  rcases h with h | ⟨b, off, ha, h1, h2, hc, hf⟩
  · exact .inl h
  · exact .inr ⟨b, off, ha, h1, h2, fun i hi => ht.cell (hc i hi) (by simp only; omega), fun i hi => (ht.frozen (hc i hi) (by simp only; omega)).trans (hf i hi)⟩

theorem BytesIn.below {l u : Nat} {w w' : World} {a : Option Addr} {zs : List Int} (h : BytesIn l u w a zs) (hb : Below w.heap.size w w') : BytesIn l u w' a zs :=
  h.turned (lo := u) (hi := u) (Turned.ofBelow hb) (.inl (Nat.le_refl _))

theorem BytesIn.mono {lo lo' hi hi' : Nat} {w : World} {a : Option Addr} {zs : List Int} (h : BytesIn lo hi w a zs) (hl : lo' ≤ lo) (hh : hi ≤ hi') : BytesIn lo' hi' w a zs := by
  rcases h with h | ⟨b, off, ha, h1, h2, hc, hf⟩
  · exact .inl h
  · exact .inr ⟨b, off, ha, by omega, by omega, hc, hf⟩

/-- A store into a block below. -/
theorem BytesIn.setCell {lo hi : Nat} {w : World} {a : Option Addr} {zs : List Int} (h : BytesIn lo hi w a zs) {p : Addr} (hp : p.block < lo) (v : Value) : BytesIn lo hi (w.setCell p v) a zs := by
  rcases h with h | ⟨b, off, ha, h1, h2, hc, hf⟩
  · exact .inl h
  · refine .inr ⟨b, off, ha, h1, h2, fun i hi => ?_, fun i hi => ?_⟩
    · rw [World.cell?_setCell_other _ _ _ _ (fun e => by have := congrArg Addr.block e; simp at this; omega)]; exact hc i hi
    · rw [World.frozen?_setCell]; exact hf i hi

/-- Block b holds the two cells of a BytesResult. -/
structure ResAt (w : World) (b : Nat) (q : Int) (a : Option Addr) (n c : Nat) : Prop where
  c0 : w.cell? ⟨b, 0, none⟩ = some (.int .i64 q)
  c1 : w.cell? ⟨b, 1, none⟩ = some (.slice a n c)

theorem ResAt.turned {lo hi b : Nat} {w w' : World} {q : Int} {a : Option Addr} {n c : Nat} (h : ResAt w b q a n c) (ht : Turned lo hi w w') (hn : b < lo ∨ hi ≤ b) : ResAt w' b q a n c :=
  ⟨ht.cell h.c0 (by simp only; omega), ht.cell h.c1 (by simp only; omega)⟩
theorem ResAt.below {b : Nat} {w w' : World} {q : Int} {a : Option Addr} {n c : Nat} (h : ResAt w b q a n c) (hb : Below w.heap.size w w') : ResAt w' b q a n c :=
  h.turned (lo := 0) (hi := 0) (Turned.ofBelow hb) (.inr (Nat.zero_le _))

/-- The i-th mark, beginning with k. -/
def markOf (k : Int) (i : Nat) : Int := (k + i) % 256
/-- zs, its first j bytes marked. -/
def marked (k : Int) (j : Nat) (zs : List Int) : List Int := (List.range j).map (markOf k) ++ zs.drop j

theorem marked_zero (k : Int) (zs : List Int) : marked k 0 zs = zs := by simp [marked]
theorem marked_length (k : Int) (j : Nat) (zs : List Int) (h : j ≤ zs.length) : (marked k j zs).length = zs.length := by simp [marked]; omega
theorem marked_lt (k : Int) (j : Nat) (zs : List Int) (i : Nat) (h : i < j) : (marked k j zs).getD i 0 = markOf k i := by
  simp [marked, List.getD, List.getElem?_append, h]
theorem marked_ge (k : Int) (j : Nat) (zs : List Int) (i : Nat) (h : j ≤ i) : (marked k j zs).getD i 0 = zs.getD i 0 := by
  have h1 : ¬ i < j := by omega
  have h2 : j + (i - j) = i := by omega
  simp [marked, List.getD, List.getElem?_append, h1, h2]

theorem BytesIn.mark {w : World} {b off : Nat} {k : Int} {j : Nat} {zs : List Int} (hj : j < zs.length)
    (hc : ∀ i, i < zs.length → w.cell? ⟨b, off + i, none⟩ = some (.int .u8 ((marked k j zs).getD i 0))) :
    ∀ i, i < zs.length → (w.setCell ⟨b, off + j, none⟩ (.int .u8 (markOf k j))).cell? ⟨b, off + i, none⟩ = some (.int .u8 ((marked k (j + 1) zs).getD i 0)) := by
  intro i hi
  by_cases e : i = j
  · subst e
    rw [World.cell?_setCell_same _ _ _ (hc i hi), marked_lt k (i + 1) zs i (by omega)]
  · rw [World.cell?_setCell_other _ _ _ _ (fun h => e (by have := congrArg Addr.off h; simp at this; omega)), hc i hi]
    by_cases h1 : i < j
    · rw [marked_lt k j zs i h1, marked_lt k (j + 1) zs i (by omega)]
    · rw [marked_ge k j zs i (by omega), marked_ge k (j + 1) zs i (by omega)]

end Go.Proofs.YtpjlpnaamkbicaaGreatDoor

/-
  Slices of structs, told cell by cell: read, owned, written beside.
-/
namespace Go.Proofs.YtpjlpnaamkbicaaGreatDoor
open Go.RowKit
set_option linter.unusedVariables false

section
variable {α : Type} {enc : α → List Value} {k : Nat}

def flat (enc : α → List Value) (xs : List α) : List Value := xs.flatMap enc

theorem flat_length (hk : ∀ x, (enc x).length = k) : ∀ xs : List α, (flat enc xs).length = xs.length * k
  | [] => by simp [flat]
  | x :: xs => by
    have h := flat_length hk xs
    simp only [flat, List.flatMap_cons, List.length_append, List.length_cons, hk] at h ⊢
    rw [h, Nat.succ_mul]
    omega

theorem flat_at (hk : ∀ x, (enc x).length = k) : ∀ (xs : List α) (i j : Nat) (x : α), xs[i]? = some x → j < k → (flat enc xs)[i * k + j]? = (enc x)[j]?
  | [], i, j, x, h, _ => by simp at h
  | y :: xs, 0, j, x, h, hj => by
    simp at h
    subst h
    simp only [flat, List.flatMap_cons, Nat.zero_mul, Nat.zero_add]
    rw [List.getElem?_append_left (by rw [hk]; exact hj)]
  | y :: xs, i + 1, j, x, h, hj => by
    have ih := flat_at hk xs i j x (by simpa using h) hj
    simp only [flat, List.flatMap_cons]
    rw [List.getElem?_append_right (by rw [hk, Nat.succ_mul]; omega), hk, show (i + 1) * k + j - k = i * k + j by rw [Nat.succ_mul]; omega]
    exact ih

theorem flat_append (xs ys : List α) : flat enc (xs ++ ys) = flat enc xs ++ flat enc ys := by simp [flat]
theorem flat_one (x : α) : flat enc [x] = enc x := by simp [flat]

/-- The slice that begins at a reads as xs, k cells each. -/
def Rs (enc : α → List Value) (k : Nat) (w : World) (a : Option Addr) (xs : List α) : Prop :=
  xs = [] ∨ ∃ b off, a = some ⟨b, off, none⟩ ∧ ∀ i x, xs[i]? = some x → ∀ j u, (enc x)[j]? = some u → w.cell? ⟨b, off + i * k + j, none⟩ = some u

theorem Rs.below {w w' : World} {a : Option Addr} {xs : List α} (h : Rs enc k w a xs) {B : Nat} (hb : Below B w w') (hB : w.heap.size ≤ B) : Rs enc k w' a xs := by
  rcases h with h | ⟨b, off, ha, hc⟩
  · exact .inl h
  · refine .inr ⟨b, off, ha, fun i x hx j u hu => ?_⟩
    have h0 := hc i x hx j u hu
    exact (hb.cell (p := ⟨b, _, none⟩) (Nat.lt_of_lt_of_le (World.block_lt_of_cell? w _ h0) hB)).trans h0

/-- .. in a block from lo to below hi, which may be written. -/
def SlIn (enc : α → List Value) (k : Nat) (lo hi : Nat) (w : World) (a : Option Addr) (xs : List α) : Prop :=
  xs = [] ∨ ∃ b off, a = some ⟨b, off, none⟩ ∧ lo ≤ b ∧ b < hi ∧ ∀ i x, xs[i]? = some x → ∀ j u, (enc x)[j]? = some u → w.cell? ⟨b, off + i * k + j, none⟩ = some u ∧ w.frozen? ⟨b, off + i * k + j, none⟩ = false

theorem SlIn.reads {lo hi : Nat} {w : World} {a : Option Addr} {xs : List α} (h : SlIn enc k lo hi w a xs) : Rs enc k w a xs := by
  rcases h with h | ⟨b, off, ha, _, _, hc⟩
  · exact .inl h
  · exact .inr ⟨b, off, ha, fun i x hx j u hu => (hc i x hx j u hu).1⟩

theorem SlIn.turned {l u lo hi : Nat} {w w' : World} {a : Option Addr} {xs : List α} (h : SlIn enc k l u w a xs) (ht : Turned lo hi w w') (hn : u ≤ lo ∨ hi ≤ l) : SlIn enc k l u w' a xs := by
  rcases h with h | ⟨b, off, ha, h1, h2, hc⟩
  · exact .inl h
  · refine .inr ⟨b, off, ha, h1, h2, fun i x hx j v hv => ?_⟩
    obtain ⟨e1, e2⟩ := hc i x hx j v hv
    exact ⟨ht.cell e1 (by simp only; omega), (ht.frozen e1 (by simp only; omega)).trans e2⟩

theorem SlIn.below {l u : Nat} {w w' : World} {a : Option Addr} {xs : List α} (h : SlIn enc k l u w a xs) (hb : Below w.heap.size w w') : SlIn enc k l u w' a xs :=
  h.turned (lo := u) (hi := u) (Turned.ofBelow hb) (.inl (Nat.le_refl _))

theorem SlIn.mono {lo hi lo' hi' : Nat} {w : World} {a : Option Addr} {xs : List α} (h : SlIn enc k lo hi w a xs) (hl : lo' ≤ lo) (hh : hi ≤ hi') : SlIn enc k lo' hi' w a xs := by
  rcases h with h | ⟨b, off, ha, h1, h2, hc⟩
  · exact .inl h
  · exact .inr ⟨b, off, ha, by omega, by omega, hc⟩

/-- What the call appended itself. -/
theorem SlIn.ofRow {base e : Nat} {w : World} {v : Value} {xs : List α} (hk : ∀ x, (enc x).length = k) (h : w.ownsRow base e k v xs.length (flat enc xs)) : ∃ a c, v = .slice a xs.length c ∧ xs.length ≤ c ∧ SlIn enc k base w.heap.size w a xs ∧ (a = none → c = 0) := by
  obtain ⟨hl, h | ⟨g, cap, cur, rfl, hb, hc, hn, hm, hs, ht⟩⟩ := h
  · obtain ⟨rfl, h0⟩ := h
    refine ⟨none, 0, by rw [h0], by omega, .inl (List.length_eq_zero_iff.1 h0), fun _ => rfl⟩
  · refine ⟨_, cap, rfl, hn, .inr ⟨g, 0, rfl, hb, (Array.getElem?_eq_some_iff.1 hc).1, fun i x hx j u hu => ?_⟩, fun e => by cases e⟩
    have hj : j < k := by rw [← hk x]; exact (List.getElem?_eq_some_iff.1 hu).1
    have e := flat_at hk xs i j x hx hj
    have hi : i < xs.length := (List.getElem?_eq_some_iff.1 hx).1
    have hlt : i * k + j < xs.length * k := by
      have : i * k + k ≤ xs.length * k := by rw [← Nat.succ_mul]; exact Nat.mul_le_mul_right _ hi
      omega
    have e2 : cur[i * k + j]? = some u := by
      rw [← Array.getElem?_toList, ← hu, ← e, ← ht, List.getElem?_take_of_lt hlt]
    rw [Nat.zero_add]
    constructor
    · simp [World.cell?, hc, e2]
    · simp [World.frozen?, hc]
end

end Go.Proofs.YtpjlpnaamkbicaaGreatDoor
