/-
  Bytes in memory: what a slice of bytes holds, and the contracts of what compares, marks and looks through such slices (eqByteS, markByteS, heldByteS and what hands a BytesResult to them).
-/
import Derived.Test.YtdgonddimenmdaaGreatRows
import Derived.WalkKit
import Derived.WalkSpells
import Derived.WalkLawsBesides
import Derived.Handy
import Derived.BigQuiet

namespace Go.Proofs.YtdgonddimenmdaaGreat
open Go.RowKit

theorem below_draws {B : Nat} {a w : World} (h : Below B a w) (n : Nat) : Below B a (w.drewN n) := ⟨h.os, h.tape, h.output, h.size, h.block⟩

/-- The slice that begins at a holds the bytes zs, in a block from lo to below hi, which may be written. -/
def BytesIn (lo hi : Nat) (w : World) (a : Option Addr) (zs : List Int) : Prop :=
  zs = [] ∨ ∃ b off, a = some ⟨b, off, none⟩ ∧ lo ≤ b ∧ b < hi ∧ (∀ i, i < zs.length → w.cell? ⟨b, off + i, none⟩ = some (.int .u8 (zs.getD i 0))) ∧ (∀ i, i < zs.length → w.frozen? ⟨b, off + i, none⟩ = false)

/-- w' is w with new blocks, and with cells of blocks from lo to below hi written. -/
structure Turned (lo hi : Nat) (w w' : World) : Prop where
  os : w'.os = w.os
  tape : w'.tape = w.tape
  output : w'.output = w.output
  size : w.heap.size ≤ w'.heap.size
  block : ∀ k, k < w.heap.size → ¬ (lo ≤ k ∧ k < hi) → w'.heap[k]? = w.heap[k]?

theorem Turned.refl (lo hi : Nat) (w : World) : Turned lo hi w w := ⟨rfl, rfl, rfl, Nat.le_refl _, fun _ _ _ => rfl⟩
theorem Turned.ofBelow {lo hi : Nat} {w w' : World} (h : Below w.heap.size w w') : Turned lo hi w w' := ⟨h.os, h.tape, h.output, h.size, fun k hk _ => h.block k hk⟩
theorem Turned.trans {lo hi : Nat} {w w1 w2 : World} (h : Turned lo hi w w1) (k : Turned lo hi w1 w2) : Turned lo hi w w2 :=
  ⟨k.os.trans h.os, k.tape.trans h.tape, k.output.trans h.output, Nat.le_trans h.size k.size, fun i hi hn => (k.block i (Nat.lt_of_lt_of_le hi h.size) hn).trans (h.block i hi hn)⟩
theorem Turned.toBelow {lo hi B : Nat} {w w' : World} (h : Turned lo hi w w') (hB : B ≤ w.heap.size) (hl : B ≤ lo) : Below B w w' := ⟨h.os, h.tape, h.output, h.size, fun k hk => h.block k (by omega) (by omega)⟩
theorem Turned.setCell {lo hi : Nat} {w w' : World} (h : Turned lo hi w w') {p : Addr} (h1 : lo ≤ p.block) (h2 : p.block < hi) (v : Value) : Turned lo hi w (w'.setCell p v) :=
  h.trans ⟨rfl, rfl, rfl, by simp [World.setCell], fun k _ hn => Below.heap_setCell _ _ _ _ (by omega)⟩
theorem Turned.cell {lo hi : Nat} {w w' : World} (h : Turned lo hi w w') {p : Addr} {v : Value} (hc : w.cell? p = some v) (hn : p.block < lo ∨ hi ≤ p.block) : w'.cell? p = some v :=
  (World.cell?_of_block (h.block p.block (World.block_lt_of_cell? w p hc) (by omega))).trans hc
theorem Turned.frozen {lo hi : Nat} {w w' : World} (h : Turned lo hi w w') {p : Addr} {v : Value} (hc : w.cell? p = some v) (hn : p.block < lo ∨ hi ≤ p.block) : w'.frozen? p = w.frozen? p :=
  World.frozen?_of_block (h.block p.block (World.block_lt_of_cell? w p hc) (by omega))

theorem BytesIn.turned {l u lo hi : Nat} {w w' : World} {a : Option Addr} {zs : List Int} (h : BytesIn l u w a zs) (ht : Turned lo hi w w') (hn : u ≤ lo ∨ hi ≤ l) : BytesIn l u w' a zs := by
  rcases h with h | ⟨b, off, ha, h1, h2, hc, hf⟩
  · exact .inl h
  · exact .inr ⟨b, off, ha, h1, h2, fun i hi => ht.cell (hc i hi) (by simp only; omega), fun i hi => (ht.frozen (hc i hi) (by simp only; omega)).trans (hf i hi)⟩

theorem BytesIn.below {l u : Nat} {w w' : World} {a : Option Addr} {zs : List Int} (h : BytesIn l u w a zs) (hb : Below w.heap.size w w') : BytesIn l u w' a zs :=
  h.turned (lo := u) (hi := u) (Turned.ofBelow hb) (.inl (Nat.le_refl _))

theorem BytesIn.mono {lo lo' hi hi' : Nat} {w : World} {a : Option Addr} {zs : List Int} (h : BytesIn lo hi w a zs) (hl : lo' ≤ lo) (hh : hi ≤ hi') : BytesIn lo' hi' w a zs := by
  rcases h with h | ⟨b, off, ha, h1, h2, hc, hf⟩
  · exact .inl h
  · exact .inr ⟨b, off, ha, by omega, by omega, hc, hf⟩

/-- A store into a block below. -/
theorem BytesIn.setCell {lo hi : Nat} {w : World} {a : Option Addr} {zs : List Int} (h : BytesIn lo hi w a zs) {p : Addr} (hp : p.block < lo) (v : Value) : BytesIn lo hi (w.setCell p v) a zs := by
  rcases h with h | ⟨b, off, ha, h1, h2, hc, hf⟩
  · exact .inl h
  · refine .inr ⟨b, off, ha, h1, h2, fun i hi => ?_, fun i hi => ?_⟩
    · rw [World.cell?_setCell_other _ _ _ _ (fun e => by have := congrArg Addr.block e; simp at this; omega)]; exact hc i hi
    · rw [World.frozen?_setCell]; exact hf i hi

/-- Block b holds the two cells of a BytesResult. -/
structure ResAt (w : World) (b : Nat) (q : Int) (a : Option Addr) (n c : Nat) : Prop where
  c0 : w.cell? ⟨b, 0, none⟩ = some (.int .i64 q)
  c1 : w.cell? ⟨b, 1, none⟩ = some (.slice a n c)

theorem ResAt.turned {lo hi b : Nat} {w w' : World} {q : Int} {a : Option Addr} {n c : Nat} (h : ResAt w b q a n c) (ht : Turned lo hi w w') (hn : b < lo ∨ hi ≤ b) : ResAt w' b q a n c :=
  ⟨ht.cell h.c0 (by simp only; omega), ht.cell h.c1 (by simp only; omega)⟩
theorem ResAt.below {b : Nat} {w w' : World} {q : Int} {a : Option Addr} {n c : Nat} (h : ResAt w b q a n c) (hb : Below w.heap.size w w') : ResAt w' b q a n c :=
  h.turned (lo := 0) (hi := 0) (Turned.ofBelow hb) (.inr (Nat.zero_le _))

/-- The i-th mark, beginning with k. -/
def markOf (k : Int) (i : Nat) : Int := (k + i) % 256
/-- zs, its first j bytes marked. -/
def marked (k : Int) (j : Nat) (zs : List Int) : List Int := (List.range j).map (markOf k) ++ zs.drop j

theorem marked_zero (k : Int) (zs : List Int) : marked k 0 zs = zs := by simp [marked]
theorem marked_length (k : Int) (j : Nat) (zs : List Int) (h : j ≤ zs.length) : (marked k j zs).length = zs.length := by simp [marked]; omega
theorem marked_lt (k : Int) (j : Nat) (zs : List Int) (i : Nat) (h : i < j) : (marked k j zs).getD i 0 = markOf k i := by
  simp [marked, List.getD, List.getElem?_append, h]
theorem marked_ge (k : Int) (j : Nat) (zs : List Int) (i : Nat) (h : j ≤ i) : (marked k j zs).getD i 0 = zs.getD i 0 := by
  have h1 : ¬ i < j := by omega
  have h2 : j + (i - j) = i := by omega
  simp [marked, List.getD, List.getElem?_append, h1, h2]

theorem BytesIn.mark {w : World} {b off : Nat} {k : Int} {j : Nat} {zs : List Int} (hj : j < zs.length)
    (hc : ∀ i, i < zs.length → w.cell? ⟨b, off + i, none⟩ = some (.int .u8 ((marked k j zs).getD i 0))) :
    ∀ i, i < zs.length → (w.setCell ⟨b, off + j, none⟩ (.int .u8 (markOf k j))).cell? ⟨b, off + i, none⟩ = some (.int .u8 ((marked k (j + 1) zs).getD i 0)) := by
  intro i hi
  by_cases e : i = j
  · subst e
    rw [World.cell?_setCell_same _ _ _ (hc i hi), marked_lt k (i + 1) zs i (by omega)]
  · rw [World.cell?_setCell_other _ _ _ _ (fun h => e (by have := congrArg Addr.off h; simp at this; omega)), hc i hi]
    by_cases h1 : i < j
    · rw [marked_lt k j zs i h1, marked_lt k (j + 1) zs i (by omega)]
    · rw [marked_ge k j zs i (by omega), marked_ge k (j + 1) zs i (by omega)]

end Go.Proofs.YtdgonddimenmdaaGreat

/-
  The contracts of what compares two rows: szRow, toRow, and both IsBefore, for every row and in whatever memory; each lays new blocks alone.
-/
namespace Go.Proofs.YtdgonddimenmdaaGreat
open Go.RowKit

/-- Block b holds the four cells of a row. -/
structure RowAt (w : World) (b : Nat) (t k v : Int) (s : ByteArray) : Prop where
  c0 : w.cell? ⟨b, 0, none⟩ = some (.int .i64 t)
  c1 : w.cell? ⟨b, 1, none⟩ = some (.int .i64 k)
  c2 : w.cell? ⟨b, 2, none⟩ = some (.int .i64 v)
  c3 : w.cell? ⟨b, 3, none⟩ = some (.string s)

theorem rowAt_below {B b : Nat} {w w' : World} {t k v : Int} {s : ByteArray} (hb : Below B w w') (hlt : b < B) (h : RowAt w b t k v s) : RowAt w' b t k v s :=
  ⟨(hb.cell (p := ⟨b, 0, none⟩) hlt).trans h.c0, (hb.cell (p := ⟨b, 1, none⟩) hlt).trans h.c1, (hb.cell (p := ⟨b, 2, none⟩) hlt).trans h.c2, (hb.cell (p := ⟨b, 3, none⟩) hlt).trans h.c3⟩


end Go.Proofs.YtdgonddimenmdaaGreat

/-
  The contracts of what asks a row for its faults: isWithin, isLetter, isText, RowFault, and the model's l1In, l1Text, l1Fault, RowFault, for every row.
-/
namespace Go.Proofs.YtdgonddimenmdaaGreat
open Go.RowKit

def inW (n lo hi : Int) : Bool := decide (lo ≤ n) && decide (n ≤ hi)
def lttB (c : Int) : Bool := decide (97 ≤ c) && decide (c ≤ 122)
def allB (s : ByteArray) (k : Nat) : Bool := (s.data.toList.take k).all fun c => lttB c.toNat
def txtB (s : ByteArray) : Bool := decide (s.size ≤ 8) && allB s s.size
def rngB (t k v : Int) : Bool := inW t 0 3 && inW k 1 99 && inW v 0 999
def faultI (t k v : Int) (s : ByteArray) : Int := if rngB t k v = true then (if txtB s = true then 0 else 5) else 3

theorem ret_bool {a b : Bool} (h : a = b) : Ending.returned (.bool a) = .returned (.bool b) := by rw [h]
theorem ret_i64 {a b : Int} (h : a = b) : Ending.returned (.int .i64 a) = .returned (.int .i64 b) := by rw [h]

theorem allB_succ (s : ByteArray) (k : Nat) (h : k < s.size) : allB s (k + 1) = (allB s k && lttB (s[k].toNat : Int)) := by
  unfold allB
  rw [List.take_succ_eq_append_getElem (by simpa using h), List.all_append]
  simp only [List.all_cons, List.all_nil, Bool.and_true]
  rfl
theorem allB_false (s : ByteArray) (k : Nat) (h : k < s.size) (hl : lttB (s[k].toNat : Int) = false) : ∀ j, k < j → j ≤ s.size → allB s j = false := by
  intro j
  induction j with
  | zero => intro h1; omega
  | succ j ih =>
    intro h1 h2
    rw [allB_succ s j (by omega)]
    by_cases e : k = j
    · subst e; rw [hl]; simp
    · rw [ih (by omega) (by omega)]; simp
theorem txtB_false (s : ByteArray) (k : Nat) (h : k < s.size) (hl : lttB (s[k].toNat : Int) = false) : txtB s = false := by
  unfold txtB
  rw [allB_false s k h hl s.size h (Nat.le_refl _)]
  simp

set_option maxHeartbeats 400000 in
theorem l1InW_any (n lo hi : Int) (w : World) : Calls Tryz.prog 28 #[.int .i64 n, .int .i64 lo, .int .i64 hi] w fun e w' => e = .returned (.bool (inW n lo hi)) ∧ w' = w := by
  by_cases h1 : lo ≤ n
  · have d1 : decide (lo ≤ n) = true := by simpa using h1
    by_cases h2 : n ≤ hi
    · have e1 : inW n lo hi = true := by simp [inW, h1, h2]
      rw [e1]
      go_enter Tryz.func28, Tryz.ntmps28
      go_wp2
      go_ret
      exact ⟨rfl, rfl⟩
    · have e1 : inW n lo hi = false := by simp [inW]; omega
      have d2 : decide (n ≤ hi) = false := by simpa using h2
      rw [e1]
      go_enter Tryz.func28, Tryz.ntmps28
      go_wp2
      go_ret
      exact ⟨rfl, rfl⟩
  · have e1 : inW n lo hi = false := by simp [inW]; omega
    have d1 : decide (lo ≤ n) = false := by simpa using h1
    rw [e1]
    go_enter Tryz.func28, Tryz.ntmps28
    go_wp2
    go_ret
    exact ⟨rfl, rfl⟩

set_option maxHeartbeats 400000 in
theorem isWithinW_any (n lo hi : Int) (w : World) : Calls Tryz.prog 51 #[.int .i64 n, .int .i64 lo, .int .i64 hi] w fun e w' => e = .returned (.bool (inW n lo hi)) ∧ w' = w := by
  by_cases h1 : lo ≤ n
  · have d1 : decide (lo ≤ n) = true := by simpa using h1
    by_cases h2 : n ≤ hi
    · have e1 : inW n lo hi = true := by simp [inW, h1, h2]
      rw [e1]
      go_enter Tryz.func51, Tryz.ntmps51
      go_wp2
      go_ret
      exact ⟨rfl, rfl⟩
    · have e1 : inW n lo hi = false := by simp [inW]; omega
      have d2 : decide (n ≤ hi) = false := by simpa using h2
      rw [e1]
      go_enter Tryz.func51, Tryz.ntmps51
      go_wp2
      go_ret
      exact ⟨rfl, rfl⟩
  · have e1 : inW n lo hi = false := by simp [inW]; omega
    have d1 : decide (lo ≤ n) = false := by simpa using h1
    rw [e1]
    go_enter Tryz.func51, Tryz.ntmps51
    go_wp2
    go_ret
    exact ⟨rfl, rfl⟩

set_option maxHeartbeats 400000 in
theorem isLetter_any (c : Int) (w : World) : Calls Tryz.prog 85 #[.int .u8 c] w fun e w' => e = .returned (.bool (lttB c)) ∧ w' = w := by
  by_cases h1 : 97 ≤ c
  · have d1 : decide (97 ≤ c) = true := by simpa using h1
    by_cases h2 : c ≤ 122
    · have e1 : lttB c = true := by simp [lttB, h1, h2]
      rw [e1]
      go_enter Tryz.func85, Tryz.ntmps85
      go_wp2
      go_ret
      exact ⟨rfl, rfl⟩
    · have e1 : lttB c = false := by simp [lttB]; omega
      have d2 : decide (c ≤ 122) = false := by simpa using h2
      rw [e1]
      go_enter Tryz.func85, Tryz.ntmps85
      go_wp2
      go_ret
      exact ⟨rfl, rfl⟩
  · have e1 : lttB c = false := by simp [lttB]; omega
    have d1 : decide (97 ≤ c) = false := by simpa using h1
    rw [e1]
    go_enter Tryz.func85, Tryz.ntmps85
    go_wp2
    go_ret
    exact ⟨rfl, rfl⟩

set_option maxHeartbeats 400000 in
theorem l1Text_any (s : ByteArray) (w : World) (hs : s.size ≤ maxLen) : Calls Tryz.prog 114 #[.string s] w fun e w' => e = .returned (.bool (txtB s)) ∧ w' = w := by
  unfold maxLen at hs
  go_enter Tryz.func114, Tryz.ntmps114
  go_wp2
  go_loop [3] (fun i => ∃ k : Nat, k ≤ s.size ∧ i = .int .i64 k ∧ Hid (allB s k = true)) (fun i => s.size - (intOf i).toNat)
  case atStart => exact ⟨0, Nat.zero_le _, rfl, by simp [Hid, allB]⟩
  case round =>
    obtain ⟨k, hk, rfl, hall⟩ := hrel
    by_cases hlt : k < s.size
    · by_cases h1 : (s[k].toNat : Int) < 97
      · have hf : txtB s = false := txtB_false s k hlt (by simp [lttB]; omega)
        have HF : Hid (txtB s = false) := hf
        clear hf
        go_wp2
        go_ret
        exact ⟨ret_bool HF.out.symm, rfl⟩
      · by_cases h2 : (122 : Int) < (s[k].toNat : Int)
        · have hf : txtB s = false := txtB_false s k hlt (by simp [lttB]; omega)
          have HF : Hid (txtB s = false) := hf
          clear hf
          go_wp2
          go_ret
          exact ⟨ret_bool HF.out.symm, rfl⟩
        · have HN : Hid (allB s (k + 1) = true) := by
            have h0 := hall.out
            show allB s (k + 1) = true
            rw [allB_succ s k hlt, h0]
            simp [lttB]
            omega
          go_wp2
          go_round
          case rel => exact ⟨k + 1, by omega, by go_num, HN⟩
          case measure => simp [intOf]; omega
    · have e : k = s.size := by omega
      subst e
      have HF : Hid (txtB s = decide (s.size ≤ 8)) := by
        have h0 := hall.out
        show txtB s = _
        unfold txtB; rw [h0]; simp
      go_wp2
      go_ret
      exact ⟨ret_bool (by rw [HF.out]; simp; omega), rfl⟩

set_option maxHeartbeats 400000 in
theorem isText_any (s : ByteArray) (w : World) (hs : s.size ≤ maxLen) : Calls Tryz.prog 56 #[.string s] w fun e w' => e = .returned (.bool (txtB s)) ∧ w' = w := by
  unfold maxLen at hs
  by_cases h8 : (8 : Int) < (s.size : Int)
  · have HF : Hid (txtB s = false) := by show txtB s = false; unfold txtB; rw [decide_eq_false (by omega)]; simp
    go_enter Tryz.func56, Tryz.ntmps56
    go_wp2
    go_ret
    exact ⟨ret_bool HF.out.symm, rfl⟩
  · have d8 : decide ((8 : Int) < (s.size : Int)) = false := by simpa using h8
    go_enter Tryz.func56, Tryz.ntmps56
    go_wp2
    go_loop [3] (fun i => ∃ k : Nat, k ≤ s.size ∧ i = .int .i64 k ∧ Hid (allB s k = true)) (fun i => s.size - (intOf i).toNat)
    case atStart => exact ⟨0, Nat.zero_le _, rfl, by simp [Hid, allB]⟩
    case round =>
      obtain ⟨k, hk, rfl, hall⟩ := hrel
      by_cases hlt : k < s.size
      · by_cases h1 : lttB (s[k].toNat : Int) = true
        · have HN : Hid (allB s (k + 1) = true) := by
            have h0 := hall.out
            show allB s (k + 1) = true
            rw [allB_succ s k hlt, h0, h1]
            rfl
          go_wp2_with (go_at_call 85; refine (isLetter_any _ _).mono ?_; rintro e w' ⟨rfl, rfl⟩)
          go_round
          case rel => exact ⟨k + 1, by omega, by go_num, HN⟩
          case measure => simp [intOf]; omega
        · have h1' : lttB (s[k].toNat : Int) = false := by simpa using h1
          clear h1
          have HF : Hid (txtB s = false) := txtB_false s k hlt h1'
          go_wp2_with (go_at_call 85; refine (isLetter_any _ _).mono ?_; rintro e w' ⟨rfl, rfl⟩)
          go_ret
          exact ⟨ret_bool HF.out.symm, rfl⟩
      · have e : k = s.size := by omega
        subst e
        have HF : Hid (txtB s = true) := by
          have h0 := hall.out
          show txtB s = _
          unfold txtB; rw [h0]; simp; omega
        go_wp2_with fail
        go_ret
        exact ⟨ret_bool HF.out.symm, rfl⟩

theorem fault_t (t k v : Int) (s : ByteArray) (h : inW t 0 3 = false) : faultI t k v s = 3 := by simp [faultI, rngB, h]
theorem fault_k (t k v : Int) (s : ByteArray) (h : inW k 1 99 = false) : faultI t k v s = 3 := by simp [faultI, rngB, h]
theorem fault_v (t k v : Int) (s : ByteArray) (h : inW v 0 999 = false) : faultI t k v s = 3 := by simp [faultI, rngB, h]
theorem fault_s (t k v : Int) (s : ByteArray) (h1 : inW t 0 3 = true) (h2 : inW k 1 99 = true) (h3 : inW v 0 999 = true) (h4 : txtB s = false) : faultI t k v s = 5 := by simp [faultI, rngB, h1, h2, h3, h4]
theorem fault_0 (t k v : Int) (s : ByteArray) (h1 : inW t 0 3 = true) (h2 : inW k 1 99 = true) (h3 : inW v 0 999 = true) (h4 : txtB s = true) : faultI t k v s = 0 := by simp [faultI, rngB, h1, h2, h3, h4]

set_option maxHeartbeats 400000 in
theorem l1Fault_any (b : Nat) (t k v : Int) (s : ByteArray) (w : World) (h : RowAt w b t k v s) (hs : s.size ≤ maxLen) :
    Calls Tryz.prog 100 #[.pointer (some ⟨b, 0, none⟩)] w fun e w' => e = .returned (.int .i64 (faultI t k v s)) ∧ w' = w := by
  obtain ⟨c0, c1, c2, c3⟩ := h
  cases h1 : inW t 0 3
  · rw [fault_t t k v s h1]
    go_enter Tryz.func100, Tryz.ntmps100
    go_wp2_with (go_at_call 28; refine (l1InW_any _ _ _ _).mono ?_; rintro e w' ⟨rfl, rfl⟩)
    go_ret
    exact ⟨rfl, rfl⟩
  cases h2 : inW k 1 99
  · rw [fault_k t k v s h2]
    go_enter Tryz.func100, Tryz.ntmps100
    go_wp2_with (go_at_call 28; refine (l1InW_any _ _ _ _).mono ?_; rintro e w' ⟨rfl, rfl⟩)
    go_ret
    exact ⟨rfl, rfl⟩
  cases h3 : inW v 0 999
  · rw [fault_v t k v s h3]
    go_enter Tryz.func100, Tryz.ntmps100
    go_wp2_with (go_at_call 28; refine (l1InW_any _ _ _ _).mono ?_; rintro e w' ⟨rfl, rfl⟩)
    go_ret
    exact ⟨rfl, rfl⟩
  cases h4 : txtB s
  · rw [fault_s t k v s h1 h2 h3 h4]
    go_enter Tryz.func100, Tryz.ntmps100
    go_wp2_with (first | (go_at_call 28; refine (l1InW_any _ _ _ _).mono ?_; rintro e w' ⟨rfl, rfl⟩) | (go_at_call 114; refine (l1Text_any _ _ hs).mono ?_; rintro e w' ⟨rfl, rfl⟩))
    go_ret
    exact ⟨rfl, rfl⟩
  · rw [fault_0 t k v s h1 h2 h3 h4]
    go_enter Tryz.func100, Tryz.ntmps100
    go_wp2_with (first | (go_at_call 28; refine (l1InW_any _ _ _ _).mono ?_; rintro e w' ⟨rfl, rfl⟩) | (go_at_call 114; refine (l1Text_any _ _ hs).mono ?_; rintro e w' ⟨rfl, rfl⟩))
    go_ret
    exact ⟨rfl, rfl⟩

set_option maxHeartbeats 400000 in
theorem implRowFault_any (t k v : Int) (s : ByteArray) (w : World) (hs : s.size ≤ maxLen) :
    Calls Tryz.prog 30 #[.agg #[.int .i64 t, .int .i64 k, .int .i64 v, .string s]] w fun e w' => e = .returned (.int .i64 (faultI t k v s)) ∧ Below w.heap.size w w' := by
  cases h1 : inW t 0 3
  · rw [fault_t t k v s h1]
    go_enter Tryz.func30, Tryz.ntmps30
    go_wp2_with (go_at_call 51; refine (isWithinW_any _ _ _ _).mono ?_; rintro e w' ⟨rfl, rfl⟩)
    go_ret
    exact ⟨rfl, by go_grown⟩
  cases h2 : inW k 1 99
  · rw [fault_k t k v s h2]
    go_enter Tryz.func30, Tryz.ntmps30
    go_wp2_with (go_at_call 51; refine (isWithinW_any _ _ _ _).mono ?_; rintro e w' ⟨rfl, rfl⟩)
    go_ret
    exact ⟨rfl, by go_grown⟩
  cases h3 : inW v 0 999
  · rw [fault_v t k v s h3]
    go_enter Tryz.func30, Tryz.ntmps30
    go_wp2_with (go_at_call 51; refine (isWithinW_any _ _ _ _).mono ?_; rintro e w' ⟨rfl, rfl⟩)
    go_ret
    exact ⟨rfl, by go_grown⟩
  cases h4 : txtB s
  · rw [fault_s t k v s h1 h2 h3 h4]
    go_enter Tryz.func30, Tryz.ntmps30
    go_wp2_with (first | (go_at_call 51; refine (isWithinW_any _ _ _ _).mono ?_; rintro e w' ⟨rfl, rfl⟩) | (go_at_call 56; refine (isText_any _ _ hs).mono ?_; rintro e w' ⟨rfl, rfl⟩))
    go_ret
    exact ⟨rfl, by go_grown⟩
  · rw [fault_0 t k v s h1 h2 h3 h4]
    go_enter Tryz.func30, Tryz.ntmps30
    go_wp2_with (first | (go_at_call 51; refine (isWithinW_any _ _ _ _).mono ?_; rintro e w' ⟨rfl, rfl⟩) | (go_at_call 56; refine (isText_any _ _ hs).mono ?_; rintro e w' ⟨rfl, rfl⟩))
    go_ret
    exact ⟨rfl, by go_grown⟩

end Go.Proofs.YtdgonddimenmdaaGreat
