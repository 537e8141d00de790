/-
  The contracts of what asks a row for its faults: isWithin, isLetter, isText, RowFault, and the model's l1In, l1Text, l1Fault, RowFault, for every row.
-/
import Derived.Test.YtnfolgoloaeanaaGreatIBy
import Derived.WalkKit
import Derived.WalkSpells
import Derived.WalkLawsBesides
import Derived.Handy
import Derived.BigQuiet
import Derived.Lib.AppendStr
import Derived.Lib.SmallJoins
import Derived.Deep.RegionHeld
import Derived.Deep.WholeRow

namespace Go.Proofs.YtnfolgoloaeanaaGreat
open Go.RowKit

def inW (n lo hi : Int) : Bool := decide (lo ≤ n) && decide (n ≤ hi)
def lttB (c : Int) : Bool := decide (97 ≤ c) && decide (c ≤ 122)
def allB (s : ByteArray) (k : Nat) : Bool := (s.data.toList.take k).all fun c => lttB c.toNat
def txtB (s : ByteArray) : Bool := decide (s.size ≤ 8) && allB s s.size
def rngB (t k v : Int) : Bool := inW t 0 3 && inW k 1 99 && inW v 0 999
def faultI (t k v : Int) (s : ByteArray) : Int := if rngB t k v = true then (if txtB s = true then 0 else 5) else 3

theorem ret_bool {a b : Bool} (h : a = b) : Ending.returned (.bool a) = .returned (.bool b) := by rw [h]
theorem allB_succ (s : ByteArray) (k : Nat) (h : k < s.size) : allB s (k + 1) = (allB s k && lttB (s[k].toNat : Int)) := by
  unfold allB
  rw [List.take_succ_eq_append_getElem (by simpa using h), List.all_append]
  simp only [List.all_cons, List.all_nil, Bool.and_true]
  rfl
theorem allB_false (s : ByteArray) (k : Nat) (h : k < s.size) (hl : lttB (s[k].toNat : Int) = false) : ∀ j, k < j → j ≤ s.size → allB s j = false := by
  intro j
  induction j with
  | zero => intro h1; omega
  | succ j ih =>
    intro h1 h2
    rw [allB_succ s j (by omega)]
    by_cases e : k = j
    · subst e; rw [hl]; simp
    · rw [ih (by omega) (by omega)]; simp
theorem txtB_false (s : ByteArray) (k : Nat) (h : k < s.size) (hl : lttB (s[k].toNat : Int) = false) : txtB s = false := by
  unfold txtB
  rw [allB_false s k h hl s.size h (Nat.le_refl _)]
  simp

set_option maxHeartbeats 400000 in
theorem l1InW_any (n lo hi : Int) (w : World) : Calls Tryz.prog 72 #[.int .i64 n, .int .i64 lo, .int .i64 hi] w fun e w' => e = .returned (.bool (inW n lo hi)) ∧ w' = w := by
  by_cases h1 : lo ≤ n
  · have d1 : decide (lo ≤ n) = true := by simpa using h1
    by_cases h2 : n ≤ hi
    · have e1 : inW n lo hi = true := by simp [inW, h1, h2]
      rw [e1]
      go_enter Tryz.func72, Tryz.ntmps72
      go_wp2
      go_ret
      exact ⟨rfl, rfl⟩
    · have e1 : inW n lo hi = false := by simp [inW]; omega
      have d2 : decide (n ≤ hi) = false := by simpa using h2
      rw [e1]
      go_enter Tryz.func72, Tryz.ntmps72
      go_wp2
      go_ret
      exact ⟨rfl, rfl⟩
  · have e1 : inW n lo hi = false := by simp [inW]; omega
    have d1 : decide (lo ≤ n) = false := by simpa using h1
    rw [e1]
    go_enter Tryz.func72, Tryz.ntmps72
    go_wp2
    go_ret
    exact ⟨rfl, rfl⟩

set_option maxHeartbeats 400000 in
theorem isWithinW_any (n lo hi : Int) (w : World) : Calls Tryz.prog 85 #[.int .i64 n, .int .i64 lo, .int .i64 hi] w fun e w' => e = .returned (.bool (inW n lo hi)) ∧ w' = w := by
  by_cases h1 : lo ≤ n
  · have d1 : decide (lo ≤ n) = true := by simpa using h1
    by_cases h2 : n ≤ hi
    · have e1 : inW n lo hi = true := by simp [inW, h1, h2]
      rw [e1]
      go_enter Tryz.func85, Tryz.ntmps85
      go_wp2
      go_ret
      exact ⟨rfl, rfl⟩
    · have e1 : inW n lo hi = false := by simp [inW]; omega
      have d2 : decide (n ≤ hi) = false := by simpa using h2
      rw [e1]
      go_enter Tryz.func85, Tryz.ntmps85
      go_wp2
      go_ret
      exact ⟨rfl, rfl⟩
  · have e1 : inW n lo hi = false := by simp [inW]; omega
    have d1 : decide (lo ≤ n) = false := by simpa using h1
    rw [e1]
    go_enter Tryz.func85, Tryz.ntmps85
    go_wp2
    go_ret
    exact ⟨rfl, rfl⟩

set_option maxHeartbeats 400000 in
theorem isLetter_any (c : Int) (w : World) : Calls Tryz.prog 147 #[.int .u8 c] w fun e w' => e = .returned (.bool (lttB c)) ∧ w' = w := by
  by_cases h1 : 97 ≤ c
  · have d1 : decide (97 ≤ c) = true := by simpa using h1
    by_cases h2 : c ≤ 122
    · have e1 : lttB c = true := by simp [lttB, h1, h2]
      rw [e1]
      go_enter Tryz.func147, Tryz.ntmps147
      go_wp2
      go_ret
      exact ⟨rfl, rfl⟩
    · have e1 : lttB c = false := by simp [lttB]; omega
      have d2 : decide (c ≤ 122) = false := by simpa using h2
      rw [e1]
      go_enter Tryz.func147, Tryz.ntmps147
      go_wp2
      go_ret
      exact ⟨rfl, rfl⟩
  · have e1 : lttB c = false := by simp [lttB]; omega
    have d1 : decide (97 ≤ c) = false := by simpa using h1
    rw [e1]
    go_enter Tryz.func147, Tryz.ntmps147
    go_wp2
    go_ret
    exact ⟨rfl, rfl⟩

set_option maxHeartbeats 400000 in
theorem l1Text_any (s : ByteArray) (w : World) (hs : s.size ≤ maxLen) : Calls Tryz.prog 110 #[.string s] w fun e w' => e = .returned (.bool (txtB s)) ∧ w' = w := by
  unfold maxLen at hs
  go_enter Tryz.func110, Tryz.ntmps110
  go_wp2
  go_loop [3] (fun i => ∃ k : Nat, k ≤ s.size ∧ i = .int .i64 k ∧ Hid (allB s k = true)) (fun i => s.size - (intOf i).toNat)
  case atStart => exact ⟨0, Nat.zero_le _, rfl, by simp [Hid, allB]⟩
  case round =>
    obtain ⟨k, hk, rfl, hall⟩ := hrel
    by_cases hlt : k < s.size
    · by_cases h1 : (s[k].toNat : Int) < 97
      · have hf : txtB s = false := txtB_false s k hlt (by simp [lttB]; omega)
        have HF : Hid (txtB s = false) := hf
        clear hf
        go_wp2
        go_ret
        exact ⟨ret_bool HF.out.symm, rfl⟩
      · by_cases h2 : (122 : Int) < (s[k].toNat : Int)
        · have hf : txtB s = false := txtB_false s k hlt (by simp [lttB]; omega)
          have HF : Hid (txtB s = false) := hf
          clear hf
          go_wp2
          go_ret
          exact ⟨ret_bool HF.out.symm, rfl⟩
        · have HN : Hid (allB s (k + 1) = true) := by
            have h0 := hall.out
            show allB s (k + 1) = true
            rw [allB_succ s k hlt, h0]
            simp [lttB]
            omega
          go_wp2
          go_round
          case rel => exact ⟨k + 1, by omega, by go_num, HN⟩
          case measure => simp [intOf]; omega
    · have e : k = s.size := by omega
      subst e
      have HF : Hid (txtB s = decide (s.size ≤ 8)) := by
        have h0 := hall.out
        show txtB s = _
        unfold txtB; rw [h0]; simp
      go_wp2
      go_ret
      exact ⟨ret_bool (by rw [HF.out]; simp; omega), rfl⟩

set_option maxHeartbeats 400000 in
theorem isText_any (s : ByteArray) (w : World) (hs : s.size ≤ maxLen) : Calls Tryz.prog 101 #[.string s] w fun e w' => e = .returned (.bool (txtB s)) ∧ w' = w := by
  unfold maxLen at hs
  by_cases h8 : (8 : Int) < (s.size : Int)
  · have HF : Hid (txtB s = false) := by show txtB s = false; unfold txtB; rw [decide_eq_false (by omega)]; simp
    go_enter Tryz.func101, Tryz.ntmps101
    go_wp2
    go_ret
    exact ⟨ret_bool HF.out.symm, rfl⟩
  · have d8 : decide ((8 : Int) < (s.size : Int)) = false := by simpa using h8
    go_enter Tryz.func101, Tryz.ntmps101
    go_wp2
    go_loop [3] (fun i => ∃ k : Nat, k ≤ s.size ∧ i = .int .i64 k ∧ Hid (allB s k = true)) (fun i => s.size - (intOf i).toNat)
    case atStart => exact ⟨0, Nat.zero_le _, rfl, by simp [Hid, allB]⟩
    case round =>
      obtain ⟨k, hk, rfl, hall⟩ := hrel
      by_cases hlt : k < s.size
      · by_cases h1 : lttB (s[k].toNat : Int) = true
        · have HN : Hid (allB s (k + 1) = true) := by
            have h0 := hall.out
            show allB s (k + 1) = true
            rw [allB_succ s k hlt, h0, h1]
            rfl
          go_wp2_with (go_at_call 147; refine (isLetter_any _ _).mono ?_; rintro e w' ⟨rfl, rfl⟩)
          go_round
          case rel => exact ⟨k + 1, by omega, by go_num, HN⟩
          case measure => simp [intOf]; omega
        · have h1' : lttB (s[k].toNat : Int) = false := by simpa using h1
          clear h1
          have HF : Hid (txtB s = false) := txtB_false s k hlt h1'
          go_wp2_with (go_at_call 147; refine (isLetter_any _ _).mono ?_; rintro e w' ⟨rfl, rfl⟩)
          go_ret
          exact ⟨ret_bool HF.out.symm, rfl⟩
      · have e : k = s.size := by omega
        subst e
        have HF : Hid (txtB s = true) := by
          have h0 := hall.out
          show txtB s = _
          unfold txtB; rw [h0]; simp; omega
        go_wp2_with fail
        go_ret
        exact ⟨ret_bool HF.out.symm, rfl⟩

theorem fault_t (t k v : Int) (s : ByteArray) (h : inW t 0 3 = false) : faultI t k v s = 3 := by simp [faultI, rngB, h]
theorem fault_k (t k v : Int) (s : ByteArray) (h : inW k 1 99 = false) : faultI t k v s = 3 := by simp [faultI, rngB, h]
theorem fault_v (t k v : Int) (s : ByteArray) (h : inW v 0 999 = false) : faultI t k v s = 3 := by simp [faultI, rngB, h]
theorem fault_s (t k v : Int) (s : ByteArray) (h1 : inW t 0 3 = true) (h2 : inW k 1 99 = true) (h3 : inW v 0 999 = true) (h4 : txtB s = false) : faultI t k v s = 5 := by simp [faultI, rngB, h1, h2, h3, h4]
theorem fault_0 (t k v : Int) (s : ByteArray) (h1 : inW t 0 3 = true) (h2 : inW k 1 99 = true) (h3 : inW v 0 999 = true) (h4 : txtB s = true) : faultI t k v s = 0 := by simp [faultI, rngB, h1, h2, h3, h4]

set_option maxHeartbeats 400000 in
theorem l1Fault_any (b : Nat) (t k v : Int) (s : ByteArray) (w : World) (h : RowAt w b t k v s) (hs : s.size ≤ maxLen) :
    Calls Tryz.prog 58 #[.pointer (some ⟨b, 0, none⟩)] w fun e w' => e = .returned (.int .i64 (faultI t k v s)) ∧ w' = w := by
  obtain ⟨c0, c1, c2, c3⟩ := h
  cases h1 : inW t 0 3
  · rw [fault_t t k v s h1]
    go_enter Tryz.func58, Tryz.ntmps58
    go_wp2_with (go_at_call 72; refine (l1InW_any _ _ _ _).mono ?_; rintro e w' ⟨rfl, rfl⟩)
    go_ret
    exact ⟨rfl, rfl⟩
  cases h2 : inW k 1 99
  · rw [fault_k t k v s h2]
    go_enter Tryz.func58, Tryz.ntmps58
    go_wp2_with (go_at_call 72; refine (l1InW_any _ _ _ _).mono ?_; rintro e w' ⟨rfl, rfl⟩)
    go_ret
    exact ⟨rfl, rfl⟩
  cases h3 : inW v 0 999
  · rw [fault_v t k v s h3]
    go_enter Tryz.func58, Tryz.ntmps58
    go_wp2_with (go_at_call 72; refine (l1InW_any _ _ _ _).mono ?_; rintro e w' ⟨rfl, rfl⟩)
    go_ret
    exact ⟨rfl, rfl⟩
  cases h4 : txtB s
  · rw [fault_s t k v s h1 h2 h3 h4]
    go_enter Tryz.func58, Tryz.ntmps58
    go_wp2_with (first | (go_at_call 72; refine (l1InW_any _ _ _ _).mono ?_; rintro e w' ⟨rfl, rfl⟩) | (go_at_call 110; refine (l1Text_any _ _ hs).mono ?_; rintro e w' ⟨rfl, rfl⟩))
    go_ret
    exact ⟨rfl, rfl⟩
  · rw [fault_0 t k v s h1 h2 h3 h4]
    go_enter Tryz.func58, Tryz.ntmps58
    go_wp2_with (first | (go_at_call 72; refine (l1InW_any _ _ _ _).mono ?_; rintro e w' ⟨rfl, rfl⟩) | (go_at_call 110; refine (l1Text_any _ _ hs).mono ?_; rintro e w' ⟨rfl, rfl⟩))
    go_ret
    exact ⟨rfl, rfl⟩

set_option maxHeartbeats 400000 in
theorem implRowFault_any (t k v : Int) (s : ByteArray) (w : World) (hs : s.size ≤ maxLen) :
    Calls Tryz.prog 51 #[.agg #[.int .i64 t, .int .i64 k, .int .i64 v, .string s]] w fun e w' => e = .returned (.int .i64 (faultI t k v s)) ∧ Below w.heap.size w w' := by
  cases h1 : inW t 0 3
  · rw [fault_t t k v s h1]
    go_enter Tryz.func51, Tryz.ntmps51
    go_wp2_with (go_at_call 85; refine (isWithinW_any _ _ _ _).mono ?_; rintro e w' ⟨rfl, rfl⟩)
    go_ret
    exact ⟨rfl, by go_grown⟩
  cases h2 : inW k 1 99
  · rw [fault_k t k v s h2]
    go_enter Tryz.func51, Tryz.ntmps51
    go_wp2_with (go_at_call 85; refine (isWithinW_any _ _ _ _).mono ?_; rintro e w' ⟨rfl, rfl⟩)
    go_ret
    exact ⟨rfl, by go_grown⟩
  cases h3 : inW v 0 999
  · rw [fault_v t k v s h3]
    go_enter Tryz.func51, Tryz.ntmps51
    go_wp2_with (go_at_call 85; refine (isWithinW_any _ _ _ _).mono ?_; rintro e w' ⟨rfl, rfl⟩)
    go_ret
    exact ⟨rfl, by go_grown⟩
  cases h4 : txtB s
  · rw [fault_s t k v s h1 h2 h3 h4]
    go_enter Tryz.func51, Tryz.ntmps51
    go_wp2_with (first | (go_at_call 85; refine (isWithinW_any _ _ _ _).mono ?_; rintro e w' ⟨rfl, rfl⟩) | (go_at_call 101; refine (isText_any _ _ hs).mono ?_; rintro e w' ⟨rfl, rfl⟩))
    go_ret
    exact ⟨rfl, by go_grown⟩
  · rw [fault_0 t k v s h1 h2 h3 h4]
    go_enter Tryz.func51, Tryz.ntmps51
    go_wp2_with (first | (go_at_call 85; refine (isWithinW_any _ _ _ _).mono ?_; rintro e w' ⟨rfl, rfl⟩) | (go_at_call 101; refine (isText_any _ _ hs).mono ?_; rintro e w' ⟨rfl, rfl⟩))
    go_ret
    exact ⟨rfl, by go_grown⟩

end Go.Proofs.YtnfolgoloaeanaaGreat

/-
  Which of two rows is before the other: both functions answer alike.
-/
namespace Go.Proofs.YtnfolgoloaeanaaGreat
open Go.RowKit

end Go.Proofs.YtnfolgoloaeanaaGreat

/-
  The contract of toByteS: new memory that holds the same bytes.
-/
namespace Go.Proofs.YtnfolgoloaeanaaGreat
open Go.RowKit

theorem info5' : (Tryz.prog.info? 5).map (fun i => (i.zero, i.size, i.bytes)) = some (some (.int .u8 0), 1, 1) := by kernel_rfl
theorem info5 : ∃ i, Tryz.prog.info? 5 = some i ∧ i.zero = some (.int .u8 0) ∧ i.size = 1 ∧ i.bytes = 1 := by
  have h := info5'
  cases hi : Tryz.prog.info? 5 with
  | none => rw [hi] at h; simp at h
  | some i => rw [hi] at h; simp at h; exact ⟨i, rfl, h.1, h.2.1, h.2.2⟩

/-- What owns a row of bytes holds them. -/
theorem bytesIn_owns {w : World} {base n g cap : Nat} {e : TypeId} {zs : List Int} (h : w.ownsRow base e 1 (.slice (some ⟨g, 0, none⟩) n cap) n (zs.map (Value.int .u8))) : BytesIn base w.heap.size w (some ⟨g, 0, none⟩) zs := by
  have hl : zs.length = n := by have := h.1; simpa using this
  have hlt := h.lt g (by simp [Value.ownBlock])
  refine .inr ⟨g, 0, rfl, hlt.1, hlt.2, fun i hi => ?_, fun i hi => ?_⟩
  · rw [Nat.zero_add, h.cellAt i (by omega)]
    simp [List.getElem?_eq_getElem hi, List.getD]
  · rw [Nat.zero_add]; exact h.frozenAt i

/-- The slice that begins at a reads as the bytes zs. -/
def Reads (w : World) (a : Option Addr) (zs : List Int) : Prop :=
  zs = [] ∨ ∃ b off, a = some ⟨b, off, none⟩ ∧ ∀ i, i < zs.length → w.cell? ⟨b, off + i, none⟩ = some (.int .u8 (zs.getD i 0))

theorem Reads.below {w w' : World} {a : Option Addr} {zs : List Int} (h : Reads w a zs) {B : Nat} (hb : Below B w w') (hB : w.heap.size ≤ B) : Reads w' a zs := by
  rcases h with h | ⟨b, off, ha, hc⟩
  · exact .inl h
  · exact .inr ⟨b, off, ha, fun i hi => (hb.cell (p := ⟨b, off + i, none⟩) (Nat.lt_of_lt_of_le (World.block_lt_of_cell? w _ (hc i hi)) hB)).trans (hc i hi)⟩

theorem BytesIn.reads {lo hi : Nat} {w : World} {a : Option Addr} {zs : List Int} (h : BytesIn lo hi w a zs) : Reads w a zs := by
  rcases h with h | ⟨b, off, ha, _, _, hc, _⟩
  · exact .inl h
  · exact .inr ⟨b, off, ha, hc⟩

theorem made_zero (n i : Nat) (h : i < n) : (madeCells #[Value.int .u8 0] n).toList[i]? = some (.int .u8 0) := by
  simp [madeCells, h, Nat.mod_one]

set_option maxHeartbeats 400000 in
theorem toByteS_any (a : Option Addr) (zs : List Int) (n c : Nat) (w : World) (hn : zs.length = n) (hm : n ≤ 1048576) (ha : Reads w a zs) :
    Calls Tryz.prog 91 #[.slice a n c] w fun e w' => e = .returned (.slice (some ⟨w.heap.size, 0, none⟩) n n) ∧ Below w.heap.size w w' ∧ BytesIn w.heap.size w'.heap.size w' (some ⟨w.heap.size, 0, none⟩) zs := by
  obtain ⟨i0, hi, hz0, hz1, hz2⟩ := info5
  by_cases h0 : n = 0
  · subst h0
    have hz : zs = [] := by simpa using hn
    go_enter Tryz.func91, Tryz.ntmps91
    go_wp2_with (at_make; refine wpList_make_full _ rfl _ _ 22 rfl w.heap.size 5 i0 (.int .u8 0) 1 Tryz.underlying22 hi hz0 hz1 .i64 .i64 _ _ 0 rfl rfl rfl rfl ?c1 ?c2 (Nat.le_refl _) ?_)
    case c1 => omega
    case c2 => unfold maxLen; omega
    intro w1 hown hg
    have hB : Below w.heap.size w w1 := Below.grown (Below.refl _ _) hg (Nat.le_refl _) (fun k hk => by cases hk)
    clear hown hg
    go_wp2_with fail
    go_rounds 1
    go_ret
    exact ⟨rfl, hB, .inl hz⟩
  · rcases ha with ha | ⟨b, off, rfl, hc⟩
    · rw [ha] at hn; simp at hn; omega
    have hb0 : b < w.heap.size := World.block_lt_of_cell? w _ (hc 0 (by omega))
    go_enter Tryz.func91, Tryz.ntmps91
    go_wp2_with (at_make; refine wpList_make_full _ rfl _ _ 22 rfl w.heap.size 5 i0 (.int .u8 0) 1 Tryz.underlying22 hi hz0 hz1 .i64 .i64 _ _ n rfl rfl rfl rfl ?c1 ?c2 (Nat.le_refl _) ?_)
    case c1 => rw [hz2]; omega
    case c2 => unfold maxLen; omega
    intro w1 hown hg
    have hB : Below w.heap.size w w1 := Below.grown (Below.refl _ _) hg (Nat.le_refl _) (fun k hk => by cases hk)
    have hlt1 : w.heap.size < w1.heap.size := (hown.lt w.heap.size (by simp [Value.ownBlock])).2
    have hC : Hid (∀ i, i < n → w1.cell? ⟨w.heap.size, i, none⟩ = some (.int .u8 0)) := fun i hi => by rw [hown.cellAt i (by omega), made_zero n i hi]
    have hF : Hid (∀ i, i < n → w1.frozen? ⟨w.heap.size, i, none⟩ = false) := fun i _ => hown.frozenAt i
    have hD : Hid (∀ i, i < n → w1.cell? ⟨b, off + i, none⟩ = some (.int .u8 (zs.getD i 0))) := fun i hi => (hB.cell (p := ⟨b, off + i, none⟩) hb0).trans (hc i (by omega))
    clear hown hg hc hi hz0 hz1 hz2
    go_wp2_with fail
    go_loopw [4] (fun i wr => ∃ k : Nat, k ≤ n ∧ i = .int .i64 k ∧ Turned w.heap.size (w.heap.size + 1) w1 wr ∧ Hid (∀ i, i < n → wr.cell? ⟨w.heap.size, i, none⟩ = some (.int .u8 (if i < k then zs.getD i 0 else 0))) ∧ Hid (∀ i, i < n → wr.frozen? ⟨w.heap.size, i, none⟩ = false)) (fun i _ => n - (intOf i).toNat)
    case atStart => exact ⟨0, Nat.zero_le _, rfl, Turned.refl _ _ _, fun i hi => by rw [hC.out i hi]; simp, hF⟩
    case round =>
      obtain ⟨k, hk, rfl, ht, hcr, hfr⟩ := hrel
      by_cases hlt : k < n
      · have e1 : wr.cell? ⟨b, off + k, none⟩ = some (.int .u8 (zs.getD k 0)) := ht.cell (hD.out k hlt) (.inl hb0)
        have e2 : wr.cell? ⟨w.heap.size, k, none⟩ = some (.int .u8 0) := by rw [hcr.out k hlt]; simp
        have e3 := hfr.out k hlt
        obtain ⟨z, hzv⟩ : ∃ z, z = zs.getD k 0 := ⟨_, rfl⟩
        rw [← hzv] at e1
        have HV : Hid (z = zs.getD k 0) := hzv
        clear hzv
        have hkn : (k : Int) < (n : Int) := by omega
        go_wp2
        go_roundw
        case rel =>
          refine ⟨k + 1, by omega, by go_num, ht.setCell (Nat.le_refl _) (by simp) _, fun i hi => ?_, fun i hi => by rw [World.frozen?_setCell]; exact hfr.out i hi⟩
          by_cases e : i = k
          · subst e
            rw [World.cell?_setCell_same _ _ _ e2, if_pos (by omega), HV.out]
          · rw [World.cell?_setCell_other _ _ _ _ (fun h => e (by have := congrArg Addr.off h; simp at this; omega)), hcr.out i hi]
            by_cases h1 : i < k
            · simp [h1, show i < k + 1 from by omega]
            · simp [h1, show ¬ i < k + 1 from by omega]
        case measure => simp [intOf]; omega
      · have e : k = n := by omega
        subst e
        go_wp2
        go_ret
        refine ⟨rfl, hB.trans (ht.toBelow hB.size (Nat.le_refl _)), .inr ⟨w.heap.size, 0, rfl, Nat.le_refl _, Nat.lt_of_lt_of_le hlt1 ht.size, fun i hi => ?_, fun i hi => ?_⟩⟩
        · rw [Nat.zero_add, hcr.out i (by omega), if_pos (by omega)]
        · rw [Nat.zero_add]; exact hfr.out i (by omega)

end Go.Proofs.YtnfolgoloaeanaaGreat

/-
  The contracts of PackStub and of its model: both make the same bytes, in new memory, with the same code.
-/
namespace Go.Proofs.YtnfolgoloaeanaaGreat
open Go.RowKit

def stubB (p s : Int) : Bool := inW p 0 11 && inW s 0 15
set_option maxHeartbeats 400000 in
theorem l1Place_any (p s : Int) (w : World) : Calls Tryz.prog 199 #[.int .i64 p, .int .i64 s] w fun e w' => e = .returned (.bool (stubB p s)) ∧ w' = w := by
  cases h1 : inW p 0 11
  · have e0 : stubB p s = false := by simp [stubB, h1]
    rw [e0]
    clear e0
    go_enter Tryz.func199, Tryz.ntmps199
    go_wp2_with (go_at_call 72; refine (l1InW_any _ _ _ _).mono ?_; rintro e w' ⟨rfl, rfl⟩)
    go_ret
    exact ⟨rfl, rfl⟩
  · have e0 : stubB p s = inW s 0 15 := by simp [stubB, h1]
    rw [e0]
    clear e0
    go_enter Tryz.func199, Tryz.ntmps199
    go_wp2_with (go_at_call 72; refine (l1InW_any _ _ _ _).mono ?_; rintro e w' ⟨rfl, rfl⟩)
    go_ret
    exact ⟨rfl, rfl⟩

end Go.Proofs.YtnfolgoloaeanaaGreat

