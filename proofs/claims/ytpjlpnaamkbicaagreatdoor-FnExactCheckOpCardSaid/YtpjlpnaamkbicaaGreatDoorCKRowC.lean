/-
  The contracts of what asks a row for its faults: isWithin, isLetter, isText, RowFault, and the model's l1In, l1Text, l1Fault, RowFault, for every row.
-/
import Derived.Test.YtpjlpnaamkbicaaGreatDoorCKRowA
import Derived.WalkKit
import Derived.WalkSpells
import Derived.WalkLawsBesides
import Derived.Handy
import Derived.BigQuiet
import Derived.Lib.AppendStr
import Derived.Lib.SmallJoins
import Derived.Deep.RegionHeld

namespace Go.Proofs.YtpjlpnaamkbicaaGreatDoor
open Go.RowKit

def inW (n lo hi : Int) : Bool := decide (lo ≤ n) && decide (n ≤ hi)
def lttB (c : Int) : Bool := decide (97 ≤ c) && decide (c ≤ 122)
def allB (s : ByteArray) (k : Nat) : Bool := (s.data.toList.take k).all fun c => lttB c.toNat
def txtB (s : ByteArray) : Bool := decide (s.size ≤ 8) && allB s s.size
def rngB (t k v : Int) : Bool := inW t 0 3 && inW k 1 99 && inW v 0 999
def faultI (t k v : Int) (s : ByteArray) : Int := if rngB t k v = true then (if txtB s = true then 0 else 5) else 3

theorem ret_bool {a b : Bool} (h : a = b) : Ending.returned (.bool a) = .returned (.bool b) := by rw [h]
theorem ret_i64 {a b : Int} (h : a = b) : Ending.returned (.int .i64 a) = .returned (.int .i64 b) := by rw [h]

theorem allB_succ (s : ByteArray) (k : Nat) (h : k < s.size) : allB s (k + 1) = (allB s k && lttB (s[k].toNat : Int)) := by
  unfold allB
  rw [List.take_succ_eq_append_getElem (by simpa using h), List.all_append]
  simp only [List.all_cons, List.all_nil, Bool.and_true]
  rfl
theorem allB_false (s : ByteArray) (k : Nat) (h : k < s.size) (hl : lttB (s[k].toNat : Int) = false) : ∀ j, k < j → j ≤ s.size → allB s j = false := by
  intro j
  induction j with
  | zero => intro h1; omega
  | succ j ih =>
    intro h1 h2
    rw [allB_succ s j (by omega)]
    by_cases e : k = j
    · subst e; rw [hl]; simp
    · rw [ih (by omega) (by omega)]; simp
theorem txtB_false (s : ByteArray) (k : Nat) (h : k < s.size) (hl : lttB (s[k].toNat : Int) = false) : txtB s = false := by
  unfold txtB
  rw [allB_false s k h hl s.size h (Nat.le_refl _)]
  simp

set_option maxHeartbeats 400000 in
theorem l1InW_any (n lo hi : Int) (w : World) : Calls Tryz.prog 40 #[.int .i64 n, .int .i64 lo, .int .i64 hi] w fun e w' => e = .returned (.bool (inW n lo hi)) ∧ w' = w := by
  by_cases h1 : lo ≤ n
  · have d1 : decide (lo ≤ n) = true := by simpa using h1
    by_cases h2 : n ≤ hi
    · have e1 : inW n lo hi = true := by simp [inW, h1, h2]
      rw [e1]
      go_enter Tryz.func40, Tryz.ntmps40
      go_wp2
      go_ret
      exact ⟨rfl, rfl⟩
    · have e1 : inW n lo hi = false := by simp [inW]; omega
      have d2 : decide (n ≤ hi) = false := by simpa using h2
      rw [e1]
      go_enter Tryz.func40, Tryz.ntmps40
      go_wp2
      go_ret
      exact ⟨rfl, rfl⟩
  · have e1 : inW n lo hi = false := by simp [inW]; omega
    have d1 : decide (lo ≤ n) = false := by simpa using h1
    rw [e1]
    go_enter Tryz.func40, Tryz.ntmps40
    go_wp2
    go_ret
    exact ⟨rfl, rfl⟩

set_option maxHeartbeats 400000 in
theorem isWithinW_any (n lo hi : Int) (w : World) : Calls Tryz.prog 57 #[.int .i64 n, .int .i64 lo, .int .i64 hi] w fun e w' => e = .returned (.bool (inW n lo hi)) ∧ w' = w := by
  by_cases h1 : lo ≤ n
  · have d1 : decide (lo ≤ n) = true := by simpa using h1
    by_cases h2 : n ≤ hi
    · have e1 : inW n lo hi = true := by simp [inW, h1, h2]
      rw [e1]
      go_enter Tryz.func57, Tryz.ntmps57
      go_wp2
      go_ret
      exact ⟨rfl, rfl⟩
    · have e1 : inW n lo hi = false := by simp [inW]; omega
      have d2 : decide (n ≤ hi) = false := by simpa using h2
      rw [e1]
      go_enter Tryz.func57, Tryz.ntmps57
      go_wp2
      go_ret
      exact ⟨rfl, rfl⟩
  · have e1 : inW n lo hi = false := by simp [inW]; omega
    have d1 : decide (lo ≤ n) = false := by simpa using h1
    rw [e1]
    go_enter Tryz.func57, Tryz.ntmps57
    go_wp2
    go_ret
    exact ⟨rfl, rfl⟩

set_option maxHeartbeats 400000 in
theorem isLetter_any (c : Int) (w : World) : Calls Tryz.prog 110 #[.int .u8 c] w fun e w' => e = .returned (.bool (lttB c)) ∧ w' = w := by
  by_cases h1 : 97 ≤ c
  · have d1 : decide (97 ≤ c) = true := by simpa using h1
    by_cases h2 : c ≤ 122
    · have e1 : lttB c = true := by simp [lttB, h1, h2]
      rw [e1]
      go_enter Tryz.func110, Tryz.ntmps110
      go_wp2
      go_ret
      exact ⟨rfl, rfl⟩
    · have e1 : lttB c = false := by simp [lttB]; omega
      have d2 : decide (c ≤ 122) = false := by simpa using h2
      rw [e1]
      go_enter Tryz.func110, Tryz.ntmps110
      go_wp2
      go_ret
      exact ⟨rfl, rfl⟩
  · have e1 : lttB c = false := by simp [lttB]; omega
    have d1 : decide (97 ≤ c) = false := by simpa using h1
    rw [e1]
    go_enter Tryz.func110, Tryz.ntmps110
    go_wp2
    go_ret
    exact ⟨rfl, rfl⟩

set_option maxHeartbeats 400000 in
theorem l1Text_any (s : ByteArray) (w : World) (hs : s.size ≤ maxLen) : Calls Tryz.prog 73 #[.string s] w fun e w' => e = .returned (.bool (txtB s)) ∧ w' = w := by
  unfold maxLen at hs
  go_enter Tryz.func73, Tryz.ntmps73
  go_wp2
  go_loop [3] (fun i => ∃ k : Nat, k ≤ s.size ∧ i = .int .i64 k ∧ Hid (allB s k = true)) (fun i => s.size - (intOf i).toNat)
  case atStart => exact ⟨0, Nat.zero_le _, rfl, by simp [Hid, allB]⟩
  case round =>
    obtain ⟨k, hk, rfl, hall⟩ := hrel
    by_cases hlt : k < s.size
    · by_cases h1 : (s[k].toNat : Int) < 97
      · have hf : txtB s = false := txtB_false s k hlt (by simp [lttB]; omega)
        have HF : Hid (txtB s = false) := hf
        clear hf
        go_wp2
        go_ret
        exact ⟨ret_bool HF.out.symm, rfl⟩
      · by_cases h2 : (122 : Int) < (s[k].toNat : Int)
        · have hf : txtB s = false := txtB_false s k hlt (by simp [lttB]; omega)
          have HF : Hid (txtB s = false) := hf
          clear hf
          go_wp2
          go_ret
          exact ⟨ret_bool HF.out.symm, rfl⟩
        · have HN : Hid (allB s (k + 1) = true) := by
            have h0 := hall.out
            show allB s (k + 1) = true
            rw [allB_succ s k hlt, h0]
            simp [lttB]
            omega
          go_wp2
          go_round
          case rel => exact ⟨k + 1, by omega, by go_num, HN⟩
          case measure => simp [intOf]; omega
    · have e : k = s.size := by omega
      subst e
      have HF : Hid (txtB s = decide (s.size ≤ 8)) := by
        have h0 := hall.out
        show txtB s = _
        unfold txtB; rw [h0]; simp
      go_wp2
      go_ret
      exact ⟨ret_bool (by rw [HF.out]; simp; omega), rfl⟩

set_option maxHeartbeats 400000 in
theorem isText_any (s : ByteArray) (w : World) (hs : s.size ≤ maxLen) : Calls Tryz.prog 85 #[.string s] w fun e w' => e = .returned (.bool (txtB s)) ∧ w' = w := by
  unfold maxLen at hs
  by_cases h8 : (8 : Int) < (s.size : Int)
  · have HF : Hid (txtB s = false) := by show txtB s = false; unfold txtB; rw [decide_eq_false (by omega)]; simp
    go_enter Tryz.func85, Tryz.ntmps85
    go_wp2
    go_ret
    exact ⟨ret_bool HF.out.symm, rfl⟩
  · have d8 : decide ((8 : Int) < (s.size : Int)) = false := by simpa using h8
    go_enter Tryz.func85, Tryz.ntmps85
    go_wp2
    go_loop [3] (fun i => ∃ k : Nat, k ≤ s.size ∧ i = .int .i64 k ∧ Hid (allB s k = true)) (fun i => s.size - (intOf i).toNat)
    case atStart => exact ⟨0, Nat.zero_le _, rfl, by simp [Hid, allB]⟩
    case round =>
      obtain ⟨k, hk, rfl, hall⟩ := hrel
      by_cases hlt : k < s.size
      · by_cases h1 : lttB (s[k].toNat : Int) = true
        · have HN : Hid (allB s (k + 1) = true) := by
            have h0 := hall.out
            show allB s (k + 1) = true
            rw [allB_succ s k hlt, h0, h1]
            rfl
          go_wp2_with (go_at_call 110; refine (isLetter_any _ _).mono ?_; rintro e w' ⟨rfl, rfl⟩)
          go_round
          case rel => exact ⟨k + 1, by omega, by go_num, HN⟩
          case measure => simp [intOf]; omega
        · have h1' : lttB (s[k].toNat : Int) = false := by simpa using h1
          clear h1
          have HF : Hid (txtB s = false) := txtB_false s k hlt h1'
          go_wp2_with (go_at_call 110; refine (isLetter_any _ _).mono ?_; rintro e w' ⟨rfl, rfl⟩)
          go_ret
          exact ⟨ret_bool HF.out.symm, rfl⟩
      · have e : k = s.size := by omega
        subst e
        have HF : Hid (txtB s = true) := by
          have h0 := hall.out
          show txtB s = _
          unfold txtB; rw [h0]; simp; omega
        go_wp2_with fail
        go_ret
        exact ⟨ret_bool HF.out.symm, rfl⟩

theorem fault_t (t k v : Int) (s : ByteArray) (h : inW t 0 3 = false) : faultI t k v s = 3 := by simp [faultI, rngB, h]
theorem fault_k (t k v : Int) (s : ByteArray) (h : inW k 1 99 = false) : faultI t k v s = 3 := by simp [faultI, rngB, h]
theorem fault_v (t k v : Int) (s : ByteArray) (h : inW v 0 999 = false) : faultI t k v s = 3 := by simp [faultI, rngB, h]
theorem fault_s (t k v : Int) (s : ByteArray) (h1 : inW t 0 3 = true) (h2 : inW k 1 99 = true) (h3 : inW v 0 999 = true) (h4 : txtB s = false) : faultI t k v s = 5 := by simp [faultI, rngB, h1, h2, h3, h4]
theorem fault_0 (t k v : Int) (s : ByteArray) (h1 : inW t 0 3 = true) (h2 : inW k 1 99 = true) (h3 : inW v 0 999 = true) (h4 : txtB s = true) : faultI t k v s = 0 := by simp [faultI, rngB, h1, h2, h3, h4]

set_option maxHeartbeats 400000 in
theorem l1Fault_any (b : Nat) (t k v : Int) (s : ByteArray) (w : World) (h : RowAt w b t k v s) (hs : s.size ≤ maxLen) :
    Calls Tryz.prog 38 #[.pointer (some ⟨b, 0, none⟩)] w fun e w' => e = .returned (.int .i64 (faultI t k v s)) ∧ w' = w := by
  obtain ⟨c0, c1, c2, c3⟩ := h
  cases h1 : inW t 0 3
  · rw [fault_t t k v s h1]
    go_enter Tryz.func38, Tryz.ntmps38
    go_wp2_with (go_at_call 40; refine (l1InW_any _ _ _ _).mono ?_; rintro e w' ⟨rfl, rfl⟩)
    go_ret
    exact ⟨rfl, rfl⟩
  cases h2 : inW k 1 99
  · rw [fault_k t k v s h2]
    go_enter Tryz.func38, Tryz.ntmps38
    go_wp2_with (go_at_call 40; refine (l1InW_any _ _ _ _).mono ?_; rintro e w' ⟨rfl, rfl⟩)
    go_ret
    exact ⟨rfl, rfl⟩
  cases h3 : inW v 0 999
  · rw [fault_v t k v s h3]
    go_enter Tryz.func38, Tryz.ntmps38
    go_wp2_with (go_at_call 40; refine (l1InW_any _ _ _ _).mono ?_; rintro e w' ⟨rfl, rfl⟩)
    go_ret
    exact ⟨rfl, rfl⟩
  cases h4 : txtB s
  · rw [fault_s t k v s h1 h2 h3 h4]
    go_enter Tryz.func38, Tryz.ntmps38
    go_wp2_with (first | (go_at_call 40; refine (l1InW_any _ _ _ _).mono ?_; rintro e w' ⟨rfl, rfl⟩) | (go_at_call 73; refine (l1Text_any _ _ hs).mono ?_; rintro e w' ⟨rfl, rfl⟩))
    go_ret
    exact ⟨rfl, rfl⟩
  · rw [fault_0 t k v s h1 h2 h3 h4]
    go_enter Tryz.func38, Tryz.ntmps38
    go_wp2_with (first | (go_at_call 40; refine (l1InW_any _ _ _ _).mono ?_; rintro e w' ⟨rfl, rfl⟩) | (go_at_call 73; refine (l1Text_any _ _ hs).mono ?_; rintro e w' ⟨rfl, rfl⟩))
    go_ret
    exact ⟨rfl, rfl⟩

set_option maxHeartbeats 400000 in
theorem implRowFault_any (t k v : Int) (s : ByteArray) (w : World) (hs : s.size ≤ maxLen) :
    Calls Tryz.prog 52 #[.agg #[.int .i64 t, .int .i64 k, .int .i64 v, .string s]] w fun e w' => e = .returned (.int .i64 (faultI t k v s)) ∧ Below w.heap.size w w' := by
  cases h1 : inW t 0 3
  · rw [fault_t t k v s h1]
    go_enter Tryz.func52, Tryz.ntmps52
    go_wp2_with (go_at_call 57; refine (isWithinW_any _ _ _ _).mono ?_; rintro e w' ⟨rfl, rfl⟩)
    go_ret
    exact ⟨rfl, by go_grown⟩
  cases h2 : inW k 1 99
  · rw [fault_k t k v s h2]
    go_enter Tryz.func52, Tryz.ntmps52
    go_wp2_with (go_at_call 57; refine (isWithinW_any _ _ _ _).mono ?_; rintro e w' ⟨rfl, rfl⟩)
    go_ret
    exact ⟨rfl, by go_grown⟩
  cases h3 : inW v 0 999
  · rw [fault_v t k v s h3]
    go_enter Tryz.func52, Tryz.ntmps52
    go_wp2_with (go_at_call 57; refine (isWithinW_any _ _ _ _).mono ?_; rintro e w' ⟨rfl, rfl⟩)
    go_ret
    exact ⟨rfl, by go_grown⟩
  cases h4 : txtB s
  · rw [fault_s t k v s h1 h2 h3 h4]
    go_enter Tryz.func52, Tryz.ntmps52
    go_wp2_with (first | (go_at_call 57; refine (isWithinW_any _ _ _ _).mono ?_; rintro e w' ⟨rfl, rfl⟩) | (go_at_call 85; refine (isText_any _ _ hs).mono ?_; rintro e w' ⟨rfl, rfl⟩))
    go_ret
    exact ⟨rfl, by go_grown⟩
  · rw [fault_0 t k v s h1 h2 h3 h4]
    go_enter Tryz.func52, Tryz.ntmps52
    go_wp2_with (first | (go_at_call 57; refine (isWithinW_any _ _ _ _).mono ?_; rintro e w' ⟨rfl, rfl⟩) | (go_at_call 85; refine (isText_any _ _ hs).mono ?_; rintro e w' ⟨rfl, rfl⟩))
    go_ret
    exact ⟨rfl, by go_grown⟩

end Go.Proofs.YtpjlpnaamkbicaaGreatDoor

/-
  Which of two rows is before the other: both functions answer alike.
-/
namespace Go.Proofs.YtpjlpnaamkbicaaGreatDoor
open Go.RowKit

/-- Is the row with table t, key k before the one with table u, key l? -/
def befB (t k u l : Int) : Bool := decide (t < u) || (decide (t = u) && decide (k < l))

set_option maxHeartbeats 400000 in
theorem implIsBefore_any (t k v : Int) (s : ByteArray) (u l x : Int) (r : ByteArray) (w : World) :
    Calls Tryz.prog 53 #[.agg #[.int .i64 t, .int .i64 k, .int .i64 v, .string s], .agg #[.int .i64 u, .int .i64 l, .int .i64 x, .string r]] w fun e w' => e = .returned (.bool (befB t k u l)) ∧ Below w.heap.size w w' := by
  by_cases h1 : t < u
  · have e1 : befB t k u l = true := by simp [befB, h1]
    have d1 : decide (t < u) = true := by simpa using h1
    rw [e1]
    go_enter Tryz.func53, Tryz.ntmps53
    go_wp2
    go_ret
    exact ⟨rfl, by go_grown⟩
  · have d1 : decide (t < u) = false := by simpa using h1
    by_cases h2 : t = u
    · subst h2
      by_cases h3 : k < l
      · have e1 : befB t k t l = true := by simp [befB, h3]
        rw [e1]
        go_enter Tryz.func53, Tryz.ntmps53
        go_wp2
        go_ret
        exact ⟨rfl, by go_grown⟩
      · have e1 : befB t k t l = false := by simp [befB]; omega
        have d3 : decide (k < l) = false := by simpa using h3
        rw [e1]
        go_enter Tryz.func53, Tryz.ntmps53
        go_wp2
        go_ret
        exact ⟨rfl, by go_grown⟩
    · have e1 : befB t k u l = false := by simp [befB]; omega
      have d2 : (t == u) = false := by simpa using h2
      rw [e1]
      go_enter Tryz.func53, Tryz.ntmps53
      go_wp2
      go_ret
      exact ⟨rfl, by go_grown⟩

set_option maxHeartbeats 400000 in
theorem l1Before_any (a b : Nat) (t k u l : Int) (w : World) (ha0 : w.cell? ⟨a, 0, none⟩ = some (.int .i64 t)) (ha1 : w.cell? ⟨a, 1, none⟩ = some (.int .i64 k)) (hb0 : w.cell? ⟨b, 0, none⟩ = some (.int .i64 u)) (hb1 : w.cell? ⟨b, 1, none⟩ = some (.int .i64 l)) :
    Calls Tryz.prog 39 #[.pointer (some ⟨a, 0, none⟩), .pointer (some ⟨b, 0, none⟩)] w fun e w' => e = .returned (.bool (befB t k u l)) ∧ ∃ n, w' = w.drewN n := by
  by_cases h1 : t < u
  · have e1 : befB t k u l = true := by simp [befB, h1]
    have d1 : decide (t < u) = true := by simpa using h1
    rw [e1]
    go_enter Tryz.func39, Tryz.ntmps39
    go_wp2
    go_quiet (fail)
    go_wp2
    go_ret
    exact ⟨rfl, _, rfl⟩
  · have d1 : decide (t < u) = false := by simpa using h1
    by_cases h2 : t = u
    · subst h2
      by_cases h3 : k < l
      · have e1 : befB t k t l = true := by simp [befB, h3]
        rw [e1]
        go_enter Tryz.func39, Tryz.ntmps39
        go_wp2
        go_quiet (fail)
        go_wp2
        go_ret
        exact ⟨rfl, _, rfl⟩
      · have e1 : befB t k t l = false := by simp [befB]; omega
        have d3 : decide (k < l) = false := by simpa using h3
        rw [e1]
        go_enter Tryz.func39, Tryz.ntmps39
        go_wp2
        go_quiet (fail)
        go_wp2
        go_ret
        exact ⟨rfl, _, rfl⟩
    · have e1 : befB t k u l = false := by simp [befB]; omega
      have d2 : (t == u) = false := by simpa using h2
      rw [e1]
      go_enter Tryz.func39, Tryz.ntmps39
      go_wp2
      go_quiet (fail)
      go_wp2
      go_ret
      exact ⟨rfl, _, rfl⟩

end Go.Proofs.YtpjlpnaamkbicaaGreatDoor

/-
  The contracts of what makes the cell of a row: rowCell and the model's l1Cell.
-/
namespace Go.Proofs.YtpjlpnaamkbicaaGreatDoor
open Go.RowKit

def cellBytes (f t k v : Int) (s : ByteArray) : List Int := [f, t, k, v / 256, v % 256, s.size] ++ s.data.toList.map fun b => (b.toNat : Int)

theorem info5' : (Tryz.prog.info? 5).map (fun i => (i.zero, i.size, i.bytes)) = some (some (.int .u8 0), 1, 1) := by kernel_rfl
theorem info5 : ∃ i, Tryz.prog.info? 5 = some i ∧ i.zero = some (.int .u8 0) ∧ i.size = 1 ∧ i.bytes = 1 := by
  have h := info5'
  cases hi : Tryz.prog.info? 5 with
  | none => rw [hi] at h; simp at h
  | some i => rw [hi] at h; simp at h; exact ⟨i, rfl, h.1, h.2.1, h.2.2⟩

theorem and255 (v : Int) (v0 : 0 ≤ v) (v1 : v ≤ 999) : bits BinOp.and IntKind.i64 v 255 = v % 256 := by
  obtain ⟨n, rfl⟩ := Int.eq_ofNat_of_zero_le v0
  have h : ∀ m : Fin 1000, bits BinOp.and IntKind.i64 (m.val : Int) 255 = (m.val : Int) % 256 := by decide +kernel
  exact h ⟨n, by omega⟩

/-- What owns a row of bytes holds them. -/
theorem bytesIn_owns {w : World} {base n g cap : Nat} {e : TypeId} {zs : List Int} (h : w.ownsRow base e 1 (.slice (some ⟨g, 0, none⟩) n cap) n (zs.map (Value.int .u8))) : BytesIn base w.heap.size w (some ⟨g, 0, none⟩) zs := by
  have hl : zs.length = n := by have := h.1; simpa using this
  have hlt := h.lt g (by simp [Value.ownBlock])
  refine .inr ⟨g, 0, rfl, hlt.1, hlt.2, fun i hi => ?_, fun i hi => ?_⟩
  · rw [Nat.zero_add, h.cellAt i (by omega)]
    simp [List.getElem?_eq_getElem hi, List.getD]
  · rw [Nat.zero_add]; exact h.frozenAt i

theorem strCells_ints (s : ByteArray) : Lib.strCells s = (s.data.toList.map fun b => (b.toNat : Int)).map (Value.int .u8) := by
  simp [Lib.strCells]

theorem ownsRow_drew {w : World} {base : Nat} {e : TypeId} {size : Nat} {v : Value} {n : Nat} {xs : List Value} (h : w.ownsRow base e size v n xs) : w.drew.ownsRow base e size v n xs := h

theorem bytesRow_cell (w : World) (s : ByteArray) (cap g : Nat) (e : TypeId) (m : Nat × Nat) (hg : g = w.heap.size) (j : Nat) (u : Value) (h : (Lib.strCells s)[j]? = some u) : (w.alloc (.cells (bytesRow s cap) e m)).cell? ((⟨g, 0, none⟩ : Addr).add j) = some u := by
  subst hg
  have hj : j < s.size := by have := (List.getElem?_eq_some_iff.1 h).1; rw [Lib.strCells_length] at this; exact this
  rw [show ((⟨w.heap.size, 0, none⟩ : Addr).add j) = ⟨w.heap.size, j, none⟩ from by unfold Addr.add; split <;> simp_all]
  rw [World.cell?_alloc_mark]
  simp [Lib.strCells] at h
  obtain ⟨x, hx, rfl⟩ := h
  obtain ⟨_, rfl⟩ := Array.getElem?_eq_some_iff.1 hx
  simp [bytesRow, Array.getElem?_append, hj]
end Go.Proofs.YtpjlpnaamkbicaaGreatDoor

/-
  The contract of toByteS: new memory that holds the same bytes.
-/
namespace Go.Proofs.YtpjlpnaamkbicaaGreatDoor
open Go.RowKit

/-- The slice that begins at a reads as the bytes zs. -/
def Reads (w : World) (a : Option Addr) (zs : List Int) : Prop :=
  zs = [] ∨ ∃ b off, a = some ⟨b, off, none⟩ ∧ ∀ i, i < zs.length → w.cell? ⟨b, off + i, none⟩ = some (.int .u8 (zs.getD i 0))

theorem Reads.below {w w' : World} {a : Option Addr} {zs : List Int} (h : Reads w a zs) {B : Nat} (hb : Below B w w') (hB : w.heap.size ≤ B) : Reads w' a zs := by
  rcases h with h | ⟨b, off, ha, hc⟩
  · exact .inl h
  · exact .inr ⟨b, off, ha, fun i hi => (hb.cell (p := ⟨b, off + i, none⟩) (Nat.lt_of_lt_of_le (World.block_lt_of_cell? w _ (hc i hi)) hB)).trans (hc i hi)⟩

theorem BytesIn.reads {lo hi : Nat} {w : World} {a : Option Addr} {zs : List Int} (h : BytesIn lo hi w a zs) : Reads w a zs := by
  rcases h with h | ⟨b, off, ha, _, _, hc, _⟩
  · exact .inl h
  · exact .inr ⟨b, off, ha, hc⟩

theorem made_zero (n i : Nat) (h : i < n) : (madeCells #[Value.int .u8 0] n).toList[i]? = some (.int .u8 0) := by
  simp [madeCells, h, Nat.mod_one]

end Go.Proofs.YtpjlpnaamkbicaaGreatDoor

/-
  The contracts of PackStub and of its model: both make the same bytes, in new memory, with the same code.
-/
namespace Go.Proofs.YtpjlpnaamkbicaaGreatDoor
open Go.RowKit

def stubB (p s : Int) : Bool := inW p 0 11 && inW s 0 15
def stubCode (p s : Int) : Int := if stubB p s = true then 0 else 3
def stubBytes (p s : Int) : List Int := if stubB p s = true then [1, p, s] else []
theorem stubBytes_small (p s : Int) : (stubBytes p s).length ≤ 3 := by unfold stubBytes; split <;> simp

theorem bytesIn_three {lo hi b : Nat} {w : World} {x y z : Int} (hlo : lo ≤ b) (hhi : b < hi) (h0 : w.cell? ⟨b, 0, none⟩ = some (.int .u8 x)) (h1 : w.cell? ⟨b, 1, none⟩ = some (.int .u8 y)) (h2 : w.cell? ⟨b, 2, none⟩ = some (.int .u8 z))
    (f0 : w.frozen? ⟨b, 0, none⟩ = false) (f1 : w.frozen? ⟨b, 1, none⟩ = false) (f2 : w.frozen? ⟨b, 2, none⟩ = false) : BytesIn lo hi w (some ⟨b, 0, none⟩) [x, y, z] := by
  refine .inr ⟨b, 0, rfl, hlo, hhi, fun i hi => ?_, fun i hi => ?_⟩
  · match i, hi with
    | 0, _ => exact h0
    | 1, _ => exact h1
    | 2, _ => exact h2
  · match i, hi with
    | 0, _ => exact f0
    | 1, _ => exact f1
    | 2, _ => exact f2

theorem inW_bounds {n lo hi : Int} (h : inW n lo hi = true) : lo ≤ n ∧ n ≤ hi := by simpa [inW] using h

end Go.Proofs.YtpjlpnaamkbicaaGreatDoor
