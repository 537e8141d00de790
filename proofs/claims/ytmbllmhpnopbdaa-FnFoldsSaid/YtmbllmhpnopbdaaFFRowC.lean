/-
  The contracts of what asks a row for its faults: isWithin, isLetter, isText, RowFault, and the model's l1In, l1Text, l1Fault, RowFault, for every row.
-/
import Derived.Test.YtmbllmhpnopbdaaFFRowA

namespace Go.Proofs.Ytmbllmhpnopbdaa
open Go.RowKit

def inW (n lo hi : Int) : Bool := decide (lo ≤ n) && decide (n ≤ hi)
def lttB (c : Int) : Bool := decide (97 ≤ c) && decide (c ≤ 122)
def allB (s : ByteArray) (k : Nat) : Bool := (s.data.toList.take k).all fun c => lttB c.toNat
def txtB (s : ByteArray) : Bool := decide (s.size ≤ 8) && allB s s.size
def rngB (t k v : Int) : Bool := inW t 0 3 && inW k 1 99 && inW v 0 999
def faultI (t k v : Int) (s : ByteArray) : Int := if rngB t k v = true then (if txtB s = true then 0 else 5) else 3

theorem ret_bool {a b : Bool} (h : a = b) : Ending.returned (.bool a) = .returned (.bool b) := by rw [h]
theorem ret_i64 {a b : Int} (h : a = b) : Ending.returned (.int .i64 a) = .returned (.int .i64 b) := by rw [h]

theorem allB_succ (s : ByteArray) (k : Nat) (h : k < s.size) : allB s (k + 1) = (allB s k && lttB (s[k].toNat : Int)) := by
  unfold allB
  rw [List.take_succ_eq_append_getElem (by simpa using h), List.all_append]
  simp only [List.all_cons, List.all_nil, Bool.and_true]
  rfl
theorem allB_false (s : ByteArray) (k : Nat) (h : k < s.size) (hl : lttB (s[k].toNat : Int) = false) : ∀ j, k < j → j ≤ s.size → allB s j = false := by
  intro j
  induction j with
  | zero => intro h1; omega
  | succ j ih =>
    intro h1 h2
    rw [allB_succ s j (by omega)]
    by_cases e : k = j
    · subst e; rw [hl]; simp
    · rw [ih (by omega) (by omega)]; simp
theorem txtB_false (s : ByteArray) (k : Nat) (h : k < s.size) (hl : lttB (s[k].toNat : Int) = false) : txtB s = false := by
  unfold txtB
  rw [allB_false s k h hl s.size h (Nat.le_refl _)]
  simp

set_option maxHeartbeats 400000 in
theorem l1InW_any (n lo hi : Int) (w : World) : Calls Try.prog 64 #[.int .i64 n, .int .i64 lo, .int .i64 hi] w fun e w' => e = .returned (.bool (inW n lo hi)) ∧ w' = w := by
  by_cases h1 : lo ≤ n
  · have d1 : decide (lo ≤ n) = true := by simpa using h1
    by_cases h2 : n ≤ hi
    · have e1 : inW n lo hi = true := by simp [inW, h1, h2]
      rw [e1]
      go_enter Try.func64, Try.ntmps64
      go_wp2
      go_ret
      exact ⟨rfl, rfl⟩
    · have e1 : inW n lo hi = false := by simp [inW]; omega
      have d2 : decide (n ≤ hi) = false := by simpa using h2
      rw [e1]
      go_enter Try.func64, Try.ntmps64
      go_wp2
      go_ret
      exact ⟨rfl, rfl⟩
  · have e1 : inW n lo hi = false := by simp [inW]; omega
    have d1 : decide (lo ≤ n) = false := by simpa using h1
    rw [e1]
    go_enter Try.func64, Try.ntmps64
    go_wp2
    go_ret
    exact ⟨rfl, rfl⟩

set_option maxHeartbeats 400000 in
theorem isWithinW_any (n lo hi : Int) (w : World) : Calls Try.prog 56 #[.int .i64 n, .int .i64 lo, .int .i64 hi] w fun e w' => e = .returned (.bool (inW n lo hi)) ∧ w' = w := by
  by_cases h1 : lo ≤ n
  · have d1 : decide (lo ≤ n) = true := by simpa using h1
    by_cases h2 : n ≤ hi
    · have e1 : inW n lo hi = true := by simp [inW, h1, h2]
      rw [e1]
      go_enter Try.func56, Try.ntmps56
      go_wp2
      go_ret
      exact ⟨rfl, rfl⟩
    · have e1 : inW n lo hi = false := by simp [inW]; omega
      have d2 : decide (n ≤ hi) = false := by simpa using h2
      rw [e1]
      go_enter Try.func56, Try.ntmps56
      go_wp2
      go_ret
      exact ⟨rfl, rfl⟩
  · have e1 : inW n lo hi = false := by simp [inW]; omega
    have d1 : decide (lo ≤ n) = false := by simpa using h1
    rw [e1]
    go_enter Try.func56, Try.ntmps56
    go_wp2
    go_ret
    exact ⟨rfl, rfl⟩

set_option maxHeartbeats 400000 in
theorem isLetter_any (c : Int) (w : World) : Calls Try.prog 66 #[.int .u8 c] w fun e w' => e = .returned (.bool (lttB c)) ∧ w' = w := by
  by_cases h1 : 97 ≤ c
  · have d1 : decide (97 ≤ c) = true := by simpa using h1
    by_cases h2 : c ≤ 122
    · have e1 : lttB c = true := by simp [lttB, h1, h2]
      rw [e1]
      go_enter Try.func66, Try.ntmps66
      go_wp2
      go_ret
      exact ⟨rfl, rfl⟩
    · have e1 : lttB c = false := by simp [lttB]; omega
      have d2 : decide (c ≤ 122) = false := by simpa using h2
      rw [e1]
      go_enter Try.func66, Try.ntmps66
      go_wp2
      go_ret
      exact ⟨rfl, rfl⟩
  · have e1 : lttB c = false := by simp [lttB]; omega
    have d1 : decide (97 ≤ c) = false := by simpa using h1
    rw [e1]
    go_enter Try.func66, Try.ntmps66
    go_wp2
    go_ret
    exact ⟨rfl, rfl⟩

set_option maxHeartbeats 400000 in
theorem l1Text_any (s : ByteArray) (w : World) (hs : s.size ≤ maxLen) : Calls Try.prog 65 #[.string s] w fun e w' => e = .returned (.bool (txtB s)) ∧ w' = w := by
  unfold maxLen at hs
  go_enter Try.func65, Try.ntmps65
  go_wp2
  go_loop [3] (fun i => ∃ k : Nat, k ≤ s.size ∧ i = .int .i64 k ∧ Hid (allB s k = true)) (fun i => s.size - (intOf i).toNat)
  case atStart => exact ⟨0, Nat.zero_le _, rfl, by simp [Hid, allB]⟩
  case round =>
    obtain ⟨k, hk, rfl, hall⟩ := hrel
    by_cases hlt : k < s.size
    · by_cases h1 : (s[k].toNat : Int) < 97
      · have hf : txtB s = false := txtB_false s k hlt (by simp [lttB]; omega)
        have HF : Hid (txtB s = false) := hf
        clear hf
        go_wp2
        go_ret
        exact ⟨ret_bool HF.out.symm, rfl⟩
      · by_cases h2 : (122 : Int) < (s[k].toNat : Int)
        · have hf : txtB s = false := txtB_false s k hlt (by simp [lttB]; omega)
          have HF : Hid (txtB s = false) := hf
          clear hf
          go_wp2
          go_ret
          exact ⟨ret_bool HF.out.symm, rfl⟩
        · have HN : Hid (allB s (k + 1) = true) := by
            have h0 := hall.out
            show allB s (k + 1) = true
            rw [allB_succ s k hlt, h0]
            simp [lttB]
            omega
          go_wp2
          go_round
          case rel => exact ⟨k + 1, by omega, by go_num, HN⟩
          case measure => simp [intOf]; omega
    · have e : k = s.size := by omega
      subst e
      have HF : Hid (txtB s = decide (s.size ≤ 8)) := by
        have h0 := hall.out
        show txtB s = _
        unfold txtB; rw [h0]; simp
      go_wp2
      go_ret
      exact ⟨ret_bool (by rw [HF.out]; simp; omega), rfl⟩

set_option maxHeartbeats 400000 in
theorem isText_any (s : ByteArray) (w : World) (hs : s.size ≤ maxLen) : Calls Try.prog 57 #[.string s] w fun e w' => e = .returned (.bool (txtB s)) ∧ w' = w := by
  unfold maxLen at hs
  by_cases h8 : (8 : Int) < (s.size : Int)
  · have HF : Hid (txtB s = false) := by show txtB s = false; unfold txtB; rw [decide_eq_false (by omega)]; simp
    go_enter Try.func57, Try.ntmps57
    go_wp2
    go_ret
    exact ⟨ret_bool HF.out.symm, rfl⟩
  · have d8 : decide ((8 : Int) < (s.size : Int)) = false := by simpa using h8
    go_enter Try.func57, Try.ntmps57
    go_wp2
    go_loop [3] (fun i => ∃ k : Nat, k ≤ s.size ∧ i = .int .i64 k ∧ Hid (allB s k = true)) (fun i => s.size - (intOf i).toNat)
    case atStart => exact ⟨0, Nat.zero_le _, rfl, by simp [Hid, allB]⟩
    case round =>
      obtain ⟨k, hk, rfl, hall⟩ := hrel
      by_cases hlt : k < s.size
      · by_cases h1 : lttB (s[k].toNat : Int) = true
        · have HN : Hid (allB s (k + 1) = true) := by
            have h0 := hall.out
            show allB s (k + 1) = true
            rw [allB_succ s k hlt, h0, h1]
            rfl
          go_wp2_with (go_at_call 66; refine (isLetter_any _ _).mono ?_; rintro e w' ⟨rfl, rfl⟩)
          go_round
          case rel => exact ⟨k + 1, by omega, by go_num, HN⟩
          case measure => simp [intOf]; omega
        · have h1' : lttB (s[k].toNat : Int) = false := by simpa using h1
          clear h1
          have HF : Hid (txtB s = false) := txtB_false s k hlt h1'
          go_wp2_with (go_at_call 66; refine (isLetter_any _ _).mono ?_; rintro e w' ⟨rfl, rfl⟩)
          go_ret
          exact ⟨ret_bool HF.out.symm, rfl⟩
      · have e : k = s.size := by omega
        subst e
        have HF : Hid (txtB s = true) := by
          have h0 := hall.out
          show txtB s = _
          unfold txtB; rw [h0]; simp; omega
        go_wp2_with fail
        go_ret
        exact ⟨ret_bool HF.out.symm, rfl⟩

theorem fault_t (t k v : Int) (s : ByteArray) (h : inW t 0 3 = false) : faultI t k v s = 3 := by simp [faultI, rngB, h]
theorem fault_k (t k v : Int) (s : ByteArray) (h : inW k 1 99 = false) : faultI t k v s = 3 := by simp [faultI, rngB, h]
theorem fault_v (t k v : Int) (s : ByteArray) (h : inW v 0 999 = false) : faultI t k v s = 3 := by simp [faultI, rngB, h]
theorem fault_s (t k v : Int) (s : ByteArray) (h1 : inW t 0 3 = true) (h2 : inW k 1 99 = true) (h3 : inW v 0 999 = true) (h4 : txtB s = false) : faultI t k v s = 5 := by simp [faultI, rngB, h1, h2, h3, h4]
theorem fault_0 (t k v : Int) (s : ByteArray) (h1 : inW t 0 3 = true) (h2 : inW k 1 99 = true) (h3 : inW v 0 999 = true) (h4 : txtB s = true) : faultI t k v s = 0 := by simp [faultI, rngB, h1, h2, h3, h4]

set_option maxHeartbeats 400000 in
theorem l1Fault_any (b : Nat) (t k v : Int) (s : ByteArray) (w : World) (h : RowAt w b t k v s) (hs : s.size ≤ maxLen) :
    Calls Try.prog 55 #[.pointer (some ⟨b, 0, none⟩)] w fun e w' => e = .returned (.int .i64 (faultI t k v s)) ∧ w' = w := by
  obtain ⟨c0, c1, c2, c3⟩ := h
  cases h1 : inW t 0 3
  · rw [fault_t t k v s h1]
    go_enter Try.func55, Try.ntmps55
    go_wp2_with (go_at_call 64; refine (l1InW_any _ _ _ _).mono ?_; rintro e w' ⟨rfl, rfl⟩)
    go_ret
    exact ⟨rfl, rfl⟩
  cases h2 : inW k 1 99
  · rw [fault_k t k v s h2]
    go_enter Try.func55, Try.ntmps55
    go_wp2_with (go_at_call 64; refine (l1InW_any _ _ _ _).mono ?_; rintro e w' ⟨rfl, rfl⟩)
    go_ret
    exact ⟨rfl, rfl⟩
  cases h3 : inW v 0 999
  · rw [fault_v t k v s h3]
    go_enter Try.func55, Try.ntmps55
    go_wp2_with (go_at_call 64; refine (l1InW_any _ _ _ _).mono ?_; rintro e w' ⟨rfl, rfl⟩)
    go_ret
    exact ⟨rfl, rfl⟩
  cases h4 : txtB s
  · rw [fault_s t k v s h1 h2 h3 h4]
    go_enter Try.func55, Try.ntmps55
    go_wp2_with (first | (go_at_call 64; refine (l1InW_any _ _ _ _).mono ?_; rintro e w' ⟨rfl, rfl⟩) | (go_at_call 65; refine (l1Text_any _ _ hs).mono ?_; rintro e w' ⟨rfl, rfl⟩))
    go_ret
    exact ⟨rfl, rfl⟩
  · rw [fault_0 t k v s h1 h2 h3 h4]
    go_enter Try.func55, Try.ntmps55
    go_wp2_with (first | (go_at_call 64; refine (l1InW_any _ _ _ _).mono ?_; rintro e w' ⟨rfl, rfl⟩) | (go_at_call 65; refine (l1Text_any _ _ hs).mono ?_; rintro e w' ⟨rfl, rfl⟩))
    go_ret
    exact ⟨rfl, rfl⟩

set_option maxHeartbeats 400000 in
theorem implRowFault_any (t k v : Int) (s : ByteArray) (w : World) (hs : s.size ≤ maxLen) :
    Calls Try.prog 43 #[.agg #[.int .i64 t, .int .i64 k, .int .i64 v, .string s]] w fun e w' => e = .returned (.int .i64 (faultI t k v s)) ∧ Below w.heap.size w w' := by
  cases h1 : inW t 0 3
  · rw [fault_t t k v s h1]
    go_enter Try.func43, Try.ntmps43
    go_wp2_with (go_at_call 56; refine (isWithinW_any _ _ _ _).mono ?_; rintro e w' ⟨rfl, rfl⟩)
    go_ret
    exact ⟨rfl, by go_grown⟩
  cases h2 : inW k 1 99
  · rw [fault_k t k v s h2]
    go_enter Try.func43, Try.ntmps43
    go_wp2_with (go_at_call 56; refine (isWithinW_any _ _ _ _).mono ?_; rintro e w' ⟨rfl, rfl⟩)
    go_ret
    exact ⟨rfl, by go_grown⟩
  cases h3 : inW v 0 999
  · rw [fault_v t k v s h3]
    go_enter Try.func43, Try.ntmps43
    go_wp2_with (go_at_call 56; refine (isWithinW_any _ _ _ _).mono ?_; rintro e w' ⟨rfl, rfl⟩)
    go_ret
    exact ⟨rfl, by go_grown⟩
  cases h4 : txtB s
  · rw [fault_s t k v s h1 h2 h3 h4]
    go_enter Try.func43, Try.ntmps43
    go_wp2_with (first | (go_at_call 56; refine (isWithinW_any _ _ _ _).mono ?_; rintro e w' ⟨rfl, rfl⟩) | (go_at_call 57; refine (isText_any _ _ hs).mono ?_; rintro e w' ⟨rfl, rfl⟩))
    go_ret
    exact ⟨rfl, by go_grown⟩
  · rw [fault_0 t k v s h1 h2 h3 h4]
    go_enter Try.func43, Try.ntmps43
    go_wp2_with (first | (go_at_call 56; refine (isWithinW_any _ _ _ _).mono ?_; rintro e w' ⟨rfl, rfl⟩) | (go_at_call 57; refine (isText_any _ _ hs).mono ?_; rintro e w' ⟨rfl, rfl⟩))
    go_ret
    exact ⟨rfl, by go_grown⟩

end Go.Proofs.Ytmbllmhpnopbdaa
