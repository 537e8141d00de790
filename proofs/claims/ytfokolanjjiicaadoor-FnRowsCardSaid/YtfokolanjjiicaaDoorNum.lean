/-
  The contracts of isDigit, readNumber and the model's l1Number: what a number is that a text is read as.
-/
import Derived.Test.YtfokolanjjiicaaDoorRowC
namespace Go.Proofs.YtfokolanjjiicaaDoor
open Go.RowKit

def byteAt (s : ByteArray) (i : Nat) : Int := if h : i < s.size then (s[i].toNat : Int) else 0
def digB (c : Int) : Bool := decide (48 ≤ c) && decide (c ≤ 57)
/-- The number that n digits make, from place b on. -/
def numOf (s : ByteArray) (b : Nat) : Nat → Int
  | 0 => 0
  | n + 1 => numOf s b n * 10 + (byteAt s (b + n) - 48)
/-- j digits stand from place b on, and no more than 4, and no more are read. -/
structure IsRun (s : ByteArray) (b j : Nat) : Prop where
  le : b + j ≤ s.size
  four : j ≤ 4
  digs : ∀ i, i < j → digB (byteAt s (b + i)) = true
  last : b + j = s.size ∨ j = 4 ∨ digB (byteAt s (b + j)) = false

theorem byteAt_of (s : ByteArray) (i : Nat) (h : i < s.size) : byteAt s i = (s[i].toNat : Int) := by simp [byteAt, h]
theorem digB_bounds {c : Int} (h : digB c = true) : 48 ≤ c ∧ c ≤ 57 := by simpa [digB] using h

theorem numOf_bounds (s : ByteArray) (b : Nat) : ∀ n, n ≤ 4 → (∀ i, i < n → digB (byteAt s (b + i)) = true) → 0 ≤ numOf s b n ∧ numOf s b n < 10 ^ n
  | 0, _, _ => by simp [numOf]
  | n + 1, hn, h => by
    have ih := numOf_bounds s b n (by omega) (fun i hi => h i (by omega))
    have hd := digB_bounds (h n (by omega))
    rw [numOf]
    generalize numOf s b n = x at ih
    generalize byteAt s (b + n) = c at hd
    clear h
    match n, hn, ih with
    | 0, _, ih => simp at ih ⊢; omega
    | 1, _, ih => simp at ih ⊢; omega
    | 2, _, ih => simp at ih ⊢; omega
    | 3, _, ih => simp at ih ⊢; omega

theorem numOf_small (s : ByteArray) (b n : Nat) (hn : n ≤ 4) (h : ∀ i, i < n → digB (byteAt s (b + i)) = true) : 0 ≤ numOf s b n ∧ numOf s b n ≤ 9999 := by
  have hb := numOf_bounds s b n hn h
  match n, hn, hb with
  | 0, _, hb => simp at hb; omega
  | 1, _, hb => simp at hb; omega
  | 2, _, hb => simp at hb; omega
  | 3, _, hb => simp at hb; omega
  | 4, _, hb => simp at hb; omega

set_option maxHeartbeats 400000 in
theorem isDigit_any (c : Int) (w : World) : Calls Tryd.prog 38 #[.int .u8 c] w fun e w' => e = .returned (.bool (digB c)) ∧ w' = w := by
  by_cases h1 : 48 ≤ c
  · have d1 : decide (48 ≤ c) = true := by simpa using h1
    by_cases h2 : c ≤ 57
    · have e1 : digB c = true := by simp [digB, h1, h2]
      rw [e1]
      go_enter Tryd.func38, Tryd.ntmps38
      go_wp2
      go_ret
      exact ⟨rfl, rfl⟩
    · have e1 : digB c = false := by simp [digB]; omega
      have d2 : decide (c ≤ 57) = false := by simpa using h2
      rw [e1]
      go_enter Tryd.func38, Tryd.ntmps38
      go_wp2
      go_ret
      exact ⟨rfl, rfl⟩
  · have e1 : digB c = false := by simp [digB]; omega
    have d1 : decide (48 ≤ c) = false := by simpa using h1
    rw [e1]
    go_enter Tryd.func38, Tryd.ntmps38
    go_wp2
    go_ret
    exact ⟨rfl, rfl⟩

/-- What readNumber tells of a run of j digits from place b on. -/
def numEnd (s : ByteArray) (b j : Nat) : Value :=
  if j = 0 ∨ (1 < j ∧ byteAt s b = 48) then .tuple #[.int .i64 0, .int .i64 b, .bool false] else .tuple #[.int .i64 (numOf s b j), .int .i64 (b + j), .bool true]

set_option maxHeartbeats 1000000 in
theorem readNumber_any (s : ByteArray) (b : Nat) (w : World) (hs : s.size ≤ 1048576) (hb : b ≤ s.size) :
    Calls Tryd.prog 32 #[.string s, .int .i64 b] w fun e w' => (∃ j, IsRun s b j ∧ e = .returned (numEnd s b j)) ∧ w' = w := by
  go_enter Tryd.func32, Tryd.ntmps32
  go_wp2_with fail
  go_loop [4, 5] (fun v i => ∃ j : Nat, b + j ≤ s.size ∧ j ≤ 4 ∧ i = .int .i64 (b + j : Nat) ∧ v = .int .i64 (numOf s b j) ∧ Hid (∀ i, i < j → digB (byteAt s (b + i)) = true)) (fun _ i => s.size - (intOf i).toNat)
  case atStart => exact ⟨0, by omega, by omega, rfl, rfl, fun i hi => by omega⟩
  case round =>
    obtain ⟨j, hj, h4, rfl, rfl, hd⟩ := hrel
    have hnb := numOf_small s b j h4 hd.out
    by_cases hA : b + j < s.size ∧ j < 4 ∧ digB (byteAt s (b + j)) = true
    · obtain ⟨hlt, hj4, hdg⟩ := hA
      have hbnd := digB_bounds hdg
      have hbt := byteAt_of s (b + j) hlt
      rw [hbt] at hdg hbnd
      have HN : Hid (numOf s b (j + 1) = numOf s b j * 10 + ((s[b + j].toNat : Int) - 48)) := by show numOf s b (j + 1) = _; rw [numOf, hbt]
      have HD : Hid (∀ i, i < j + 1 → digB (byteAt s (b + i)) = true) := fun i hi => by
        by_cases e : i = j
        · subst e; rw [hbt]; exact hdg
        · exact hd.out i (by omega)
      have HT : Hid (byteAt s (b + j) = (s[b + j].toNat : Int)) := hbt
      clear hbt
      go_wp2_with (go_at_call 38; refine (isDigit_any _ _).mono ?_; rintro e w' ⟨rfl, rfl⟩)
      go_round
      case rel => exact ⟨j + 1, by omega, by omega, congrArg (Value.int .i64) (by omega), congrArg (Value.int .i64) HN.out.symm, HD⟩
      case measure => simp [intOf]; omega
    · have HR : Hid (IsRun s b j) := ⟨hj, h4, hd.out, by
        by_cases e1 : b + j = s.size
        · exact .inl e1
        · by_cases e2 : j = 4
          · exact .inr (.inl e2)
          · refine .inr (.inr ?_)
            cases hc : digB (byteAt s (b + j))
            · rfl
            · exact absurd ⟨by omega, by omega, hc⟩ hA⟩
      have hw : b + j = s.size ∨ (b + j < s.size ∧ j = 4) ∨ (b + j < s.size ∧ j < 4 ∧ digB (byteAt s (b + j)) = false) := by
        rcases HR.out.last with h | h | h
        · exact .inl h
        · by_cases e : b + j = s.size
          · exact .inl e
          · exact .inr (.inl ⟨by omega, h⟩)
        · by_cases e : b + j = s.size
          · exact .inl e
          · by_cases e4 : j = 4
            · exact .inr (.inl ⟨by omega, e4⟩)
            · exact .inr (.inr ⟨by omega, by omega, h⟩)
      clear hA
      have hend : j = 0 ∨ j = 1 ∨ (1 < j ∧ byteAt s b = 48) ∨ (1 < j ∧ byteAt s b ≠ 48) := by omega
      have HE0 : Hid (j = 0 ∨ (1 < j ∧ byteAt s b = 48) → numEnd s b j = .tuple #[.int .i64 0, .int .i64 b, .bool false]) := fun h => by rw [numEnd, if_pos h]
      have HE1 : Hid (¬ (j = 0 ∨ (1 < j ∧ byteAt s b = 48)) → numEnd s b j = .tuple #[.int .i64 (numOf s b j), .int .i64 (b + j), .bool true]) := fun h => by rw [numEnd, if_neg h]
      clear hd
      rcases hend with he | he | ⟨he, h48⟩ | ⟨he, h48⟩
      · rcases hw with hw | ⟨hlt, hw⟩ | ⟨hlt, hlt4, hw⟩
        · have dj : ((b : Int) + (j : Int) == (b : Int)) = true := by simp; omega
          have HF : Hid (numEnd s b j = _) := HE0.out (.inl he)
          have HH : Hid (j = 0) := he
          have dl : ¬ ((b : Int) + (j : Int) < (s.size : Int)) := by omega
          have HW : Hid (b + j = s.size) := hw
          clear he
          clear hw
          clear HE0 HE1
          go_wp2_with (go_at_call 38; refine (isDigit_any _ _).mono ?_; rintro e w' ⟨rfl, rfl⟩)
          go_ret3
          exact ⟨⟨j, HR.out, by rw [HF.out]; rfl⟩, rfl⟩
        · omega
        · have dj : ((b : Int) + (j : Int) == (b : Int)) = true := by simp; omega
          have HF : Hid (numEnd s b j = _) := HE0.out (.inl he)
          have HH : Hid (j = 0) := he
          have dl : (b : Int) + (j : Int) < (s.size : Int) := by omega
          have d4 : (b : Int) + (j : Int) - (b : Int) < 4 := by omega
          rw [byteAt_of s (b + j) hlt] at hw
          clear he
          clear HE0 HE1
          go_wp2_with (go_at_call 38; refine (isDigit_any _ _).mono ?_; rintro e w' ⟨rfl, rfl⟩)
          go_ret3
          exact ⟨⟨j, HR.out, by rw [HF.out]; rfl⟩, rfl⟩
      · rcases hw with hw | ⟨hlt, hw⟩ | ⟨hlt, hlt4, hw⟩
        · have dj : ((b : Int) + (j : Int) == (b : Int)) = false := by simp; omega
          have d1 : ¬ (1 < (b : Int) + (j : Int) - (b : Int)) := by omega
          have HF : Hid (numEnd s b j = _) := HE1.out (by omega)
          have HH : Hid (j = 1) := he
          have dl : ¬ ((b : Int) + (j : Int) < (s.size : Int)) := by omega
          have HW : Hid (b + j = s.size) := hw
          clear he
          clear hw
          clear HE0 HE1
          go_wp2_with (go_at_call 38; refine (isDigit_any _ _).mono ?_; rintro e w' ⟨rfl, rfl⟩)
          go_ret3
          exact ⟨⟨j, HR.out, by rw [HF.out]; rfl⟩, rfl⟩
        · omega
        · have dj : ((b : Int) + (j : Int) == (b : Int)) = false := by simp; omega
          have d1 : ¬ (1 < (b : Int) + (j : Int) - (b : Int)) := by omega
          have HF : Hid (numEnd s b j = _) := HE1.out (by omega)
          have HH : Hid (j = 1) := he
          have dl : (b : Int) + (j : Int) < (s.size : Int) := by omega
          have d4 : (b : Int) + (j : Int) - (b : Int) < 4 := by omega
          rw [byteAt_of s (b + j) hlt] at hw
          clear he
          clear HE0 HE1
          go_wp2_with (go_at_call 38; refine (isDigit_any _ _).mono ?_; rintro e w' ⟨rfl, rfl⟩)
          go_ret3
          exact ⟨⟨j, HR.out, by rw [HF.out]; rfl⟩, rfl⟩
      · rcases hw with hw | ⟨hlt, hw⟩ | ⟨hlt, hlt4, hw⟩
        · have hbs : b < s.size := by omega
          have dj : ((b : Int) + (j : Int) == (b : Int)) = false := by simp; omega
          have d1 : 1 < (b : Int) + (j : Int) - (b : Int) := by omega
          have d48 : ((s[b].toNat : Int) == 48) = true := by rw [← byteAt_of s b hbs]; exact beq_iff_eq.2 h48
          have HF : Hid (numEnd s b j = _) := HE0.out (.inr ⟨he, h48⟩)
          have dl : ¬ ((b : Int) + (j : Int) < (s.size : Int)) := by omega
          have HW : Hid (b + j = s.size) := hw
          clear h48
          clear hw
          clear HE0 HE1
          go_wp2_with (go_at_call 38; refine (isDigit_any _ _).mono ?_; rintro e w' ⟨rfl, rfl⟩)
          go_ret3
          exact ⟨⟨j, HR.out, by rw [HF.out]; rfl⟩, rfl⟩
        · have hbs : b < s.size := by omega
          have dj : ((b : Int) + (j : Int) == (b : Int)) = false := by simp; omega
          have d1 : 1 < (b : Int) + (j : Int) - (b : Int) := by omega
          have d48 : ((s[b].toNat : Int) == 48) = true := by rw [← byteAt_of s b hbs]; exact beq_iff_eq.2 h48
          have HF : Hid (numEnd s b j = _) := HE0.out (.inr ⟨he, h48⟩)
          have dl : (b : Int) + (j : Int) < (s.size : Int) := by omega
          have d4 : ¬ ((b : Int) + (j : Int) - (b : Int) < 4) := by omega
          have HW : Hid (j = 4) := hw
          clear h48
          clear hw
          clear HE0 HE1
          go_wp2_with (go_at_call 38; refine (isDigit_any _ _).mono ?_; rintro e w' ⟨rfl, rfl⟩)
          go_ret3
          exact ⟨⟨j, HR.out, by rw [HF.out]; rfl⟩, rfl⟩
        · have hbs : b < s.size := by omega
          have dj : ((b : Int) + (j : Int) == (b : Int)) = false := by simp; omega
          have d1 : 1 < (b : Int) + (j : Int) - (b : Int) := by omega
          have d48 : ((s[b].toNat : Int) == 48) = true := by rw [← byteAt_of s b hbs]; exact beq_iff_eq.2 h48
          have HF : Hid (numEnd s b j = _) := HE0.out (.inr ⟨he, h48⟩)
          have dl : (b : Int) + (j : Int) < (s.size : Int) := by omega
          have d4 : (b : Int) + (j : Int) - (b : Int) < 4 := by omega
          rw [byteAt_of s (b + j) hlt] at hw
          clear h48
          clear HE0 HE1
          go_wp2_with (go_at_call 38; refine (isDigit_any _ _).mono ?_; rintro e w' ⟨rfl, rfl⟩)
          go_ret3
          exact ⟨⟨j, HR.out, by rw [HF.out]; rfl⟩, rfl⟩
      · rcases hw with hw | ⟨hlt, hw⟩ | ⟨hlt, hlt4, hw⟩
        · have hbs : b < s.size := by omega
          have dj : ((b : Int) + (j : Int) == (b : Int)) = false := by simp; omega
          have d1 : 1 < (b : Int) + (j : Int) - (b : Int) := by omega
          have d48 : ((s[b].toNat : Int) == 48) = false := by rw [← byteAt_of s b hbs]; exact beq_eq_false_iff_ne.2 h48
          have HF : Hid (numEnd s b j = _) := HE1.out (fun h => by omega)
          have dl : ¬ ((b : Int) + (j : Int) < (s.size : Int)) := by omega
          have HW : Hid (b + j = s.size) := hw
          clear h48
          clear hw
          clear HE0 HE1
          go_wp2_with (go_at_call 38; refine (isDigit_any _ _).mono ?_; rintro e w' ⟨rfl, rfl⟩)
          go_ret3
          exact ⟨⟨j, HR.out, by rw [HF.out]; rfl⟩, rfl⟩
        · have hbs : b < s.size := by omega
          have dj : ((b : Int) + (j : Int) == (b : Int)) = false := by simp; omega
          have d1 : 1 < (b : Int) + (j : Int) - (b : Int) := by omega
          have d48 : ((s[b].toNat : Int) == 48) = false := by rw [← byteAt_of s b hbs]; exact beq_eq_false_iff_ne.2 h48
          have HF : Hid (numEnd s b j = _) := HE1.out (fun h => by omega)
          have dl : (b : Int) + (j : Int) < (s.size : Int) := by omega
          have d4 : ¬ ((b : Int) + (j : Int) - (b : Int) < 4) := by omega
          have HW : Hid (j = 4) := hw
          clear h48
          clear hw
          clear HE0 HE1
          go_wp2_with (go_at_call 38; refine (isDigit_any _ _).mono ?_; rintro e w' ⟨rfl, rfl⟩)
          go_ret3
          exact ⟨⟨j, HR.out, by rw [HF.out]; rfl⟩, rfl⟩
        · have hbs : b < s.size := by omega
          have dj : ((b : Int) + (j : Int) == (b : Int)) = false := by simp; omega
          have d1 : 1 < (b : Int) + (j : Int) - (b : Int) := by omega
          have d48 : ((s[b].toNat : Int) == 48) = false := by rw [← byteAt_of s b hbs]; exact beq_eq_false_iff_ne.2 h48
          have HF : Hid (numEnd s b j = _) := HE1.out (fun h => by omega)
          have dl : (b : Int) + (j : Int) < (s.size : Int) := by omega
          have d4 : (b : Int) + (j : Int) - (b : Int) < 4 := by omega
          rw [byteAt_of s (b + j) hlt] at hw
          clear h48
          clear HE0 HE1
          go_wp2_with (go_at_call 38; refine (isDigit_any _ _).mono ?_; rintro e w' ⟨rfl, rfl⟩)
          go_ret3
          exact ⟨⟨j, HR.out, by rw [HF.out]; rfl⟩, rfl⟩

end Go.Proofs.YtfokolanjjiicaaDoor
