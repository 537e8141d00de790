/-
  The contract of the model's l1Number: the number that a word is, or -1.
-/
import Derived.Test.YtfokolanjjiicaaDoorNum
namespace Go.Proofs.YtfokolanjjiicaaDoor
open Go.RowKit

def allDig (s : ByteArray) : Prop := ∀ i, i < s.size → digB (byteAt s i) = true
/-- Has the word the form of a number? -/
def numForm (s : ByteArray) : Prop := 1 ≤ s.size ∧ s.size ≤ 4 ∧ ¬ (1 < s.size ∧ byteAt s 0 = 48)

set_option maxHeartbeats 400000 in
theorem l1Number_form (s : ByteArray) (w : World) (hs : s.size ≤ 1048576) (h : ¬ numForm s) :
    Calls Tryd.prog 35 #[.string s] w fun e w' => e = .returned (.int .i64 (-1)) ∧ w' = w := by
  by_cases h1 : (s.size : Int) < 1
  · go_enter Tryd.func35, Tryd.ntmps35
    go_wp2_with fail
    go_ret
    exact ⟨rfl, rfl⟩
  · have e1 : decide ((s.size : Int) < 1) = false := by simpa using h1
    by_cases h4 : (4 : Int) < (s.size : Int)
    · go_enter Tryd.func35, Tryd.ntmps35
      go_wp2_with fail
      go_ret
      exact ⟨rfl, rfl⟩
    · have e4 : decide ((4 : Int) < (s.size : Int)) = false := by simpa using h4
      have h0 : 1 < s.size ∧ byteAt s 0 = 48 := by
        by_cases e : 1 < s.size ∧ byteAt s 0 = 48
        · exact e
        · exact absurd ⟨by omega, by omega, e⟩ h
      have hl : (1 : Int) < (s.size : Int) := by omega
      have hp : 0 < s.size := by omega
      have hp' : (0 : Int) < (s.size : Int) := by omega
      have hb : ((s[0].toNat : Int) == 48) = true := by rw [← byteAt_of s 0 hp]; exact beq_iff_eq.2 h0.2
      clear h0 h
      go_enter Tryd.func35, Tryd.ntmps35
      go_wp2_with fail
      go_ret
      exact ⟨rfl, rfl⟩

set_option maxHeartbeats 1000000 in
theorem l1Number_loop (s : ByteArray) (w : World) (h : numForm s) :
    Calls Tryd.prog 35 #[.string s] w fun e w' => ((allDig s ∧ e = .returned (.int .i64 (numOf s 0 s.size))) ∨ (¬ allDig s ∧ e = .returned (.int .i64 (-1)))) ∧ w' = w := by
  obtain ⟨f1, f4, f0⟩ := h
  have e1 : decide ((s.size : Int) < 1) = false := by simp; omega
  have e4 : decide ((4 : Int) < (s.size : Int)) = false := by simp; omega
  have hp : 0 < s.size := by omega
  have hp' : (0 : Int) < (s.size : Int) := by omega
  have key : (decide ((1 : Int) < (s.size : Int)) = false) ∨ ((1 : Int) < (s.size : Int) ∧ ((s[0].toNat : Int) == 48) = false) := by
    by_cases e : 1 < s.size
    · refine .inr ⟨by omega, ?_⟩
      rw [← byteAt_of s 0 hp]
      exact beq_eq_false_iff_ne.2 (fun hh => f0 ⟨e, hh⟩)
    · exact .inl (by simp; omega)
  clear f0
  rcases key with k1 | ⟨k1, k2⟩
  all_goals
    go_enter Tryd.func35, Tryd.ntmps35
    go_wp2_with fail
    go_loop [3, 4] (fun v i => ∃ j : Nat, j ≤ s.size ∧ i = .int .i64 j ∧ v = .int .i64 (numOf s 0 j) ∧ Hid (∀ i, i < j → digB (byteAt s (0 + i)) = true)) (fun _ i => s.size - (intOf i).toNat)
    case atStart => exact ⟨0, by omega, rfl, rfl, fun i hi => by omega⟩
    case round =>
      obtain ⟨j, hj, rfl, rfl, hd⟩ := hrel
      have hnb := numOf_small s 0 j (by omega) hd.out
      by_cases hlt : j < s.size
      · have hbt := byteAt_of s j hlt
        have HT : Hid (byteAt s j = (s[j].toNat : Int)) := hbt
        clear hbt
        have hjl : (j : Int) < (s.size : Int) := by omega
        by_cases c1 : (s[j].toNat : Int) < 48
        · have HX : Hid (¬ allDig s) := fun ha => by have := digB_bounds (ha j hlt); rw [HT.out] at this; omega
          go_wp2_with fail
          go_ret
          exact ⟨.inr ⟨HX.out, rfl⟩, rfl⟩
        · have d1 : decide ((s[j].toNat : Int) < 48) = false := by simpa using c1
          by_cases c2 : (57 : Int) < (s[j].toNat : Int)
          · have HX : Hid (¬ allDig s) := fun ha => by have := digB_bounds (ha j hlt); rw [HT.out] at this; omega
            go_wp2_with fail
            go_ret
            exact ⟨.inr ⟨HX.out, rfl⟩, rfl⟩
          · have d2 : decide ((57 : Int) < (s[j].toNat : Int)) = false := by simpa using c2
            have HN : Hid (numOf s 0 (j + 1) = numOf s 0 j * 10 + ((s[j].toNat : Int) - 48)) := by show numOf s 0 (j + 1) = _; rw [numOf, Nat.zero_add, HT.out]
            have HD : Hid (∀ i, i < j + 1 → digB (byteAt s (0 + i)) = true) := fun i hi => by
              by_cases e : i = j
              · subst e; rw [Nat.zero_add, HT.out]; simp [digB]; omega
              · exact hd.out i (by omega)
            have b1 : (48 : Int) ≤ (s[j].toNat : Int) := by omega
            have b2 : (s[j].toNat : Int) ≤ 57 := by omega
            go_wp2_with fail
            go_round
            case rel => exact ⟨j + 1, by omega, by go_num, congrArg (Value.int .i64) HN.out.symm, HD⟩
            case measure => simp [intOf]; omega
      · have e : j = s.size := by omega
        subst e
        have HX : Hid (allDig s) := fun i hi => by have := hd.out i hi; rw [Nat.zero_add] at this; exact this
        go_wp2_with fail
        go_ret
        exact ⟨.inl ⟨HX.out, rfl⟩, rfl⟩

end Go.Proofs.YtfokolanjjiicaaDoor
