/-
  The contract of the model's l2Fault: the same fault.
-/
import Derived.Test.YtonngopnhpmjaaaAMod

namespace Go.Proofs.Ytonngopnhpmjaaa
open Go.RowKit
set_option linter.unusedVariables false

set_option maxHeartbeats 400000 in
theorem l2Fault_len (a : Option Addr) (n c : Nat) (w : World) (hn : n ≠ 64) (hm : n ≤ 1048576) :
    Calls Try.prog 154 #[.slice a n c] w fun e w' => e = .returned (.int .i64 1) ∧ w' = w := by
  have d : ((n : Int) != 64) = true := by simp; omega
  go_enter Try.func154, Try.ntmps154
  go_wp2_with fail
  go_ret
  exact ⟨rfl, rfl⟩

theorem endB_last (zs : List Int) (n : Nat) (hn : nb zs 0 = n) (h0 : 0 < n) (hw : wrgN zs n = false) : endB zs = (nb zs (3 + 2 * (n - 1)) == 0) := by
  have h1 := wrgN_at zs n hw (n - 1) (by omega)
  rw [endB, hn, show decide (0 < n) = true by simpa using h0, Bool.true_and, empB]
  cases e : (nb zs (3 + 2 * (n - 1)) == 0)
  · simp
  · rw [wrgS, wrongB, e] at h1
    cases e2 : (nb zs (2 + 2 * (n - 1)) == 0)
    · rw [e2] at h1; simp at h1
    · rfl

set_option maxHeartbeats 4000000 in
theorem l2Fault_any (a : Option Addr) (zs : List Int) (c : Nat) (w : World) (hr : Reads w a zs) (h : IsPg zs) :
    Calls Try.prog 154 #[.slice a 64 c] w fun e w' => e = .returned (.int .i64 (faultP zs)) ∧ w' = w := by
  have hnl := nb_lt h 0
  have hml := nb_lt h 1
  obtain ⟨n, hn⟩ : ∃ n, n = nb zs 0 := ⟨_, rfl⟩
  obtain ⟨m, hm⟩ : ∃ m, m = nb zs 1 := ⟨_, rfl⟩
  have HN : Hid (nb zs 0 = n) := hn.symm
  have HM : Hid (nb zs 1 = m) := hm.symm
  have HB : Hid (headB zs = (decide (16 < n) || decide (m < 2 + 2 * n) || decide (64 < m))) := by show _ = _; rw [hn, hm]; rfl
  rw [← hn] at hnl
  rw [← hm] at hml
  clear hn hm
  go_enter Try.func154, Try.ntmps154
  go_wp2_with fail
  refine (l2Count_any a zs c _ hr h).mono ?_
  rintro e w' ⟨rfl, rfl⟩
  rw [HN.out]
  have H3 : Hid (headB zs = true → faultP zs = 3) := fun hh => by rw [faultP, if_pos hh]
  by_cases c1 : 16 < n
  · have HF : Hid (faultP zs = 3) := H3.out (by rw [HB.out]; simp [c1])
    have d1 : decide (16 < n) = true := by simpa using c1
    have i1 : (16 : Int) < (n : Int) := by omega
    go_wp2_with fail
    go_ret
    exact ⟨by rw [HF.out]; rfl, rfl⟩
  have d1 : decide (16 < n) = false := by simpa using c1
  have i1 : ¬ (16 : Int) < (n : Int) := by omega
  go_wp2_with fail
  refine (l2Low_any a zs c _ hr h).mono ?_
  rintro e w' ⟨rfl, rfl⟩
  rw [HM.out]
  by_cases c2 : m < 2 + 2 * n
  · have HF : Hid (faultP zs = 3) := H3.out (by rw [HB.out]; simp [c2])
    have d2 : decide ((m : Int) < 2 + 2 * (n : Int)) = true := by simp; omega
    have i2 : (m : Int) < 2 + 2 * (n : Int) := by omega
    go_wp2_with fail
    go_ret
    exact ⟨by rw [HF.out]; rfl, rfl⟩
  have d2 : decide ((m : Int) < 2 + 2 * (n : Int)) = false := by simp; omega
  go_wp2_with fail
  refine (l2Low_any a zs c _ hr h).mono ?_
  rintro e w' ⟨rfl, rfl⟩
  rw [HM.out]
  by_cases c3 : 64 < m
  · have HF : Hid (faultP zs = 3) := H3.out (by rw [HB.out]; simp [c3])
    have d3 : decide (64 < m) = true := by simpa using c3
    have i3 : (64 : Int) < (m : Int) := by omega
    go_wp2_with fail
    go_ret
    exact ⟨by rw [HF.out]; rfl, rfl⟩
  have d3 : decide (64 < m) = false := by simpa using c3
  have i3 : ¬ (64 : Int) < (m : Int) := by omega
  have H0 : Hid (faultP zs = if wrgN zs n = true then 3 else if (comB zs n || endB zs) = true then 8 else 0) := by
    show _ = _
    rw [faultP, if_neg (by rw [HB.out]; simp [c1, c2, c3]), HN.out]
  go_wp2_with fail
  clear d1 i1 d2 d3 i3 H3 HB
  go_loop [4] (fun i => ∃ k : Nat, k ≤ n ∧ i = .int .i64 k ∧ Hid (wrgN zs k = false)) (fun i => n - (intOf i).toNat)
  case atStart => exact ⟨0, by omega, rfl, rfl⟩
  case round =>
    obtain ⟨k, hk, rfl, HW⟩ := hrel
    by_cases hlt : k < n
    · have hi : (k : Int) < (n : Int) := by omega
      cases hs : wrgS zs k
      · have HS : Hid (wrgS zs k = false) := hs
        have HW' : Hid (wrgN zs (k + 1) = false) := by show _ = _; rw [wrgN, HW.out, hs]; rfl
        clear hs
        go_wp2_with fail
        refine (l2Slot_any a zs c k _ hr h (by omega)).mono ?_
        rintro e w' ⟨rfl, rfl⟩
        rw [HS.out]
        go_wp2_with fail
        go_round
        case rel => exact ⟨k + 1, by omega, by go_num, HW'⟩
        case measure => simp [intOf]; omega
      · have HS : Hid (wrgS zs k = true) := hs
        have HF : Hid (faultP zs = 3) := by
          have h2 := wrgN_more zs (k + 1) (by rw [wrgN, hs]; simp) (n - (k + 1))
          rw [show k + 1 + (n - (k + 1)) = n by omega] at h2
          show _ = _
          rw [H0.out, if_pos h2]
        clear hs
        go_wp2_with fail
        refine (l2Slot_any a zs c k _ hr h (by omega)).mono ?_
        rintro e w' ⟨rfl, rfl⟩
        rw [HS.out]
        go_wp2_with fail
        go_ret
        exact ⟨by rw [HF.out]; rfl, rfl⟩
    · have e : k = n := by omega
      subst e
      have H1 : Hid (faultP zs = if (comB zs k || endB zs) = true then 8 else 0) := by show _ = _; rw [H0.out, if_neg (by rw [HW.out]; simp)]
      have HX : Hid (∀ s, s < k → nb zs (2 + 2 * s) + nb zs (3 + 2 * s) ≤ 64) := fun s hs => wrongB_end _ _ _ (wrgN_at zs k HW.out s hs)
      clear hlt H0 hk
      go_wp2_with fail
      go_loop [5] (fun i => ∃ j : Nat, j ≤ k ∧ i = .int .i64 j ∧ Hid (comB zs j = false)) (fun i => k - (intOf i).toNat)
      case atStart => exact ⟨0, by omega, rfl, rfl⟩
      case round =>
        obtain ⟨j, hj, rfl, HC⟩ := hrel
        by_cases hlt : j < k
        · have hi : (j : Int) < (k : Int) := by omega
          go_wp2_with fail
          go_loop [6] (fun i => ∃ t : Nat, t ≤ j ∧ i = .int .i64 t ∧ Hid (∀ u, u < t → apartB zs j u = true)) (fun i => j - (intOf i).toNat)
          case atStart => exact ⟨0, by omega, rfl, fun u hu => by omega⟩
          case round =>
            obtain ⟨t, ht, rfl, HA⟩ := hrel
            by_cases htl : t < j
            · have hti : (t : Int) < (j : Int) := by omega
              cases hs : apartB zs j t
              · have HS : Hid (apartB zs j t = false) := hs
                have HF : Hid (faultP zs = 8) := by
                  have h1 := hit_of zs j t htl (HX.out j hlt) hs
                  have h2 := comB_more zs (j + 1) (by rw [comB, h1]; simp) (k - (j + 1))
                  rw [show j + 1 + (k - (j + 1)) = k by omega] at h2
                  show _ = _
                  rw [H1.out, h2]
                  rfl
                clear hs
                go_wp2_with fail
                refine (l2Apart_any a zs c j t _ hr h (by omega) (by omega)).mono ?_
                rintro e w' ⟨rfl, rfl⟩
                rw [HS.out]
                go_wp2_with fail
                go_ret
                exact ⟨by rw [HF.out]; rfl, rfl⟩
              · have HS : Hid (apartB zs j t = true) := hs
                have HA' : Hid (∀ u, u < t + 1 → apartB zs j u = true) := fun u hu => by
                  by_cases e : u = t
                  · rw [e]; exact hs
                  · exact HA.out u (by omega)
                clear hs
                go_wp2_with fail
                refine (l2Apart_any a zs c j t _ hr h (by omega) (by omega)).mono ?_
                rintro e w' ⟨rfl, rfl⟩
                rw [HS.out]
                go_wp2_with fail
                go_round
                case rel => exact ⟨t + 1, by omega, by go_num, HA'⟩
                case measure => simp [intOf]; omega
            · have e : t = j := by omega
              subst e
              have HC' : Hid (comB zs (t + 1) = false) := by show _ = _; rw [comB, HC.out, not_hit zs t HA.out]; rfl
              go_wp2_with fail
              go_round
              case rel => exact ⟨t + 1, by omega, by go_num, HC'⟩
              case measure => simp [intOf]; omega
        · have e : j = k := by omega
          subst e
          have H2 : Hid (faultP zs = if endB zs = true then 8 else 0) := by show _ = _; rw [H1.out, HC.out, Bool.false_or]
          clear hlt
          by_cases j0 : j = 0
          · subst j0
            have HF : Hid (faultP zs = 0) := by show _ = _; rw [H2.out, endB, HN.out]; rfl
            go_wp2_with fail
            go_ret
            exact ⟨by rw [HF.out]; rfl, rfl⟩
          · have dj : decide (0 < j) = true := by simp; omega
            have ij : (0 : Int) < (j : Int) := by omega
            have HE : Hid (endB zs = (nb zs (3 + 2 * (j - 1)) == 0)) := endB_last zs j HN.out (by omega) HW.out
            go_wp2_with fail
            rw [show (j : Int) - 1 = ((j - 1 : Nat) : Int) by omega]
            refine (l2Size_any a zs c (j - 1) _ hr h (by omega)).mono ?_
            rintro e w' ⟨rfl, rfl⟩
            obtain ⟨l, hl⟩ : ∃ l, l = nb zs (3 + 2 * (j - 1)) := ⟨_, rfl⟩
            rw [← hl]
            by_cases l0 : l = 0
            · have HF : Hid (faultP zs = 8) := by show _ = _; rw [H2.out, HE.out, ← hl, l0]; rfl
              clear hl
              subst l0
              go_wp2_with fail
              go_ret
              exact ⟨by rw [HF.out]; rfl, rfl⟩
            · have HF : Hid (faultP zs = 0) := by show _ = _; rw [H2.out, HE.out, ← hl, if_neg (by simpa using l0)]
              have dl : ((l : Int) == 0) = false := by simp; omega
              clear hl l0
              go_wp2_with fail
              go_ret
              exact ⟨by rw [HF.out]; rfl, rfl⟩

end Go.Proofs.Ytonngopnhpmjaaa
