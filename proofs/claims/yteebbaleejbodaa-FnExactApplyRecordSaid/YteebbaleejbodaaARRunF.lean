/-
  The fault of runs: the program's and the model's.
-/
import Derived.Test.YteebbaleejbodaaARRunC
import Derived.Test.YteebbaleejbodaaARLawA

namespace Go.Proofs.Yteebbaleejbodaa
open Go.RowKit
set_option linter.unusedVariables false

/-- The fault of one run of m bytes at p, whose place is to be least or above. -/
def runQ (p : Int) (m : Nat) (least : Int) : Int := if inR p 0 63 = true then (if inR m 1 64 = true then (if p + m > 64 then 3 else if p < least then 1 else 0) else 3) else 3

theorem runQ_zero {p : Int} {m : Nat} {least : Int} (h : runQ p m least = 0) : 0 ≤ p ∧ 1 ≤ m ∧ p + m ≤ 64 ∧ least ≤ p := by
  unfold runQ inR at h
  split at h
  · split at h
    · split at h
      · cases h
      · split at h
        · cases h
        · simp only [Bool.and_eq_true, decide_eq_true_eq] at *
          omega
    · cases h
  · cases h

set_option maxHeartbeats 1000000 in
theorem runFault_any (p : Int) (a : Option Addr) (m c : Nat) (least : Int) (w : World) (hm : m ≤ 1048576) :
    Calls Try.prog 192 #[.agg #[.int .i64 p, .slice a m c], .int .i64 least] w fun e w' => e = .returned (.int .i64 (runQ p m least)) ∧ Below w.heap.size w w' := by
  cases h1 : inR p 0 63
  · have HQ : Hid (runQ p m least = 3) := by show _ = _; unfold runQ; rw [h1]; rfl
    go_enter Try.func192, Try.ntmps192
    go_wp2_with fail
    refine (isWithin_any p 0 63 _).mono ?_
    rintro e w' ⟨rfl, rfl⟩
    rw [h1]
    clear h1
    go_wp2_with fail
    go_ret
    exact ⟨by rw [HQ.out]; rfl, by go_grown⟩
  · cases h2 : inR m 1 64
    · have HQ : Hid (runQ p m least = 3) := by show _ = _; unfold runQ; rw [h1, h2]; rfl
      go_enter Try.func192, Try.ntmps192
      go_wp2_with fail
      refine (isWithin_any p 0 63 _).mono ?_
      rintro e w' ⟨rfl, rfl⟩
      rw [h1]
      clear h1
      go_wp2_with fail
      refine (isWithin_any m 1 64 _).mono ?_
      rintro e w' ⟨rfl, rfl⟩
      rw [h2]
      clear h2
      go_wp2_with fail
      go_ret
      exact ⟨by rw [HQ.out]; rfl, by go_grown⟩
    · have b1 : 0 ≤ p ∧ p ≤ 63 := by simpa [inR] using h1
      have b2 : 1 ≤ m ∧ m ≤ 64 := by simp [inR] at h2; omega
      have HQ0 : Hid (runQ p m least = if p + m > 64 then 3 else if p < least then 1 else 0) := by show _ = _; unfold runQ; rw [h1, h2]; rfl
      obtain ⟨b11, b12⟩ := b1
      obtain ⟨b21, b22⟩ := b2
      by_cases h3 : p + m > 64
      · have HQ : Hid (runQ p m least = 3) := by show _ = _; rw [HQ0.out, if_pos h3]
        have d3 : (64 : Int) < p + m := h3
        clear h3 HQ0
        go_enter Try.func192, Try.ntmps192
        go_wp2_with fail
        refine (isWithin_any p 0 63 _).mono ?_
        rintro e w' ⟨rfl, rfl⟩
        rw [h1]
        clear h1
        go_wp2_with fail
        refine (isWithin_any m 1 64 _).mono ?_
        rintro e w' ⟨rfl, rfl⟩
        rw [h2]
        clear h2
        go_wp2_with fail
        go_ret
        exact ⟨by rw [HQ.out]; rfl, by go_grown⟩
      · have d3 : ¬ ((64 : Int) < p + m) := h3
        by_cases h4 : p < least
        · have HQ : Hid (runQ p m least = 1) := by show _ = _; rw [HQ0.out, if_neg h3, if_pos h4]
          clear h3 HQ0
          go_enter Try.func192, Try.ntmps192
          go_wp2_with fail
          refine (isWithin_any p 0 63 _).mono ?_
          rintro e w' ⟨rfl, rfl⟩
          rw [h1]
          clear h1
          go_wp2_with fail
          refine (isWithin_any m 1 64 _).mono ?_
          rintro e w' ⟨rfl, rfl⟩
          rw [h2]
          clear h2
          go_wp2_with fail
          go_ret
          exact ⟨by rw [HQ.out]; rfl, by go_grown⟩
        · have HQ : Hid (runQ p m least = 0) := by show _ = _; rw [HQ0.out, if_neg h3, if_neg h4]
          clear h3 HQ0
          go_enter Try.func192, Try.ntmps192
          go_wp2_with fail
          refine (isWithin_any p 0 63 _).mono ?_
          rintro e w' ⟨rfl, rfl⟩
          rw [h1]
          clear h1
          go_wp2_with fail
          refine (isWithin_any m 1 64 _).mono ?_
          rintro e w' ⟨rfl, rfl⟩
          rw [h2]
          clear h2
          go_wp2_with fail
          go_ret
          exact ⟨by rw [HQ.out]; rfl, by go_grown⟩

/-- The place ahead of which the j-th run may not begin. -/
def lst (P : Nat → Int) (Z : Nat → List Int) : Nat → Int
  | 0 => 0
  | j + 1 => P j + (Z j).length + 1

/-- The fault of k runs from the j-th on. -/
def rfFrom (P : Nat → Int) (Z : Nat → List Int) : Nat → Nat → Int
  | 0, _ => 0
  | k + 1, j => if runQ (P j) (Z j).length (lst P Z j) = 0 then rfFrom P Z k (j + 1) else runQ (P j) (Z j).length (lst P Z j)

/-- The fault of n runs. -/
def rfQ (n : Nat) (P : Nat → Int) (Z : Nat → List Int) : Int := if n > 64 then 2 else rfFrom P Z n 0

set_option maxHeartbeats 1000000 in
theorem implRunsFault_any (a : Option Addr) (n c : Nat) (P : Nat → Int) (A : Nat → Option Addr) (C : Nat → Nat) (Z : Nat → List Int) (w : World) (hm : n ≤ 1048576) (hz : ∀ i, i < n → (Z i).length ≤ 1048576) (hr : RunsRead w a n P A C Z) :
    Calls Try.prog 181 #[.slice a n c] w fun e w' => e = .returned (.int .i64 (rfQ n P Z)) ∧ Below w.heap.size w w' := by
  by_cases h64 : n > 64
  · have HQ : Hid (rfQ n P Z = 2) := by show _ = _; unfold rfQ; rw [if_pos h64]
    have d : (64 : Int) < (n : Int) := by omega
    go_enter Try.func181, Try.ntmps181
    go_wp2_with fail
    go_ret
    exact ⟨by rw [HQ.out]; rfl, by go_grown⟩
  have HQ : Hid (rfQ n P Z = rfFrom P Z n 0) := by show _ = _; unfold rfQ; rw [if_neg h64]
  have d : ¬ ((64 : Int) < (n : Int)) := by omega
  by_cases h0 : n = 0
  · subst h0
    go_enter Try.func181, Try.ntmps181
    go_wp2_with fail
    go_rounds 1
    go_ret
    exact ⟨by rw [HQ.out]; rfl, Below.refl _ _⟩
  have HR : Hid (RunsRead w a n P A C Z) := hr
  rcases hr with hr | ⟨b, off, rfl, hc⟩
  · exact absurd hr h0
  clear hc
  go_enter Try.func181, Try.ntmps181
  go_wp2_with fail
  go_loopw [12, 3] (fun i l wr => ∃ j : Nat, j ≤ n ∧ i = .int .i64 j ∧ l = .int .i64 (lst P Z j) ∧ Hid (rfFrom P Z n 0 = rfFrom P Z (n - j) j) ∧ Below w.heap.size w wr) (fun i _ _ => n - (intOf i).toNat)
  case atStart => exact ⟨0, Nat.zero_le _, rfl, rfl, rfl, Below.refl _ _⟩
  case round =>
    obtain ⟨j, hj, rfl, rfl, hq, g⟩ := hrel
    by_cases hlt : j < n
    · obtain ⟨e0, e1, _⟩ := (HR.out.below g (Nat.le_refl _)).at_ j hlt
      have hjn : (j : Int) < (n : Int) := by omega
      have hnj : n - j = n - (j + 1) + 1 := by omega
      have hzj := hz j hlt
      go_wp2_with fail
      refine (runFault_any (P j) (A j) (Z j).length (C j) (lst P Z j) _ hzj).mono ?_
      rintro e w' ⟨rfl, g'⟩
      have y0 : w'.cell? ⟨wr.heap.size, 0, none⟩ = some (.int .i64 (P j)) := (g'.cell (p := ⟨wr.heap.size, 0, none⟩) (by simp)).trans (by simp [go_sem])
      have y1 : w'.cell? ⟨wr.heap.size, 1, none⟩ = some (.slice (A j) (Z j).length (C j)) := (g'.cell (p := ⟨wr.heap.size, 1, none⟩) (by simp)).trans (by simp [go_sem])
      have g : Below w.heap.size w w' := (g.alloc g.size _).trans (g'.mono (by have := g.size; simp; omega))
      clear g' e0 e1
      by_cases hq0 : runQ (P j) (Z j).length (lst P Z j) = 0
      · have hq1 : Hid (rfFrom P Z n 0 = rfFrom P Z (n - (j + 1)) (j + 1)) := by show _ = _; rw [hq.out, hnj]; simp only [rfFrom]; rw [if_pos hq0]
        have hz0 := runQ_zero hq0
        have HL : Hid (lst P Z (j + 1) = P j + (Z j).length + 1) := rfl
        obtain ⟨z1, z2, z3, z4⟩ := hz0
        rw [hq0]
        clear hq0 hq
        go_wp2_with fail
        go_roundw
        case rel => exact ⟨j + 1, by omega, by go_num, by rw [HL.out], hq1, g⟩
        case measure => simp [intOf]; omega
      · have hq1 : Hid (rfFrom P Z n 0 = runQ (P j) (Z j).length (lst P Z j)) := by show _ = _; rw [hq.out, hnj]; simp only [rfFrom]; rw [if_neg hq0]
        obtain ⟨q, hqq⟩ : ∃ q, q = runQ (P j) (Z j).length (lst P Z j) := ⟨_, rfl⟩
        have dq : (q != 0) = true := by rw [hqq]; simpa using hq0
        rw [← hqq] at hq1 ⊢
        clear hqq hq0 hq
        go_wp2_with fail
        go_ret
        exact ⟨by rw [HQ.out, hq1.out]; rfl, g⟩
    · have e : j = n := by omega
      subst e
      have hq1 : Hid (rfFrom P Z j 0 = 0) := by show _ = _; rw [hq.out, Nat.sub_self]; rfl
      clear hq
      go_wp2_with fail
      go_ret
      exact ⟨by rw [HQ.out, hq1.out]; rfl, g⟩

set_option maxHeartbeats 1000000 in
theorem l3Fault_any (a : Option Addr) (n c : Nat) (P : Nat → Int) (A : Nat → Option Addr) (C : Nat → Nat) (Z : Nat → List Int) (w : World) (hm : n ≤ 1048576) (hz : ∀ i, i < n → (Z i).length ≤ 1048576) (hr : RunsRead w a n P A C Z) :
    Calls Try.prog 127 #[.slice a n c] w fun e w' => e = .returned (.int .i64 (rfQ n P Z)) ∧ ∃ q, w' = w.drewN q := by
  by_cases h64 : n > 64
  · have HQ : Hid (rfQ n P Z = 2) := by show _ = _; unfold rfQ; rw [if_pos h64]
    have d : (64 : Int) < (n : Int) := by omega
    go_enter Try.func127, Try.ntmps127
    go_wp2_with fail
    go_ret
    exact ⟨by rw [HQ.out]; rfl, 0, rfl⟩
  have HQ : Hid (rfQ n P Z = rfFrom P Z n 0) := by show _ = _; unfold rfQ; rw [if_neg h64]
  have d : ¬ ((64 : Int) < (n : Int)) := by omega
  by_cases h0 : n = 0
  · subst h0
    go_enter Try.func127, Try.ntmps127
    go_wp2_with fail
    go_rounds 1
    go_ret
    exact ⟨by rw [HQ.out]; rfl, 0, rfl⟩
  have HR : Hid (RunsRead w a n P A C Z) := hr
  rcases hr with hr | ⟨b, off, rfl, hc⟩
  · exact absurd hr h0
  clear hc
  go_enter Try.func127, Try.ntmps127
  go_wp2_with fail
  go_loopw [3] (fun i wr => ∃ j q : Nat, j ≤ n ∧ i = .int .i64 j ∧ Hid (rfFrom P Z n 0 = rfFrom P Z (n - j) j) ∧ Hid (0 < j → runQ (P (j - 1)) (Z (j - 1)).length (lst P Z (j - 1)) = 0) ∧ wr = w.drewN q) (fun i _ => n - (intOf i).toNat)
  case atStart => exact ⟨0, 0, Nat.zero_le _, rfl, rfl, fun h => absurd h (Nat.not_lt_zero _), rfl⟩
  case round =>
    obtain ⟨j, q, hj, rfl, hq, hp, rfl⟩ := hrel
    by_cases hlt : j < n
    · obtain ⟨e0, e1, _⟩ := HR.out.at_ j hlt
      have hjn : (j : Int) < (n : Int) := by omega
      have hnj : n - j = n - (j + 1) + 1 := by omega
      have hzj := hz j hlt
      obtain ⟨m, hmm⟩ : ∃ m, m = (Z j).length := ⟨_, rfl⟩
      obtain ⟨p, hpp⟩ : ∃ p, p = P j := ⟨_, rfl⟩
      have HV : Hid (runQ (P j) (Z j).length (lst P Z j) = runQ p m (lst P Z j)) := by show _ = _; rw [hmm, hpp]
      rw [← hmm] at e1 hzj
      rw [← hpp] at e0
      cases h1 : inR p 0 63
      · have hq1 : Hid (rfFrom P Z n 0 = 3) := by
          show _ = _
          have : runQ p m (lst P Z j) = 3 := by unfold runQ; rw [h1]; rfl
          rw [hq.out, hnj]; simp only [rfFrom]; rw [HV.out, this, if_neg (by decide)]
        clear hq hp HV hmm hpp
        go_wp2_with fail
        refine (l1In_any p 0 63 _).mono ?_
        rintro e w' ⟨rfl, rfl⟩
        rw [h1]
        clear h1
        go_wp2_with fail
        go_ret
        exact ⟨by rw [HQ.out, hq1.out]; rfl, q, rfl⟩
      · cases h2 : inR m 1 64
        · have hq1 : Hid (rfFrom P Z n 0 = 3) := by
            show _ = _
            have : runQ p m (lst P Z j) = 3 := by unfold runQ; rw [h1, h2]; rfl
            rw [hq.out, hnj]; simp only [rfFrom]; rw [HV.out, this, if_neg (by decide)]
          clear hq hp HV hmm hpp
          go_wp2_with fail
          refine (l1In_any p 0 63 _).mono ?_
          rintro e w' ⟨rfl, rfl⟩
          rw [h1]
          clear h1
          go_wp2_with fail
          refine (l1In_any m 1 64 _).mono ?_
          rintro e w' ⟨rfl, rfl⟩
          rw [h2]
          clear h2
          go_wp2_with fail
          go_ret
          exact ⟨by rw [HQ.out, hq1.out]; rfl, q, rfl⟩
        have b1 : 0 ≤ p ∧ p ≤ 63 := by simpa [inR] using h1
        have b2 : 1 ≤ m ∧ m ≤ 64 := by simp [inR] at h2; omega
        obtain ⟨b11, b12⟩ := b1
        obtain ⟨b21, b22⟩ := b2
        by_cases h3 : p + m > 64
        · have hq1 : Hid (rfFrom P Z n 0 = 3) := by
            show _ = _
            have : runQ p m (lst P Z j) = 3 := by unfold runQ; rw [h1, h2, if_pos h3]; rfl
            rw [hq.out, hnj]; simp only [rfFrom]; rw [HV.out, this, if_neg (by decide)]
          have d3 : (64 : Int) < p + m := h3
          clear hq hp HV hmm hpp h3
          go_wp2_with fail
          refine (l1In_any p 0 63 _).mono ?_
          rintro e w' ⟨rfl, rfl⟩
          rw [h1]
          clear h1
          go_wp2_with fail
          refine (l1In_any m 1 64 _).mono ?_
          rintro e w' ⟨rfl, rfl⟩
          rw [h2]
          clear h2
          go_wp2_with fail
          go_ret
          exact ⟨by rw [HQ.out, hq1.out]; rfl, q, rfl⟩
        have HV2 : Hid (runQ p m (lst P Z j) = if p < lst P Z j then 1 else 0) := by show _ = _; unfold runQ; rw [h1, h2, if_neg h3]; rfl
        have d3 : ¬ ((64 : Int) < p + m) := h3
        clear h3
        by_cases hj0 : j = 0
        · subst hj0
          rw [Nat.zero_mul, Nat.add_zero] at e0 e1
          have hz1 : runQ p m (lst P Z 0) = 0 := by rw [HV2.out, if_neg (by simp only [lst]; omega)]
          have hq1 : Hid (rfFrom P Z n 0 = rfFrom P Z (n - (0 + 1)) (0 + 1)) := by show _ = _; rw [hq.out, hnj]; simp only [rfFrom]; rw [HV.out, if_pos hz1]
          have hp1 : Hid (0 < 0 + 1 → runQ (P (0 + 1 - 1)) (Z (0 + 1 - 1)).length (lst P Z (0 + 1 - 1)) = 0) := fun _ => HV.out.trans hz1
          clear hq hp HV HV2 hmm hpp hz1
          go_wp2_with fail
          refine (l1In_any p 0 63 _).mono ?_
          rintro e w' ⟨rfl, rfl⟩
          rw [h1]
          clear h1
          go_wp2_with fail
          refine (l1In_any m 1 64 _).mono ?_
          rintro e w' ⟨rfl, rfl⟩
          rw [h2]
          clear h2
          go_wp2_with fail
          go_quiet (fail)
          go_wp2_with fail
          go_roundw
          case rel => exact ⟨0 + 1, _, by omega, by go_num, hq1, hp1, rfl⟩
          case measure => simp [intOf]; omega
        · obtain ⟨k, rfl⟩ : ∃ k, j = k + 1 := ⟨j - 1, by omega⟩
          obtain ⟨y0, y1, _⟩ := HR.out.at_ k (by omega)
          have hpz := runQ_zero (hp.out (by omega))
          simp only [Nat.add_sub_cancel] at hpz
          obtain ⟨v1, v2, v3, v4⟩ := hpz
          have hL : lst P Z (k + 1) = P k + (Z k).length + 1 := rfl
          have hkp : (0 : Int) < ((k + 1 : Nat) : Int) := by omega
          have hkn : k < n := by omega
          obtain ⟨p', hp'⟩ : ∃ p', p' = P k := ⟨_, rfl⟩
          obtain ⟨m', hm'⟩ : ∃ m', m' = (Z k).length := ⟨_, rfl⟩
          rw [← hp'] at y0 v1 v3 hL
          rw [← hm'] at y1 v2 v3 hL
          by_cases h4 : p ≤ p' + m'
          · have hz1 : runQ p m (lst P Z (k + 1)) = 1 := by rw [HV2.out, if_pos (by rw [hL]; omega)]
            have hq1 : Hid (rfFrom P Z n 0 = 1) := by show _ = _; rw [hq.out, hnj]; simp only [rfFrom]; rw [HV.out, hz1, if_neg (by decide)]
            clear hq hp HV HV2 hmm hpp hz1 hL hp' hm' v4
            go_wp2_with fail
            refine (l1In_any p 0 63 _).mono ?_
            rintro e w' ⟨rfl, rfl⟩
            rw [h1]
            clear h1
            go_wp2_with fail
            refine (l1In_any m 1 64 _).mono ?_
            rintro e w' ⟨rfl, rfl⟩
            rw [h2]
            clear h2
            go_wp2_with fail
            go_quiet (fail)
            go_wp2_with fail
            go_ret
            exact ⟨by rw [HQ.out, hq1.out]; rfl, q + nq, World.drewN_drewN _ _ _⟩
          · have hz1 : runQ p m (lst P Z (k + 1)) = 0 := by rw [HV2.out, if_neg (by rw [hL]; omega)]
            have hq1 : Hid (rfFrom P Z n 0 = rfFrom P Z (n - (k + 1 + 1)) (k + 1 + 1)) := by show _ = _; rw [hq.out, hnj]; simp only [rfFrom]; rw [HV.out, if_pos hz1]
            have hp1 : Hid (0 < k + 1 + 1 → runQ (P (k + 1 + 1 - 1)) (Z (k + 1 + 1 - 1)).length (lst P Z (k + 1 + 1 - 1)) = 0) := fun _ => HV.out.trans hz1
            clear hq hp HV HV2 hmm hpp hz1 hL hp' hm' v4
            go_wp2_with fail
            refine (l1In_any p 0 63 _).mono ?_
            rintro e w' ⟨rfl, rfl⟩
            rw [h1]
            clear h1
            go_wp2_with fail
            refine (l1In_any m 1 64 _).mono ?_
            rintro e w' ⟨rfl, rfl⟩
            rw [h2]
            clear h2
            go_wp2_with fail
            go_quiet (fail)
            go_wp2_with fail
            go_roundw
            case rel => exact ⟨k + 1 + 1, _, by omega, by go_num, hq1, hp1, rfl⟩
            case measure => simp [intOf]; omega
    · have e : j = n := by omega
      subst e
      have hq1 : Hid (rfFrom P Z j 0 = 0) := by show _ = _; rw [hq.out, Nat.sub_self]; rfl
      clear hq
      go_wp2_with fail
      go_ret
      exact ⟨by rw [HQ.out, hq1.out]; rfl, q, rfl⟩

end Go.Proofs.Yteebbaleejbodaa
