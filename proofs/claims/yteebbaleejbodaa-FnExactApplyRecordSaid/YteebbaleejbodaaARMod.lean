/-
  The contracts of the model's l2Count, l2Low, l2Place, l2Size, l2Slot, l2Apart: they read a page and leave all as it is.
-/
import Derived.Test.YteebbaleejbodaaARCom

namespace Go.Proofs.Yteebbaleejbodaa
open Go.RowKit
set_option linter.unusedVariables false

theorem Reads.page {w : World} {a : Option Addr} {zs : List Int} (hr : Reads w a zs) (h : IsPg zs) : ∃ b off, a = some ⟨b, off, none⟩ ∧ ∀ i, i < 64 → w.cell? ⟨b, off + i, none⟩ = some (.int .u8 (nb zs i)) := by
  rcases hr with hr | ⟨b, off, ha, hc⟩
  · have := h.len; rw [hr] at this; simp at this
  · exact ⟨b, off, ha, fun i hi => by rw [hc i (by rw [h.len]; exact hi)]; exact congrArg (fun z => some (Value.int .u8 z)) (nb_byt h i)⟩

set_option maxHeartbeats 400000 in
theorem l2Count_any (a : Option Addr) (zs : List Int) (c : Nat) (w : World) (hr : Reads w a zs) (h : IsPg zs) :
    Calls Try.prog 155 #[.slice a 64 c] w fun e w' => e = .returned (.int .i64 (nb zs 0)) ∧ w' = w := by
  obtain ⟨b, off, rfl, hc⟩ := hr.page h
  have c0 := hc 0 (by omega)
  have b0 := nb_lt h 0
  rw [Nat.add_zero] at c0
  clear hc
  go_enter Try.func155, Try.ntmps155
  go_wp2_with fail
  go_ret
  exact ⟨rfl, rfl⟩

set_option maxHeartbeats 400000 in
theorem l2Low_any (a : Option Addr) (zs : List Int) (c : Nat) (w : World) (hr : Reads w a zs) (h : IsPg zs) :
    Calls Try.prog 174 #[.slice a 64 c] w fun e w' => e = .returned (.int .i64 (nb zs 1)) ∧ w' = w := by
  obtain ⟨b, off, rfl, hc⟩ := hr.page h
  have c0 := hc 1 (by omega)
  have b0 := nb_lt h 1
  clear hc
  go_enter Try.func174, Try.ntmps174
  go_wp2_with fail
  go_ret
  exact ⟨rfl, rfl⟩

set_option maxHeartbeats 400000 in
theorem l2Place_any (a : Option Addr) (zs : List Int) (c s : Nat) (w : World) (hr : Reads w a zs) (h : IsPg zs) (hs : s < 31) :
    Calls Try.prog 178 #[.slice a 64 c, .int .i64 s] w fun e w' => e = .returned (.int .i64 (nb zs (2 + 2 * s))) ∧ w' = w := by
  obtain ⟨b, off, rfl, hc⟩ := hr.page h
  have c0 := hc (2 + 2 * s) (by omega)
  have b0 := nb_lt h (2 + 2 * s)
  have i0 : (2 : Int) + 2 * (s : Int) < 64 := by omega
  have e0 : ((2 : Int) + 2 * (s : Int)).toNat = 2 + 2 * s := by omega
  clear hc
  go_enter Try.func178, Try.ntmps178
  go_wp2_with fail
  go_ret
  exact ⟨rfl, rfl⟩

set_option maxHeartbeats 400000 in
theorem l2Size_any (a : Option Addr) (zs : List Int) (c s : Nat) (w : World) (hr : Reads w a zs) (h : IsPg zs) (hs : s < 30) :
    Calls Try.prog 156 #[.slice a 64 c, .int .i64 s] w fun e w' => e = .returned (.int .i64 (nb zs (3 + 2 * s))) ∧ w' = w := by
  obtain ⟨b, off, rfl, hc⟩ := hr.page h
  have c0 := hc (3 + 2 * s) (by omega)
  have b0 := nb_lt h (3 + 2 * s)
  have i0 : (3 : Int) + 2 * (s : Int) < 64 := by omega
  have e0 : ((3 : Int) + 2 * (s : Int)).toNat = 3 + 2 * s := by omega
  clear hc
  go_enter Try.func156, Try.ntmps156
  go_wp2_with fail
  go_ret
  exact ⟨rfl, rfl⟩

set_option maxHeartbeats 2000000 in
theorem l2Slot_any (a : Option Addr) (zs : List Int) (c s : Nat) (w : World) (hr : Reads w a zs) (h : IsPg zs) (hs : s < 16) :
    Calls Try.prog 175 #[.slice a 64 c, .int .i64 s] w fun e w' => e = .returned (.bool (!wrgS zs s)) ∧ w' = w := by
  obtain ⟨p, hp⟩ : ∃ p, p = nb zs (2 + 2 * s) := ⟨_, rfl⟩
  obtain ⟨l, hl⟩ : ∃ l, l = nb zs (3 + 2 * s) := ⟨_, rfl⟩
  obtain ⟨m, hm⟩ : ∃ m, m = nb zs 1 := ⟨_, rfl⟩
  have bp := nb_lt h (2 + 2 * s)
  have bl := nb_lt h (3 + 2 * s)
  have bm := nb_lt h 1
  rw [← hp] at bp
  rw [← hl] at bl
  rw [← hm] at bm
  have HW : Hid (wrgS zs s = wrongB m p l) := by show _ = _; rw [hp, hl, hm]; rfl
  have HP : Hid (nb zs (2 + 2 * s) = p) := hp.symm
  have HL : Hid (nb zs (3 + 2 * s) = l) := hl.symm
  have HM : Hid (nb zs 1 = m) := hm.symm
  clear hp hl hm
  go_enter Try.func175, Try.ntmps175
  go_wp2_with fail
  refine (l2Place_any a zs c s _ hr h (by omega)).mono ?_
  rintro e w' ⟨rfl, rfl⟩
  rw [HP.out]
  go_wp2_with fail
  refine (l2Size_any a zs c s _ hr h (by omega)).mono ?_
  rintro e w' ⟨rfl, rfl⟩
  rw [HL.out]
  by_cases p0 : p = 0
  · subst p0
    by_cases l0 : l = 0
    · subst l0
      go_wp2_with fail
      go_ret
      exact ⟨by rw [HW.out]; rfl, rfl⟩
    · have dl : ((0 : Int) == (l : Int)) = false := by simp; omega
      have HV : Hid (wrongB m 0 l = true) := by show _ = _; simp [wrongB, l0]
      clear l0
      go_wp2_with fail
      go_ret
      exact ⟨by rw [HW.out, HV.out]; rfl, rfl⟩
  · have dp : ((p : Int) == 0) = false := by simp; omega
    by_cases l0 : l = 0
    · subst l0
      have HV : Hid (wrongB m p 0 = true) := by show _ = _; simp [wrongB, p0]
      clear p0
      go_wp2_with fail
      go_ret
      exact ⟨by rw [HW.out, HV.out]; rfl, rfl⟩
    · have dl : ((l : Int) == 0) = false := by simp; omega
      have HV : Hid (wrongB m p l = (decide (p < m) || decide (64 < p + l))) := by
        have e1 : (p == 0) = false := beq_eq_false_iff_ne.2 p0
        have e2 : (l == 0) = false := beq_eq_false_iff_ne.2 l0
        show _ = _
        simp [wrongB, e1, e2]
      clear p0 l0
      go_wp2_with fail
      refine (l2Low_any a zs c _ hr h).mono ?_
      rintro e w' ⟨rfl, rfl⟩
      rw [HM.out]
      by_cases c1 : m ≤ p
      · have d1 : decide (m ≤ p) = true := by simpa using c1
        have i1 : (m : Int) ≤ (p : Int) := by omega
        by_cases c2 : p + l ≤ 64
        · have i2 : (p : Int) + (l : Int) ≤ 64 := by omega
          go_wp2_with fail
          go_ret
          exact ⟨by rw [HW.out, HV.out, show decide (p < m) = false by simp; omega, show decide (64 < p + l) = false by simp; omega]; rfl, rfl⟩
        · have d2 : decide ((p : Int) + (l : Int) ≤ 64) = false := by simp; omega
          go_wp2_with fail
          go_ret
          exact ⟨by rw [HW.out, HV.out, show decide (p < m) = false by simp; omega, show decide (64 < p + l) = true by simp; omega]; rfl, rfl⟩
      · have d1 : decide (m ≤ p) = false := by simpa using c1
        have i1 : ¬ (m : Int) ≤ (p : Int) := by omega
        go_wp2_with fail
        go_ret
        exact ⟨by rw [HW.out, HV.out, show decide (p < m) = true by simp; omega]; rfl, rfl⟩

/-- Have the cells of slots i and k no byte in common? -/
def apartB (zs : List Int) (i k : Nat) : Bool := (nb zs (3 + 2 * i) == 0 || nb zs (3 + 2 * k) == 0) || (decide (nb zs (2 + 2 * i) + nb zs (3 + 2 * i) ≤ nb zs (2 + 2 * k)) || decide (nb zs (2 + 2 * k) + nb zs (3 + 2 * k) ≤ nb zs (2 + 2 * i)))

set_option maxHeartbeats 4000000 in
theorem l2Apart_any (a : Option Addr) (zs : List Int) (c i k : Nat) (w : World) (hr : Reads w a zs) (h : IsPg zs) (hi : i < 16) (hk : k < 16) :
    Calls Try.prog 176 #[.slice a 64 c, .int .i64 i, .int .i64 k] w fun e w' => e = .returned (.bool (apartB zs i k)) ∧ w' = w := by
  obtain ⟨p, hp⟩ : ∃ p, p = nb zs (2 + 2 * i) := ⟨_, rfl⟩
  have bp := nb_lt h (2 + 2 * i)
  rw [← hp] at bp
  have Hp : Hid (nb zs (2 + 2 * i) = p) := hp.symm
  obtain ⟨l, hl⟩ : ∃ l, l = nb zs (3 + 2 * i) := ⟨_, rfl⟩
  have bl := nb_lt h (3 + 2 * i)
  rw [← hl] at bl
  have Hl : Hid (nb zs (3 + 2 * i) = l) := hl.symm
  obtain ⟨q, hq⟩ : ∃ q, q = nb zs (2 + 2 * k) := ⟨_, rfl⟩
  have bq := nb_lt h (2 + 2 * k)
  rw [← hq] at bq
  have Hq : Hid (nb zs (2 + 2 * k) = q) := hq.symm
  obtain ⟨m, hm⟩ : ∃ m, m = nb zs (3 + 2 * k) := ⟨_, rfl⟩
  have bm := nb_lt h (3 + 2 * k)
  rw [← hm] at bm
  have Hm : Hid (nb zs (3 + 2 * k) = m) := hm.symm
  have HW : Hid (apartB zs i k = ((l == 0 || m == 0) || (decide (p + l ≤ q) || decide (q + m ≤ p)))) := by show _ = _; rw [hp, hl, hq, hm]; rfl
  clear hp hl hq hm
  go_enter Try.func176, Try.ntmps176
  go_wp2_with fail
  refine (l2Size_any a zs c i _ hr h (by omega)).mono ?_
  rintro e w' ⟨rfl, rfl⟩
  rw [Hl.out]
  by_cases l0 : l = 0
  · subst l0
    go_wp2_with fail
    go_ret
    exact ⟨by rw [HW.out]; rfl, rfl⟩
  have dl : ((l : Int) == 0) = false := by simp; omega
  have el : (l == 0) = false := by simpa using l0
  have HW2 : Hid (apartB zs i k = ((false || m == 0) || (decide (p + l ≤ q) || decide (q + m ≤ p)))) := by show _ = _; rw [HW.out, el]
  clear l0 el HW
  go_wp2_with fail
  refine (l2Size_any a zs c k _ hr h (by omega)).mono ?_
  rintro e w' ⟨rfl, rfl⟩
  rw [Hm.out]
  by_cases m0 : m = 0
  · subst m0
    go_wp2_with fail
    go_ret
    exact ⟨by rw [HW2.out]; rfl, rfl⟩
  have dm : ((m : Int) == 0) = false := by simp; omega
  have em : (m == 0) = false := by simpa using m0
  have HW3 : Hid (apartB zs i k = (decide (p + l ≤ q) || decide (q + m ≤ p))) := by show _ = _; rw [HW2.out, em]; rfl
  clear m0 em HW2
  go_wp2_with fail
  refine (l2Place_any a zs c i _ hr h (by omega)).mono ?_
  rintro e w' ⟨rfl, rfl⟩
  rw [Hp.out]
  go_wp2_with fail
  refine (l2Size_any a zs c i _ hr h (by omega)).mono ?_
  rintro e w' ⟨rfl, rfl⟩
  rw [Hl.out]
  go_wp2_with fail
  refine (l2Place_any a zs c k _ hr h (by omega)).mono ?_
  rintro e w' ⟨rfl, rfl⟩
  rw [Hq.out]
  by_cases c1 : p + l ≤ q
  · have d1 : decide ((p : Int) + (l : Int) ≤ (q : Int)) = true := by simp; omega
    have i1 : (p : Int) + (l : Int) ≤ (q : Int) := by omega
    go_wp2_with fail
    go_ret
    exact ⟨by rw [HW3.out, show decide (p + l ≤ q) = true by simpa using c1]; rfl, rfl⟩
  have d1 : decide ((p : Int) + (l : Int) ≤ (q : Int)) = false := by simp; omega
  have HW4 : Hid (apartB zs i k = decide (q + m ≤ p)) := by show _ = _; rw [HW3.out, show decide (p + l ≤ q) = false by simpa using c1]; rfl
  clear c1 HW3
  go_wp2_with fail
  refine (l2Place_any a zs c k _ hr h (by omega)).mono ?_
  rintro e w' ⟨rfl, rfl⟩
  rw [Hq.out]
  go_wp2_with fail
  refine (l2Size_any a zs c k _ hr h (by omega)).mono ?_
  rintro e w' ⟨rfl, rfl⟩
  rw [Hm.out]
  go_wp2_with fail
  refine (l2Place_any a zs c i _ hr h (by omega)).mono ?_
  rintro e w' ⟨rfl, rfl⟩
  rw [Hp.out]
  by_cases c2 : q + m ≤ p
  · have d2 : decide ((q : Int) + (m : Int) ≤ (p : Int)) = true := by simp; omega
    have i2 : (q : Int) + (m : Int) ≤ (p : Int) := by omega
    go_wp2_with fail
    go_ret
    exact ⟨by rw [HW4.out, show decide (q + m ≤ p) = true by simpa using c2]; rfl, rfl⟩
  have d2 : decide ((q : Int) + (m : Int) ≤ (p : Int)) = false := by simp; omega
  have HW5 : Hid (apartB zs i k = false) := by show _ = _; rw [HW4.out]; simpa using c2
  clear c2 HW4
  go_wp2_with fail
  go_ret
  exact ⟨by rw [HW5.out]; rfl, rfl⟩

theorem used_iff (zs : List Int) (x : Nat) : ∀ k, usedB zs k x = true ↔ ∃ s, s < k ∧ inB zs s x = true
  | 0 => by simp [usedB]
  | k + 1 => by
    rw [usedB, Bool.or_eq_true, used_iff zs x k]
    constructor
    · rintro (⟨s, h1, h2⟩ | h)
      · exact ⟨s, by omega, h2⟩
      · exact ⟨k, by omega, h⟩
    · rintro ⟨s, h1, h2⟩
      by_cases e : s = k
      · exact .inr (by rw [← e]; exact h2)
      · exact .inl ⟨s, by omega, h2⟩
theorem in_iff (zs : List Int) (s x : Nat) : inB zs s x = true ↔ nb zs (2 + 2 * s) ≤ x ∧ x < nb zs (2 + 2 * s) + nb zs (3 + 2 * s) := by simp [inB]
theorem apart_iff (zs : List Int) (i k : Nat) : apartB zs i k = false ↔ nb zs (3 + 2 * i) ≠ 0 ∧ nb zs (3 + 2 * k) ≠ 0 ∧ nb zs (2 + 2 * k) < nb zs (2 + 2 * i) + nb zs (3 + 2 * i) ∧ nb zs (2 + 2 * i) < nb zs (2 + 2 * k) + nb zs (3 + 2 * k) := by
  simp [apartB, and_assoc]

theorem hit_of (zs : List Int) (i k : Nat) (hk : k < i) (hl : nb zs (2 + 2 * i) + nb zs (3 + 2 * i) ≤ 64) (ha : apartB zs i k = false) : hitB zs i = true := by
  obtain ⟨h1, h2, h3, h4⟩ := (apart_iff zs i k).1 ha
  unfold hitB
  rw [List.any_eq_true]
  refine ⟨max (nb zs (2 + 2 * i)) (nb zs (2 + 2 * k)), by simp; omega, ?_⟩
  rw [Bool.and_eq_true]
  exact ⟨(in_iff zs i _).2 (by omega), (used_iff zs _ i).2 ⟨k, hk, (in_iff zs k _).2 (by omega)⟩⟩
theorem not_hit (zs : List Int) (i : Nat) (ha : ∀ k, k < i → apartB zs i k = true) : hitB zs i = false := by
  cases hh : hitB zs i
  · rfl
  · unfold hitB at hh
    rw [List.any_eq_true] at hh
    obtain ⟨x, _, hx⟩ := hh
    rw [Bool.and_eq_true] at hx
    obtain ⟨s, hs, hin⟩ := (used_iff zs x i).1 hx.2
    have h1 := (in_iff zs i x).1 hx.1
    have h2 := (in_iff zs s x).1 hin
    have h3 := (apart_iff zs i s).2 ⟨by omega, by omega, by omega, by omega⟩
    rw [ha s hs] at h3
    cases h3

end Go.Proofs.Yteebbaleejbodaa
