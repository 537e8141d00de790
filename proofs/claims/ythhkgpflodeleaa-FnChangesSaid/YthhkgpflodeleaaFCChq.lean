/-
  Changes alone: their codes and keys (plain facts).
-/
import Derived.Test.YthhkgpflodeleaaFCChw
import Derived.BigQuiet

namespace Go.Proofs.Ythhkgpflodeleaa
open Go.RowKit
set_option linter.unusedVariables false

def chQ (c : Chg) : Int := if (!c.was && !c.is || c.was && c.is && (!(decide (c.b.t = c.a.t) && decide (c.b.k = c.a.k)))) = true then 1 else if c.was = true ∧ rwF c.b ≠ 0 then rwF c.b else if c.is = true then rwF c.a else 0
def kT (c : Chg) : Int := if c.is = true then c.a.t else c.b.t
def kK (c : Chg) : Int := if c.is = true then c.a.k else c.b.k
theorem chQ_zero {c : Chg} (h : chQ c = 0) : (c.was = true ∨ c.is = true) ∧ (c.was = true → c.is = true → c.b.t = c.a.t ∧ c.b.k = c.a.k) ∧ (c.was = true → rwF c.b = 0) ∧ (c.is = true → rwF c.a = 0) := by
  unfold chQ at h
  split at h
  · exact absurd h (by decide)
  · rename_i h1
    split at h
    · rename_i h2; exact absurd h h2.2
    · rename_i h2
      have h3 : ¬ ((!c.was && !c.is || c.was && c.is && (!(decide (c.b.t = c.a.t) && decide (c.b.k = c.a.k)))) = true) := h1
      refine ⟨?_, ?_, ?_, ?_⟩
      · cases hw : c.was <;> cases hi : c.is <;> simp [hw, hi] at h3 ⊢
      · intro hw hi
        simp [hw, hi] at h3
        exact h3
      · intro hw
        by_cases e : rwF c.b = 0
        · exact e
        · exact absurd ⟨hw, e⟩ h2
      · intro hi
        rw [if_pos hi] at h
        exact h
theorem rwF_zero {r : Rw} (h : rwF r = 0) : (0 ≤ r.t ∧ r.t ≤ 3) ∧ (1 ≤ r.k ∧ r.k ≤ 99) := by
  unfold rwF faultI at h
  split at h
  · rename_i hb
    simp only [rngB, inW, Bool.and_eq_true, decide_eq_true_eq] at hb
    omega
  · exact absurd h (by decide)
def alQ (c : Chg) : Int := if chQ c = 0 then (if nthB c = true then 1 else 0) else chQ c
theorem alQ_zero {c : Chg} (h : alQ c = 0) : chQ c = 0 ∧ nthB c = false := by
  unfold alQ at h
  split at h
  · next h0 =>
    refine ⟨h0, ?_⟩
    split at h
    · cases h
    · next h1 => simpa using h1
  · next h0 => exact absurd h h0
theorem alQ_key {c : Chg} (h : alQ c = 0) : (0 ≤ kT c ∧ kT c ≤ 3) ∧ (1 ≤ kK c ∧ kK c ≤ 99) := by
  obtain ⟨h1, h2, h3, h4⟩ := chQ_zero (alQ_zero h).1
  unfold kT kK
  by_cases hi : c.is = true
  · rw [if_pos hi, if_pos hi]; exact rwF_zero (h4 hi)
  · rw [if_neg hi, if_neg hi]
    exact rwF_zero (h3 (h1.resolve_right hi))
set_option maxHeartbeats 400000 in
theorem keyOf_any (t k v : Int) (st : ByteArray) (w : World) :
    Calls Try.prog 36 #[.agg #[.int .i64 t, .int .i64 k, .int .i64 v, .string st]] w fun e w' => e = .returned (.agg #[.int .i64 t, .int .i64 k]) ∧ Below w.heap.size w w' := by
  go_enter Try.func36, Try.ntmps36
  go_wp2
  go_returns
  exact ⟨rfl, by go_grown⟩


end Go.Proofs.Ythhkgpflodeleaa

/-
  The model's l6Key.
-/
namespace Go.Proofs.Ythhkgpflodeleaa
open Go.RowKit Go.Maps
set_option linter.unusedVariables false

theorem ChC.before {w : World} {b o : Nat} {x : Chg} (h : ChC w b o x) : RowC w b (o + 1) x.b := ⟨h.c1, h.c2, h.c3, h.c4⟩
theorem ChC.after {w : World} {b o : Nat} {x : Chg} (h : ChC w b o x) : RowC w b (o + 6) x.a := ⟨h.c6, h.c7, h.c8, h.c9⟩
theorem ChC.drews {w : World} {b o : Nat} {x : Chg} (h : ChC w b o x) (n : Nat) : ChC (w.drewN n) b o x := ⟨h.c0, h.c1, h.c2, h.c3, h.c4, h.c5, h.c6, h.c7, h.c8, h.c9⟩

set_option maxHeartbeats 1000000 in
theorem l6Key_any (b o : Nat) (x : Chg) (w : World) (h : ChC w b o x) :
    Calls Try.prog 51 #[.pointer (some ⟨b, o, none⟩)] w fun e w' => e = .returned (.tuple #[.int .i64 (kT x), .int .i64 (kK x)]) ∧ ∃ m, w' = w.drewN m := by
  obtain ⟨x0, ⟨bt, bk, bv, bs⟩, x5, ⟨at', ak, av, sa⟩⟩ := x
  obtain ⟨c0, c1, c2, c3, c4, c5, c6, c7, c8, c9⟩ := h
  dsimp only at c0 c1 c2 c3 c4 c5 c6 c7 c8 c9
  cases x5
  · go_enter Try.func51, Try.ntmps51
    go_upto_region 3 with (fail)
    go_quiet (fail)
    go_wp2_with fail
    refine bodyPost_ret (v := .tuple #[.int .i64 bt, .int .i64 bk]) (by simp [results, Try.results51, go_sem]) rfl ?_
    exact ⟨rfl, _, rfl⟩
  · go_enter Try.func51, Try.ntmps51
    go_upto_region 2 with (fail)
    go_quiet (fail)
    go_wp2_with fail
    refine bodyPost_ret (v := .tuple #[.int .i64 at', .int .i64 ak]) (by simp [results, Try.results51, go_sem]) rfl ?_
    exact ⟨rfl, _, rfl⟩

end Go.Proofs.Ythhkgpflodeleaa

/-
  The model's l6Change.
-/
namespace Go.Proofs.Ythhkgpflodeleaa
open Go.RowKit Go.Maps
set_option linter.unusedVariables false

set_option maxRecDepth 20000 in
set_option maxHeartbeats 4000000 in
theorem l6Change_any (b o : Nat) (x : Chg) (w : World) (h : ChC w b o x) (hb : x.b.s.size ≤ maxLen) (ha : x.a.s.size ≤ maxLen) :
    Calls Try.prog 32 #[.pointer (some ⟨b, o, none⟩)] w fun e w' => e = .returned (.int .i64 (chQ x)) ∧ ∃ m, w' = w.drewN m := by
  have HF1 : Hid (∀ m, Calls Try.prog 39 #[.pointer (some ⟨b, o + 1, none⟩)] (w.drewN m) fun e w' => e = .returned (.int .i64 (rwF x.b)) ∧ w' = w.drewN m) := fun m => l1FaultO_any b (o + 1) x.b.t x.b.k x.b.v x.b.s (w.drewN m) (h.before.drews m) hb
  have HF2 : Hid (∀ m, Calls Try.prog 39 #[.pointer (some ⟨b, o + 6, none⟩)] (w.drewN m) fun e w' => e = .returned (.int .i64 (rwF x.a)) ∧ w' = w.drewN m) := fun m => l1FaultO_any b (o + 6) x.a.t x.a.k x.a.v x.a.s (w.drewN m) (h.after.drews m) ha
  obtain ⟨q1, hq1⟩ : ∃ q, q = rwF x.b := ⟨_, rfl⟩
  obtain ⟨q2, hq2⟩ : ∃ q, q = rwF x.a := ⟨_, rfl⟩
  have HQ1 : Hid (rwF x.b = q1) := hq1.symm
  have HQ2 : Hid (rwF x.a = q2) := hq2.symm
  rw [← hq1] at HF1
  rw [← hq2] at HF2
  clear hq1 hq2 hb ha
  obtain ⟨x0, ⟨bt, bk, bv, bs⟩, x5, ⟨at', ak, av, sa⟩⟩ := x
  obtain ⟨c0, c1, c2, c3, c4, c5, c6, c7, c8, c9⟩ := h
  dsimp only at c0 c1 c2 c3 c4 c5 c6 c7 c8 c9 HQ1 HQ2
  cases x0
  · cases x5
    · have HE : Hid (chQ ⟨false, ⟨bt, bk, bv, bs⟩, false, ⟨at', ak, av, sa⟩⟩ = 1) := by show _ = _; simp [chQ]
      go_enter Try.func32, Try.ntmps32
      go_upto_region 1 with (fail)
      go_quiet (fail)
      have hw : ∃ m, w.drewN nq = w.drewN m := ⟨nq, rfl⟩
      go_wp2_with fail
      go_ret
      exact ⟨by rw [HE.out]; rfl, hw⟩
    · have HE : Hid (chQ ⟨false, ⟨bt, bk, bv, bs⟩, true, ⟨at', ak, av, sa⟩⟩ = q2) := by show _ = _; rw [← HQ2.out]; simp [chQ]
      go_enter Try.func32, Try.ntmps32
      go_upto_region 1 with (fail)
      go_quiet (fail)
      have hw : ∃ m, w.drewN nq = w.drewN m := ⟨nq, rfl⟩
      go_wp2_with (go_at_call 39; refine (HF2.out _).mono ?_; rintro e w' ⟨rfl, rfl⟩)
      go_ret
      exact ⟨by rw [HE.out]; rfl, hw⟩
  · cases x5
    · by_cases hq : q1 = 0
      · have HE : Hid (chQ ⟨true, ⟨bt, bk, bv, bs⟩, false, ⟨at', ak, av, sa⟩⟩ = 0) := by show _ = _; simp [chQ, HQ1.out, hq]
        subst hq
        go_enter Try.func32, Try.ntmps32
        go_upto_region 1 with (fail)
        go_quiet (fail)
        have hw : ∃ m, w.drewN nq = w.drewN m := ⟨nq, rfl⟩
        go_wp2_with (go_at_call 39; refine (HF1.out _).mono ?_; rintro e w' ⟨rfl, rfl⟩)
        go_ret
        exact ⟨by rw [HE.out]; rfl, hw⟩
      · have HE : Hid (chQ ⟨true, ⟨bt, bk, bv, bs⟩, false, ⟨at', ak, av, sa⟩⟩ = q1) := by show _ = _; simp [chQ, HQ1.out, hq]
        have d : (q1 != 0) = true := by simpa using hq
        go_enter Try.func32, Try.ntmps32
        go_upto_region 1 with (fail)
        go_quiet (fail)
        have hw : ∃ m, w.drewN nq = w.drewN m := ⟨nq, rfl⟩
        go_wp2_with (go_at_call 39; refine (HF1.out _).mono ?_; rintro e w' ⟨rfl, rfl⟩)
        go_ret
        exact ⟨by rw [HE.out]; rfl, hw⟩
    · by_cases ht : bt = at'
      · subst ht
        by_cases hk : bk = ak
        · subst hk
          by_cases hq : q1 = 0
          · have HE : Hid (chQ ⟨true, ⟨bt, bk, bv, bs⟩, true, ⟨bt, bk, av, sa⟩⟩ = q2) := by show _ = _; simp [chQ, HQ1.out, hq, HQ2.out]
            subst hq
            go_enter Try.func32, Try.ntmps32
            go_upto_region 1 with (fail)
            go_quiet (fail)
            have hw : ∃ m, w.drewN nq = w.drewN m := ⟨nq, rfl⟩
            go_upto_region 7 with (go_at_call 39; refine (HF1.out _).mono ?_; rintro e w' ⟨rfl, rfl⟩)
            go_wp2_with (go_at_call 39; refine (HF2.out _).mono ?_; rintro e w' ⟨rfl, rfl⟩)
            go_ret
            exact ⟨by rw [HE.out]; rfl, hw⟩
          · have HE : Hid (chQ ⟨true, ⟨bt, bk, bv, bs⟩, true, ⟨bt, bk, av, sa⟩⟩ = q1) := by show _ = _; simp [chQ, HQ1.out, hq]
            have d : (q1 != 0) = true := by simpa using hq
            go_enter Try.func32, Try.ntmps32
            go_upto_region 1 with (fail)
            go_quiet (fail)
            have hw : ∃ m, w.drewN nq = w.drewN m := ⟨nq, rfl⟩
            go_wp2_with (go_at_call 39; refine (HF1.out _).mono ?_; rintro e w' ⟨rfl, rfl⟩)
            go_ret
            exact ⟨by rw [HE.out]; rfl, hw⟩
        · have HE : Hid (chQ ⟨true, ⟨bt, bk, bv, bs⟩, true, ⟨bt, ak, av, sa⟩⟩ = 1) := by show _ = _; simp [chQ, hk]
          have d : (bk != ak) = true := by simpa using hk
          go_enter Try.func32, Try.ntmps32
          go_upto_region 1 with (fail)
          go_quiet (fail)
          have hw : ∃ m, w.drewN nq = w.drewN m := ⟨nq, rfl⟩
          go_wp2_with fail
          go_ret
          exact ⟨by rw [HE.out]; rfl, hw⟩
      · have HE : Hid (chQ ⟨true, ⟨bt, bk, bv, bs⟩, true, ⟨at', ak, av, sa⟩⟩ = 1) := by show _ = _; simp [chQ, ht]
        have d : (bt != at') = true := by simpa using ht
        go_enter Try.func32, Try.ntmps32
        go_upto_region 1 with (fail)
        go_quiet (fail)
        have hw : ∃ m, w.drewN nq = w.drewN m := ⟨nq, rfl⟩
        go_wp2_with fail
        go_ret
        exact ⟨by rw [HE.out]; rfl, hw⟩

end Go.Proofs.Ythhkgpflodeleaa
