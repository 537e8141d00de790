/-
  The model's l6Key.
-/
import Derived.Test.YtpjlpnaamkbicaaGreatDoorCKChw
import Derived.BigQuiet

namespace Go.Proofs.YtpjlpnaamkbicaaGreatDoor
open Go.RowKit Go.Maps
set_option linter.unusedVariables false

theorem ChC.before {w : World} {b o : Nat} {x : Chg} (h : ChC w b o x) : RowC w b (o + 1) x.b := ⟨h.c1, h.c2, h.c3, h.c4⟩
theorem ChC.after {w : World} {b o : Nat} {x : Chg} (h : ChC w b o x) : RowC w b (o + 6) x.a := ⟨h.c6, h.c7, h.c8, h.c9⟩
theorem ChC.drews {w : World} {b o : Nat} {x : Chg} (h : ChC w b o x) (n : Nat) : ChC (w.drewN n) b o x := ⟨h.c0, h.c1, h.c2, h.c3, h.c4, h.c5, h.c6, h.c7, h.c8, h.c9⟩

set_option maxHeartbeats 1000000 in
theorem l6Key_any (b o : Nat) (x : Chg) (w : World) (h : ChC w b o x) :
    Calls Tryz.prog 106 #[.pointer (some ⟨b, o, none⟩)] w fun e w' => e = .returned (.tuple #[.int .i64 (kT x), .int .i64 (kK x)]) ∧ ∃ m, w' = w.drewN m := by
  obtain ⟨x0, ⟨bt, bk, bv, bs⟩, x5, ⟨at', ak, av, sa⟩⟩ := x
  obtain ⟨c0, c1, c2, c3, c4, c5, c6, c7, c8, c9⟩ := h
  dsimp only at c0 c1 c2 c3 c4 c5 c6 c7 c8 c9
  cases x5
  · go_enter Tryz.func106, Tryz.ntmps106
    go_upto_region 3 with (fail)
    go_quiet (fail)
    go_wp2_with fail
    refine bodyPost_ret (v := .tuple #[.int .i64 bt, .int .i64 bk]) (by simp [results, Tryz.results106, go_sem]) rfl ?_
    exact ⟨rfl, _, rfl⟩
  · go_enter Tryz.func106, Tryz.ntmps106
    go_upto_region 2 with (fail)
    go_quiet (fail)
    go_wp2_with fail
    refine bodyPost_ret (v := .tuple #[.int .i64 at', .int .i64 ak]) (by simp [results, Tryz.results106, go_sem]) rfl ?_
    exact ⟨rfl, _, rfl⟩

end Go.Proofs.YtpjlpnaamkbicaaGreatDoor

/-
  The model's l6Change.
-/
namespace Go.Proofs.YtpjlpnaamkbicaaGreatDoor
open Go.RowKit Go.Maps
set_option linter.unusedVariables false

set_option maxRecDepth 20000 in
set_option maxHeartbeats 4000000 in
theorem l6Change_any (b o : Nat) (x : Chg) (w : World) (h : ChC w b o x) (hb : x.b.s.size ≤ maxLen) (ha : x.a.s.size ≤ maxLen) :
    Calls Tryz.prog 105 #[.pointer (some ⟨b, o, none⟩)] w fun e w' => e = .returned (.int .i64 (chQ x)) ∧ ∃ m, w' = w.drewN m := by
  have HF1 : Hid (∀ m, Calls Tryz.prog 38 #[.pointer (some ⟨b, o + 1, none⟩)] (w.drewN m) fun e w' => e = .returned (.int .i64 (rwF x.b)) ∧ w' = w.drewN m) := fun m => l1FaultO_any b (o + 1) x.b.t x.b.k x.b.v x.b.s (w.drewN m) (h.before.drews m) hb
  have HF2 : Hid (∀ m, Calls Tryz.prog 38 #[.pointer (some ⟨b, o + 6, none⟩)] (w.drewN m) fun e w' => e = .returned (.int .i64 (rwF x.a)) ∧ w' = w.drewN m) := fun m => l1FaultO_any b (o + 6) x.a.t x.a.k x.a.v x.a.s (w.drewN m) (h.after.drews m) ha
  obtain ⟨q1, hq1⟩ : ∃ q, q = rwF x.b := ⟨_, rfl⟩
  obtain ⟨q2, hq2⟩ : ∃ q, q = rwF x.a := ⟨_, rfl⟩
  have HQ1 : Hid (rwF x.b = q1) := hq1.symm
  have HQ2 : Hid (rwF x.a = q2) := hq2.symm
  rw [← hq1] at HF1
  rw [← hq2] at HF2
  clear hq1 hq2 hb ha
  obtain ⟨x0, ⟨bt, bk, bv, bs⟩, x5, ⟨at', ak, av, sa⟩⟩ := x
  obtain ⟨c0, c1, c2, c3, c4, c5, c6, c7, c8, c9⟩ := h
  dsimp only at c0 c1 c2 c3 c4 c5 c6 c7 c8 c9 HQ1 HQ2
  cases x0
  · cases x5
    · have HE : Hid (chQ ⟨false, ⟨bt, bk, bv, bs⟩, false, ⟨at', ak, av, sa⟩⟩ = 1) := by show _ = _; simp [chQ]
      go_enter Tryz.func105, Tryz.ntmps105
      go_upto_region 1 with (fail)
      go_quiet (fail)
      have hw : ∃ m, w.drewN nq = w.drewN m := ⟨nq, rfl⟩
      go_wp2_with fail
      go_ret
      exact ⟨by rw [HE.out]; rfl, hw⟩
    · have HE : Hid (chQ ⟨false, ⟨bt, bk, bv, bs⟩, true, ⟨at', ak, av, sa⟩⟩ = q2) := by show _ = _; rw [← HQ2.out]; simp [chQ]
      go_enter Tryz.func105, Tryz.ntmps105
      go_upto_region 1 with (fail)
      go_quiet (fail)
      have hw : ∃ m, w.drewN nq = w.drewN m := ⟨nq, rfl⟩
      go_wp2_with (go_at_call 38; refine (HF2.out _).mono ?_; rintro e w' ⟨rfl, rfl⟩)
      go_ret
      exact ⟨by rw [HE.out]; rfl, hw⟩
  · cases x5
    · by_cases hq : q1 = 0
      · have HE : Hid (chQ ⟨true, ⟨bt, bk, bv, bs⟩, false, ⟨at', ak, av, sa⟩⟩ = 0) := by show _ = _; simp [chQ, HQ1.out, hq]
        subst hq
        go_enter Tryz.func105, Tryz.ntmps105
        go_upto_region 1 with (fail)
        go_quiet (fail)
        have hw : ∃ m, w.drewN nq = w.drewN m := ⟨nq, rfl⟩
        go_wp2_with (go_at_call 38; refine (HF1.out _).mono ?_; rintro e w' ⟨rfl, rfl⟩)
        go_ret
        exact ⟨by rw [HE.out]; rfl, hw⟩
      · have HE : Hid (chQ ⟨true, ⟨bt, bk, bv, bs⟩, false, ⟨at', ak, av, sa⟩⟩ = q1) := by show _ = _; simp [chQ, HQ1.out, hq]
        have d : (q1 != 0) = true := by simpa using hq
        go_enter Tryz.func105, Tryz.ntmps105
        go_upto_region 1 with (fail)
        go_quiet (fail)
        have hw : ∃ m, w.drewN nq = w.drewN m := ⟨nq, rfl⟩
        go_wp2_with (go_at_call 38; refine (HF1.out _).mono ?_; rintro e w' ⟨rfl, rfl⟩)
        go_ret
        exact ⟨by rw [HE.out]; rfl, hw⟩
    · by_cases ht : bt = at'
      · subst ht
        by_cases hk : bk = ak
        · subst hk
          by_cases hq : q1 = 0
          · have HE : Hid (chQ ⟨true, ⟨bt, bk, bv, bs⟩, true, ⟨bt, bk, av, sa⟩⟩ = q2) := by show _ = _; simp [chQ, HQ1.out, hq, HQ2.out]
            subst hq
            go_enter Tryz.func105, Tryz.ntmps105
            go_upto_region 1 with (fail)
            go_quiet (fail)
            have hw : ∃ m, w.drewN nq = w.drewN m := ⟨nq, rfl⟩
            go_upto_region 7 with (go_at_call 38; refine (HF1.out _).mono ?_; rintro e w' ⟨rfl, rfl⟩)
            go_wp2_with (go_at_call 38; refine (HF2.out _).mono ?_; rintro e w' ⟨rfl, rfl⟩)
            go_ret
            exact ⟨by rw [HE.out]; rfl, hw⟩
          · have HE : Hid (chQ ⟨true, ⟨bt, bk, bv, bs⟩, true, ⟨bt, bk, av, sa⟩⟩ = q1) := by show _ = _; simp [chQ, HQ1.out, hq]
            have d : (q1 != 0) = true := by simpa using hq
            go_enter Tryz.func105, Tryz.ntmps105
            go_upto_region 1 with (fail)
            go_quiet (fail)
            have hw : ∃ m, w.drewN nq = w.drewN m := ⟨nq, rfl⟩
            go_wp2_with (go_at_call 38; refine (HF1.out _).mono ?_; rintro e w' ⟨rfl, rfl⟩)
            go_ret
            exact ⟨by rw [HE.out]; rfl, hw⟩
        · have HE : Hid (chQ ⟨true, ⟨bt, bk, bv, bs⟩, true, ⟨bt, ak, av, sa⟩⟩ = 1) := by show _ = _; simp [chQ, hk]
          have d : (bk != ak) = true := by simpa using hk
          go_enter Tryz.func105, Tryz.ntmps105
          go_upto_region 1 with (fail)
          go_quiet (fail)
          have hw : ∃ m, w.drewN nq = w.drewN m := ⟨nq, rfl⟩
          go_wp2_with fail
          go_ret
          exact ⟨by rw [HE.out]; rfl, hw⟩
      · have HE : Hid (chQ ⟨true, ⟨bt, bk, bv, bs⟩, true, ⟨at', ak, av, sa⟩⟩ = 1) := by show _ = _; simp [chQ, ht]
        have d : (bt != at') = true := by simpa using ht
        go_enter Tryz.func105, Tryz.ntmps105
        go_upto_region 1 with (fail)
        go_quiet (fail)
        have hw : ∃ m, w.drewN nq = w.drewN m := ⟨nq, rfl⟩
        go_wp2_with fail
        go_ret
        exact ⟨by rw [HE.out]; rfl, hw⟩

end Go.Proofs.YtpjlpnaamkbicaaGreatDoor
