/-
  The model's changes alone and in a list: l9Change, l9Ahead, l9List.
-/
import Derived.Test.YtpjlpnaamkbicaaGreatDoorCKChw
import Derived.Test.YtpjlpnaamkbicaaGreatDoorCKLky
import Derived.Test.YtpjlpnaamkbicaaGreatDoorCKChr
import Derived.BigQuiet

namespace Go.Proofs.YtpjlpnaamkbicaaGreatDoor
open Go.RowKit Go.Maps
set_option linter.unusedVariables false
set_option maxRecDepth 20000

theorem below_drewN (B : Nat) (w : World) (m : Nat) : Below B w (w.drewN m) := ⟨rfl, rfl, rfl, Nat.le_refl _, fun _ _ => rfl⟩

set_option maxHeartbeats 4000000 in
theorem l9Change_any (b o : Nat) (x : Chg) (w : World) (h : ChC w b o x) (hb : x.b.s.size ≤ maxLen) (ha : x.a.s.size ≤ maxLen) :
    Calls Tryz.prog 74 #[.pointer (some ⟨b, o, none⟩)] w fun e w' => e = .returned (.int .i64 (alQ x)) ∧ ∃ m, w' = w.drewN m := by
  have HC : Hid (Calls Tryz.prog 105 #[.pointer (some ⟨b, o, none⟩)] w fun e w' => e = .returned (.int .i64 (chQ x)) ∧ ∃ m, w' = w.drewN m) := l6Change_any b o x w h hb ha
  have HE0 : Hid (alQ x = if chQ x = 0 then (if nthB x = true then 1 else 0) else chQ x) := rfl
  have HZ : Hid (chQ x = 0 → x.was = true ∨ x.is = true) := fun h => (chQ_zero h).1
  generalize alQ x = r at HE0 ⊢
  generalize chQ x = q at HE0 HC HZ
  clear hb ha
  by_cases hq : q = 0
  · subst hq
    have HE0 : Hid (r = if nthB x = true then 1 else 0) := by show _ = _; rw [HE0.out, if_pos rfl]
    have HZ := HZ.out rfl
    obtain ⟨x0, ⟨bt, bk, bv, bs⟩, x5, ⟨at', ak, av, sa⟩⟩ := x
    obtain ⟨c0, c1, c2, c3, c4, c5, c6, c7, c8, c9⟩ := h
    dsimp only at c0 c1 c2 c3 c4 c5 c6 c7 c8 c9 HZ
    cases x0
    · cases x5
      · simp at HZ
      · have HE : Hid (r = 0) := by show _ = _; rw [HE0.out]; rfl
        clear HZ HE0
        go_enter Tryz.func74, Tryz.ntmps74
        go_wp2_with fail
        refine HC.out.mono ?_
        rintro e w1 ⟨rfl, m1, rfl⟩
        go_upto_region 4 with (fail)
        go_quiet (fail)
        have hw : ∃ m, (w.drewN m1).drewN nq = w.drewN m := ⟨m1 + nq, World.drewN_drewN _ _ _⟩
        go_wp2_with fail
        go_ret
        exact ⟨by rw [HE.out]; rfl, hw⟩
    · cases x5
      · have HE : Hid (r = 0) := by show _ = _; rw [HE0.out]; rfl
        clear HZ HE0
        go_enter Tryz.func74, Tryz.ntmps74
        go_wp2_with fail
        refine HC.out.mono ?_
        rintro e w1 ⟨rfl, m1, rfl⟩
        go_upto_region 4 with (fail)
        go_quiet (fail)
        have hw : ∃ m, (w.drewN m1).drewN nq = w.drewN m := ⟨m1 + nq, World.drewN_drewN _ _ _⟩
        go_wp2_with fail
        go_ret
        exact ⟨by rw [HE.out]; rfl, hw⟩
      · have e0 : nthB ⟨true, ⟨bt, bk, bv, bs⟩, true, ⟨at', ak, av, sa⟩⟩ = rwEq ⟨bt, bk, bv, bs⟩ ⟨at', ak, av, sa⟩ := rfl
        have HE0 : Hid (r = if rwEq ⟨bt, bk, bv, bs⟩ ⟨at', ak, av, sa⟩ = true then 1 else 0) := by show _ = _; rw [HE0.out, e0]
        clear HZ e0
        by_cases ht : bt = at'
        · subst ht
          by_cases hk : bk = ak
          · subst hk
            by_cases hv : bv = av
            · subst hv
              by_cases hs : bs = sa
              · subst hs
                have HE : Hid (r = 1) := by show _ = _; rw [HE0.out]; simp [rwEq]
                clear HE0
                go_enter Tryz.func74, Tryz.ntmps74
                go_wp2_with fail
                refine HC.out.mono ?_
                rintro e w1 ⟨rfl, m1, rfl⟩
                go_upto_region 4 with (fail)
                go_quiet (fail)
                have hw : ∃ m, (w.drewN m1).drewN nq = w.drewN m := ⟨m1 + nq, World.drewN_drewN _ _ _⟩
                go_wp2_with fail
                go_ret
                exact ⟨by rw [HE.out]; rfl, hw⟩
              · have HE : Hid (r = 0) := by show _ = _; rw [HE0.out]; simp [rwEq, hs]
                have d : ¬ bs.toList = sa.toList := fun h => hs (by rw [ByteArray.toList_eq, ByteArray.toList_eq] at h; exact ByteArray.ext (Array.toList_inj.1 h))
                clear HE0
                go_enter Tryz.func74, Tryz.ntmps74
                go_wp2_with fail
                refine HC.out.mono ?_
                rintro e w1 ⟨rfl, m1, rfl⟩
                go_upto_region 4 with (fail)
                go_quiet (fail)
                have hw : ∃ m, (w.drewN m1).drewN nq = w.drewN m := ⟨m1 + nq, World.drewN_drewN _ _ _⟩
                go_wp2_with fail
                go_ret
                exact ⟨by rw [HE.out]; rfl, hw⟩
            · have HE : Hid (r = 0) := by show _ = _; rw [HE0.out]; simp [rwEq, hv]
              have d : (bv == av) = false := by simpa using hv
              clear HE0
              go_enter Tryz.func74, Tryz.ntmps74
              go_wp2_with fail
              refine HC.out.mono ?_
              rintro e w1 ⟨rfl, m1, rfl⟩
              go_upto_region 4 with (fail)
              go_quiet (fail)
              have hw : ∃ m, (w.drewN m1).drewN nq = w.drewN m := ⟨m1 + nq, World.drewN_drewN _ _ _⟩
              go_wp2_with fail
              go_ret
              exact ⟨by rw [HE.out]; rfl, hw⟩
          · have HE : Hid (r = 0) := by show _ = _; rw [HE0.out]; simp [rwEq, hk]
            have d : (bk == ak) = false := by simpa using hk
            clear HE0
            go_enter Tryz.func74, Tryz.ntmps74
            go_wp2_with fail
            refine HC.out.mono ?_
            rintro e w1 ⟨rfl, m1, rfl⟩
            go_upto_region 4 with (fail)
            go_quiet (fail)
            have hw : ∃ m, (w.drewN m1).drewN nq = w.drewN m := ⟨m1 + nq, World.drewN_drewN _ _ _⟩
            go_wp2_with fail
            go_ret
            exact ⟨by rw [HE.out]; rfl, hw⟩
        · have HE : Hid (r = 0) := by show _ = _; rw [HE0.out]; simp [rwEq, ht]
          have d : (bt == at') = false := by simpa using ht
          clear HE0
          go_enter Tryz.func74, Tryz.ntmps74
          go_wp2_with fail
          refine HC.out.mono ?_
          rintro e w1 ⟨rfl, m1, rfl⟩
          go_upto_region 4 with (fail)
          go_quiet (fail)
          have hw : ∃ m, (w.drewN m1).drewN nq = w.drewN m := ⟨m1 + nq, World.drewN_drewN _ _ _⟩
          go_wp2_with fail
          go_ret
          exact ⟨by rw [HE.out]; rfl, hw⟩
  · have HE : Hid (r = q) := by show _ = _; rw [HE0.out, if_neg hq]
    have d : (q != 0) = true := by simpa using hq
    clear HE0 HZ h
    go_enter Tryz.func74, Tryz.ntmps74
    go_wp2_with fail
    refine HC.out.mono ?_
    rintro e w1 ⟨rfl, m1, rfl⟩
    go_wp2_with fail
    go_ret
    exact ⟨by rw [HE.out]; rfl, m1, rfl⟩

end Go.Proofs.YtpjlpnaamkbicaaGreatDoor
