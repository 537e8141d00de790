/-
  The model's changes alone and in a list: l9Change, l9Ahead, l9List.
-/
import Derived.Test.YtmbllmhpnopbdaaFFFcp
import Derived.Test.YtmbllmhpnopbdaaFFLky
import Derived.Test.YtmbllmhpnopbdaaFFPit
import Derived.BigQuiet

namespace Go.Proofs.Ytmbllmhpnopbdaa
open Go.RowKit Go.Maps
set_option linter.unusedVariables false
set_option maxRecDepth 20000

theorem below_drewN (B : Nat) (w : World) (m : Nat) : Below B w (w.drewN m) := ⟨rfl, rfl, rfl, Nat.le_refl _, fun _ _ => rfl⟩

set_option maxHeartbeats 1000000 in
theorem l9Ahead_any (a oa b ob : Nat) (x y : Chg) (w : World) (hx : ChC w a oa x) (hy : ChC w b ob y) :
    Calls Try.prog 41 #[.pointer (some ⟨a, oa, none⟩), .pointer (some ⟨b, ob, none⟩)] w fun e w' => e = .returned (.bool (kLt x y)) ∧ ∃ m, w' = w.drewN m := by
  have h1 := l6Key_any a oa x w hx
  have H2 : Hid (∀ m, Calls Try.prog 54 #[.pointer (some ⟨b, ob, none⟩)] (w.drewN m) fun e w' => e = .returned (.tuple #[.int .i64 (kT y), .int .i64 (kK y)]) ∧ ∃ m', w' = (w.drewN m).drewN m') := fun m => l6Key_any b ob y _ (hy.drews m)
  have HE : Hid (kLt x y = decide (kT x < kT y ∨ (kT x = kT y ∧ kK x < kK y))) := rfl
  generalize kLt x y = r at HE ⊢
  generalize kT x = t at HE h1
  generalize kK x = k at HE h1
  generalize kT y = u at HE H2
  generalize kK y = l at HE H2
  clear hx hy
  by_cases c1 : t < u
  · have HX : Hid (r = true) := by show _ = _; rw [HE.out]; simp [c1]
    have d1 : decide (t < u) = true := by simpa using c1
    go_enter Try.func41, Try.ntmps41
    go_wp2_with fail
    refine h1.mono ?_
    rintro e w1 ⟨rfl, m1, rfl⟩
    go_wp2_with fail
    refine (H2.out m1).mono ?_
    rintro e w2 ⟨rfl, m2, rfl⟩
    clear h1
    go_wp2_with fail
    go_ret
    exact ⟨by rw [HX.out]; rfl, m1 + m2, rfl⟩
  · have d1 : decide (t < u) = false := by simpa using c1
    by_cases c2 : t = u
    · subst c2
      by_cases c3 : k < l
      · have HX : Hid (r = true) := by show _ = _; rw [HE.out]; simp [c3]
        have d3 : decide (k < l) = true := by simpa using c3
        go_enter Try.func41, Try.ntmps41
        go_wp2_with fail
        refine h1.mono ?_
        rintro e w1 ⟨rfl, m1, rfl⟩
        go_wp2_with fail
        refine (H2.out m1).mono ?_
        rintro e w2 ⟨rfl, m2, rfl⟩
        clear h1
        go_wp2_with fail
        go_ret
        exact ⟨by rw [HX.out]; rfl, m1 + m2, rfl⟩
      · have HX : Hid (r = false) := by show _ = _; rw [HE.out]; simp [c3]
        have d3 : decide (k < l) = false := by simpa using c3
        go_enter Try.func41, Try.ntmps41
        go_wp2_with fail
        refine h1.mono ?_
        rintro e w1 ⟨rfl, m1, rfl⟩
        go_wp2_with fail
        refine (H2.out m1).mono ?_
        rintro e w2 ⟨rfl, m2, rfl⟩
        clear h1
        go_wp2_with fail
        go_ret
        exact ⟨by rw [HX.out]; rfl, m1 + m2, rfl⟩
    · have HX : Hid (r = false) := by show _ = _; rw [HE.out]; simp [c1, c2]
      have d2 : (t == u) = false := by simpa using c2
      go_enter Try.func41, Try.ntmps41
      go_wp2_with fail
      refine h1.mono ?_
      rintro e w1 ⟨rfl, m1, rfl⟩
      go_wp2_with fail
      refine (H2.out m1).mono ?_
      rintro e w2 ⟨rfl, m2, rfl⟩
      clear h1
      go_wp2_with fail
      go_ret
      exact ⟨by rw [HX.out]; rfl, m1 + m2, rfl⟩

/- GEN -/
set_option maxHeartbeats 4000000 in
theorem l9Change_any (b o : Nat) (x : Chg) (w : World) (h : ChC w b o x) (hb : x.b.s.size ≤ maxLen) (ha : x.a.s.size ≤ maxLen) :
    Calls Try.prog 26 #[.pointer (some ⟨b, o, none⟩)] w fun e w' => e = .returned (.int .i64 (alQ x)) ∧ ∃ m, w' = w.drewN m := by
  have HC : Hid (Calls Try.prog 42 #[.pointer (some ⟨b, o, none⟩)] w fun e w' => e = .returned (.int .i64 (chQ x)) ∧ ∃ m, w' = w.drewN m) := l6Change_any b o x w h hb ha
  have HE0 : Hid (alQ x = if chQ x = 0 then (if nthB x = true then 1 else 0) else chQ x) := rfl
  have HZ : Hid (chQ x = 0 → x.was = true ∨ x.is = true) := fun h => (chQ_zero h).1
  generalize alQ x = r at HE0 ⊢
  generalize chQ x = q at HE0 HC HZ
  clear hb ha
  by_cases hq : q = 0
  · subst hq
    have HE0 : Hid (r = if nthB x = true then 1 else 0) := by show _ = _; rw [HE0.out, if_pos rfl]
    have HZ := HZ.out rfl
    obtain ⟨x0, ⟨bt, bk, bv, bs⟩, x5, ⟨at', ak, av, sa⟩⟩ := x
    obtain ⟨c0, c1, c2, c3, c4, c5, c6, c7, c8, c9⟩ := h
    dsimp only at c0 c1 c2 c3 c4 c5 c6 c7 c8 c9 HZ
    cases x0
    · cases x5
      · simp at HZ
      · have HE : Hid (r = 0) := by show _ = _; rw [HE0.out]; rfl
        clear HZ HE0
        go_enter Try.func26, Try.ntmps26
        go_wp2_with fail
        refine HC.out.mono ?_
        rintro e w1 ⟨rfl, m1, rfl⟩
        go_upto_region 4 with (fail)
        go_quiet (fail)
        have hw : ∃ m, (w.drewN m1).drewN nq = w.drewN m := ⟨m1 + nq, World.drewN_drewN _ _ _⟩
        go_wp2_with fail
        go_ret
        exact ⟨by rw [HE.out]; rfl, hw⟩
    · cases x5
      · have HE : Hid (r = 0) := by show _ = _; rw [HE0.out]; rfl
        clear HZ HE0
        go_enter Try.func26, Try.ntmps26
        go_wp2_with fail
        refine HC.out.mono ?_
        rintro e w1 ⟨rfl, m1, rfl⟩
        go_upto_region 4 with (fail)
        go_quiet (fail)
        have hw : ∃ m, (w.drewN m1).drewN nq = w.drewN m := ⟨m1 + nq, World.drewN_drewN _ _ _⟩
        go_wp2_with fail
        go_ret
        exact ⟨by rw [HE.out]; rfl, hw⟩
      · have e0 : nthB ⟨true, ⟨bt, bk, bv, bs⟩, true, ⟨at', ak, av, sa⟩⟩ = rwEq ⟨bt, bk, bv, bs⟩ ⟨at', ak, av, sa⟩ := rfl
        have HE0 : Hid (r = if rwEq ⟨bt, bk, bv, bs⟩ ⟨at', ak, av, sa⟩ = true then 1 else 0) := by show _ = _; rw [HE0.out, e0]
        clear HZ e0
        by_cases ht : bt = at'
        · subst ht
          by_cases hk : bk = ak
          · subst hk
            by_cases hv : bv = av
            · subst hv
              by_cases hs : bs = sa
              · subst hs
                have HE : Hid (r = 1) := by show _ = _; rw [HE0.out]; simp [rwEq]
                clear HE0
                go_enter Try.func26, Try.ntmps26
                go_wp2_with fail
                refine HC.out.mono ?_
                rintro e w1 ⟨rfl, m1, rfl⟩
                go_upto_region 4 with (fail)
                go_quiet (fail)
                have hw : ∃ m, (w.drewN m1).drewN nq = w.drewN m := ⟨m1 + nq, World.drewN_drewN _ _ _⟩
                go_wp2_with fail
                go_ret
                exact ⟨by rw [HE.out]; rfl, hw⟩
              · have HE : Hid (r = 0) := by show _ = _; rw [HE0.out]; simp [rwEq, hs]
                have d : ¬ bs.toList = sa.toList := fun h => hs (by rw [ByteArray.toList_eq, ByteArray.toList_eq] at h; exact ByteArray.ext (Array.toList_inj.1 h))
                clear HE0
                go_enter Try.func26, Try.ntmps26
                go_wp2_with fail
                refine HC.out.mono ?_
                rintro e w1 ⟨rfl, m1, rfl⟩
                go_upto_region 4 with (fail)
                go_quiet (fail)
                have hw : ∃ m, (w.drewN m1).drewN nq = w.drewN m := ⟨m1 + nq, World.drewN_drewN _ _ _⟩
                go_wp2_with fail
                go_ret
                exact ⟨by rw [HE.out]; rfl, hw⟩
            · have HE : Hid (r = 0) := by show _ = _; rw [HE0.out]; simp [rwEq, hv]
              have d : (bv == av) = false := by simpa using hv
              clear HE0
              go_enter Try.func26, Try.ntmps26
              go_wp2_with fail
              refine HC.out.mono ?_
              rintro e w1 ⟨rfl, m1, rfl⟩
              go_upto_region 4 with (fail)
              go_quiet (fail)
              have hw : ∃ m, (w.drewN m1).drewN nq = w.drewN m := ⟨m1 + nq, World.drewN_drewN _ _ _⟩
              go_wp2_with fail
              go_ret
              exact ⟨by rw [HE.out]; rfl, hw⟩
          · have HE : Hid (r = 0) := by show _ = _; rw [HE0.out]; simp [rwEq, hk]
            have d : (bk == ak) = false := by simpa using hk
            clear HE0
            go_enter Try.func26, Try.ntmps26
            go_wp2_with fail
            refine HC.out.mono ?_
            rintro e w1 ⟨rfl, m1, rfl⟩
            go_upto_region 4 with (fail)
            go_quiet (fail)
            have hw : ∃ m, (w.drewN m1).drewN nq = w.drewN m := ⟨m1 + nq, World.drewN_drewN _ _ _⟩
            go_wp2_with fail
            go_ret
            exact ⟨by rw [HE.out]; rfl, hw⟩
        · have HE : Hid (r = 0) := by show _ = _; rw [HE0.out]; simp [rwEq, ht]
          have d : (bt == at') = false := by simpa using ht
          clear HE0
          go_enter Try.func26, Try.ntmps26
          go_wp2_with fail
          refine HC.out.mono ?_
          rintro e w1 ⟨rfl, m1, rfl⟩
          go_upto_region 4 with (fail)
          go_quiet (fail)
          have hw : ∃ m, (w.drewN m1).drewN nq = w.drewN m := ⟨m1 + nq, World.drewN_drewN _ _ _⟩
          go_wp2_with fail
          go_ret
          exact ⟨by rw [HE.out]; rfl, hw⟩
  · have HE : Hid (r = q) := by show _ = _; rw [HE0.out, if_neg hq]
    have d : (q != 0) = true := by simpa using hq
    clear HE0 HZ h
    go_enter Try.func26, Try.ntmps26
    go_wp2_with fail
    refine HC.out.mono ?_
    rintro e w1 ⟨rfl, m1, rfl⟩
    go_wp2_with fail
    go_ret
    exact ⟨by rw [HE.out]; rfl, m1, rfl⟩

set_option maxHeartbeats 4000000 in
theorem l9List_any (a : Option Addr) (cs : List Chg) (n c : Nat) (w : World) (hn : cs.length = n) (hm : n ≤ 9223372036854775807) (hs : ∀ x ∈ cs, x.b.s.size ≤ maxLen ∧ x.a.s.size ≤ maxLen) (hr : Rs chE 10 w a cs) :
    Calls Try.prog 25 #[.slice a n c] w fun e w' => e = .returned (.int .i64 (fdQ cs)) ∧ Below w.heap.size w w' := by
  by_cases h60 : (60 : Int) < n
  · have HQ : Hid (fdQ cs = 2) := by show _ = _; unfold fdQ; rw [if_pos (by omega)]
    go_enter Try.func25, Try.ntmps25
    go_wp2_with fail
    go_ret
    exact ⟨by rw [HQ.out]; rfl, Below.refl _ _⟩
  have HQ : Hid (fdQ cs = flQ none cs) := by show _ = _; unfold fdQ; rw [if_neg (by omega)]
  have HN : Hid (cs.length = n) := hn
  have HR : Hid (Rs chE 10 w a cs) := hr
  have HS : Hid (∀ x ∈ cs, x.b.s.size ≤ maxLen ∧ x.a.s.size ≤ maxLen) := hs
  have d60 : decide ((60 : Int) < n) = false := by simpa using h60
  have hn60 : n ≤ 60 := by omega
  obtain ⟨Q, hQ0⟩ : ∃ Q, fdQ cs = Q := ⟨_, rfl⟩
  have HQ : Hid (flQ none cs = Q) := by show _ = _; rw [← HQ.out, hQ0]
  rw [hQ0]
  clear hn hr hs h60 hQ0
  go_enter Try.func25, Try.ntmps25
  go_wp2_with fail
  go_loopw [3] (fun i wr => ∃ j : Nat, j ≤ n ∧ i = .int .i64 j ∧ Hid (flQ (prv cs j) (cs.drop j) = Q) ∧ Below w.heap.size w wr) (fun i _ => n - (intOf i).toNat)
  case atStart => exact ⟨0, Nat.zero_le _, rfl, HQ.out, Below.refl _ _⟩
  case round =>
    obtain ⟨j, hj, rfl, hq, g⟩ := hrel
    by_cases hlt : j < n
    · obtain ⟨x, hx⟩ : ∃ x, cs[j]? = some x := ⟨_, List.getElem?_eq_getElem (by rw [HN.out]; exact hlt)⟩
      obtain ⟨b, off, rfl⟩ : ∃ b off, a = some ⟨b, off, none⟩ := by
        obtain ⟨b, off, e, _⟩ := HR.out.chg hx
        exact ⟨b, off, e⟩
      have E : ChC wr b (off + j * 10) x := by
        have h1 := HR.out.chgAt hx
        exact h1.below g h1.lt
      obtain ⟨hz1, hz2⟩ := HS.out x (List.mem_of_getElem? hx)
      have hjn : (j : Int) < (n : Int) := by omega
      have hq := flQ_at hx ▸ hq.out
      have HQ1 : Hid ((if alQ x = 0 then (if (prv cs j).all (fun y => kLt y x) = true then flQ (prv cs (j + 1)) (cs.drop (j + 1)) else 1) else alQ x) = Q) := hq
      have HX : Hid (cs[j]? = some x) := hx
      clear hq hx
      have hcon := l9Change_any b (off + j * 10) x wr E hz1 hz2
      obtain ⟨f, hf⟩ : ∃ f, f = alQ x := ⟨_, rfl⟩
      rw [← hf] at hcon
      have HF : Hid (alQ x = f) := hf.symm
      clear hf
      have HEx : Hid (ChC wr b (off + j * 10) x) := E
      clear E hz1 hz2
      go_wp2_with fail
      refine hcon.mono ?_
      rintro e w2 ⟨rfl, m2, rfl⟩
      clear hcon
      have HE2 : Hid (ChC (wr.drewN m2) b (off + j * 10) x) := HEx.out.drews m2
      have g : Below w.heap.size w (wr.drewN m2) := g.trans (below_drewN _ _ _)
      clear HEx
      generalize wr.drewN m2 = W at g HE2 ⊢
      by_cases hf0 : f = 0
      · subst hf0
        have HQ2 : Hid ((if (prv cs j).all (fun y => kLt y x) = true then flQ (prv cs (j + 1)) (cs.drop (j + 1)) else 1) = Q) := by show _ = _; rw [← HQ1.out, if_pos HF.out]
        clear HQ1
        by_cases hj0 : j = 0
        · subst hj0
          have hqn : Hid (flQ (prv cs (0 + 1)) (cs.drop (0 + 1)) = Q) := by show _ = _; rw [← HQ2.out, prv_zero]; rfl
          clear HE2 HQ2
          go_upto_region 9 with (fail)
          go_quiet (fail)
          have g := g.trans (below_drewN w.heap.size W nq)
          go_wp2_with fail
          go_roundw
          case rel => exact ⟨0 + 1, by omega, by go_num, hqn, g⟩
          case measure => simp [intOf]; omega
        · obtain ⟨i, rfl⟩ : ∃ i, j = i + 1 := ⟨j - 1, by omega⟩
          obtain ⟨y, hy⟩ : ∃ y, cs[i]? = some y := ⟨_, List.getElem?_eq_getElem (by rw [HN.out]; omega)⟩
          have E1 : ChC W b (off + i * 10) y := by
            have h1 := HR.out.chgAt hy
            exact h1.below g h1.lt
          have HA : Hid (∀ m, Calls Try.prog 41 #[.pointer (some ⟨b, off + i * 10, none⟩), .pointer (some ⟨b, off + (i + 1) * 10, none⟩)] (W.drewN m) fun e w' => e = .returned (.bool (kLt y x)) ∧ ∃ m', w' = (W.drewN m).drewN m') := fun m => l9Ahead_any b (off + i * 10) b (off + (i + 1) * 10) y x _ (E1.drews m) (HE2.out.drews m)
          have hpa : (prv cs (i + 1)).all (fun y => kLt y x) = kLt y x := by rw [prv_succ, hy]; rfl
          rw [hpa] at HQ2
          clear hy E1 HE2 hpa
          generalize kLt y x = bb at HA HQ2
          have hi1 : (0 : Int) < ((i + 1 : Nat) : Int) := by omega
          have hi2 : (((i + 1 : Nat) : Int) - 1) = (i : Int) := by omega
          have hi3 : (i : Int) < (n : Int) := by omega
          have hi4 : i < n := by omega
          have hi5 : i + 1 < n := by omega
          cases bb
          · have HF2 : Hid (Q = 1) := by show _ = _; rw [← HQ2.out]; rfl
            go_upto_region 9 with (fail)
            go_quiet (first | (go_at_call 41; refine Calls.quiet_of (HA.out _)))
            have g := g.trans (below_drewN w.heap.size W nq)
            go_wp2_with fail
            go_ret
            exact ⟨by rw [HF2.out]; rfl, g⟩
          · have hqn : Hid (flQ (prv cs (i + 1 + 1)) (cs.drop (i + 1 + 1)) = Q) := by show _ = _; rw [← HQ2.out]; rfl
            go_upto_region 9 with (fail)
            go_quiet (first | (go_at_call 41; refine Calls.quiet_of (HA.out _)))
            have g := g.trans (below_drewN w.heap.size W nq)
            go_wp2_with fail
            go_roundw
            case rel => exact ⟨i + 1 + 1, by omega, by go_num, hqn, g⟩
            case measure => simp [intOf]; omega
      · have HF2 : Hid (Q = f) := by show _ = _; rw [← HQ1.out, if_neg (by rw [HF.out]; exact hf0)]; exact HF.out
        have d : (f != 0) = true := by simpa using hf0
        clear HQ1 HE2
        go_wp2_with fail
        go_ret
        exact ⟨by rw [HF2.out]; rfl, g⟩
    · have HF2 : Hid (Q = 0) := by show _ = _; rw [← hq.out]; exact flQ_end _ (by rw [HN.out]; omega)
      have hjn : ¬ (j : Int) < (n : Int) := by omega
      go_wp2_with fail
      go_ret
      exact ⟨by rw [HF2.out]; rfl, g⟩

end Go.Proofs.Ytmbllmhpnopbdaa
