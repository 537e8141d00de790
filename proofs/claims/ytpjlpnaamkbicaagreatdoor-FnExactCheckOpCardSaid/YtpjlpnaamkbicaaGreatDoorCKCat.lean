/-
  The model's l8Catalog, l8May, MayBe.
-/
import Derived.Test.YtpjlpnaamkbicaaGreatDoorCKTel
import Derived.Test.YtpjlpnaamkbicaaGreatDoorCKLky

namespace Go.Proofs.YtpjlpnaamkbicaaGreatDoor
open Go.RowKit
set_option linter.unusedVariables false

/-- What l8Catalog asks of one row. -/
def catB (x : Chg) (r : Rw) : Bool := decide (r.t = kK x) && (decide (r.t ≠ 0) && (!x.is || decide ((r.s.size : Int) > x.a.v)))
def catT (x : Chg) : Bool := x.is && (!inW (kK x) 1 3 || decide (x.a.v > 8) || !x.a.s.toList.isEmpty)
def catQ (rs : List Rw) (x : Chg) : Int := if catT x = true then 10 else if rs.any (catB x) = true then 8 else 0

set_option maxRecDepth 20000 in
set_option maxHeartbeats 4000000 in
theorem l8Catalog_any (a : Option Addr) (rs : List Rw) (n c b : Nat) (x : Chg) (w : World) (hn : rs.length = n) (hm : n ≤ 60) (hs : ∀ r ∈ rs, r.s.size ≤ maxLen) (ha : x.a.s.size ≤ maxLen) (hr : Rs rwE 4 w a rs) (h : ChC w b 0 x) :
    Calls Tryz.prog 108 #[.slice a n c, .pointer (some ⟨b, 0, none⟩)] w fun e w' => e = .returned (.int .i64 (catQ rs x)) ∧ Below w.heap.size w w' := by
  have HN : Hid (rs.length = n) := hn
  have HS : Hid (∀ r ∈ rs, r.s.size ≤ maxLen) := hs
  have HR : Hid (∀ W, Below w.heap.size w W → Rs rwE 4 W a rs) := fun W hW => hr.below hW (Nat.le_refl _)
  have HC : Hid (∀ W, Below w.heap.size w W → ChC W b 0 x) := fun W hW => h.below hW h.lt
  have hk := l6Key_any b 0 x w h
  have hb := l1InW_any (kK x) 1 3
  obtain ⟨kk, hkk⟩ : ∃ kk, kk = kK x := ⟨_, rfl⟩
  have HK : Hid (kK x = kk) := hkk.symm
  rw [← hkk] at hk hb
  obtain ⟨x1, hx1⟩ : ∃ x1, x1 = inW kk 1 3 := ⟨_, rfl⟩
  have HX1 : Hid (inW kk 1 3 = x1) := hx1.symm
  rw [← hx1] at hb
  clear hn hr hs h hkk hx1
  obtain ⟨x0, ⟨bt, bk, bv, bs⟩, x5, ⟨at', ak, av, sa⟩⟩ := x
  dsimp only at ha
  cases x5
  · have HT : Hid (catQ rs ⟨x0, ⟨bt, bk, bv, bs⟩, false, ⟨at', ak, av, sa⟩⟩ = if rs.any (catB ⟨x0, ⟨bt, bk, bv, bs⟩, false, ⟨at', ak, av, sa⟩⟩) = true then 8 else 0) := by show _ = _; unfold catQ catT; simp
    clear hb
    go_enter Tryz.func108, Tryz.ntmps108
    go_wp2_with fail
    refine hk.mono ?_
    rintro e w1 ⟨rfl, m, hw1⟩
    have g1 : Below w.heap.size w w1 := by rw [hw1]; exact ⟨rfl, rfl, rfl, Nat.le_refl _, fun _ _ => rfl⟩
    clear hw1 hk
    obtain ⟨z0, z1, z2, z3, z4, z5, z6, z7, z8, z9⟩ := HC.out _ g1
    dsimp only at z0 z1 z2 z3 z4 z5 z6 z7 z8 z9
    go_wp2_with fail
    go_loopw [7] (fun i wr => ∃ j : Nat, j ≤ n ∧ i = .int .i64 j ∧ Below w.heap.size w wr ∧ Hid (∀ r ∈ rs.take j, catB ⟨x0, ⟨bt, bk, bv, bs⟩, false, ⟨at', ak, av, sa⟩⟩ r = false)) (fun i _ => n - (intOf i).toNat)
    case atStart => exact ⟨0, Nat.zero_le _, rfl, g1, by intro r hr; simp at hr⟩
    case round =>
      clear z0 z1 z2 z3 z4 z5 z6 z7 z8 z9
      obtain ⟨j, hj, rfl, gr, hA⟩ := hrel
      by_cases hlt : j < n
      · obtain ⟨y, hy⟩ := at_lt (rs := rs) (i := j) (by rw [HN.out]; exact hlt)
        obtain ⟨yb, yo, rfl, Y⟩ := (HR.out _ gr).row hy
        have hjn : (j : Int) < (n : Int) := by omega
        have HX : Hid (rs[j]? = some y) := hy
        have hys := HS.out y (List.mem_of_getElem? hy)
        clear hy
        obtain ⟨yt, yk, yv, ys⟩ := y
        obtain ⟨y0, y1, y2, y3⟩ := Y
        obtain ⟨z0, z1, z2, z3, z4, z5, z6, z7, z8, z9⟩ := HC.out _ gr
        dsimp only at y0 y1 y2 y3 hys z0 z1 z2 z3 z4 z5 z6 z7 z8 z9
        by_cases h1 : yt = kk
        · subst h1
          by_cases h2 : yt = 0
          · have HP : Hid (catB ⟨x0, ⟨bt, bk, bv, bs⟩, false, ⟨at', ak, av, sa⟩⟩ ⟨yt, yk, yv, ys⟩ = false) := by show _ = _; unfold catB; rw [HK.out]; simp [h2]
            have e2 : (yt != 0) = false := by simpa using h2
            go_upto_region 7 with (fail)
            go_quiet (fail)
            have gr : Below w.heap.size w (wr.drewN nq) := gr.trans ⟨rfl, rfl, rfl, Nat.le_refl _, fun _ _ => rfl⟩
            have HA2 : Hid (∀ r ∈ rs.take (j + 1), catB ⟨x0, ⟨bt, bk, bv, bs⟩, false, ⟨at', ak, av, sa⟩⟩ r = false) := by
              intro r hr
              rw [take_snoc HX.out] at hr
              rcases List.mem_append.1 hr with hr | hr
              · exact hA.out r hr
              · simp only [List.mem_singleton] at hr; rw [hr]; exact HP.out
            clear y0 y1 y2 y3 z0 z1 z2 z3 z4 z5 z6 z7 z8 z9
            generalize wr.drewN nq = wq at gr ⊢
            go_wp2_with fail
            go_roundw
            case rel => exact ⟨j + 1, by omega, by go_num, gr, HA2⟩
            case measure => simp [intOf]; omega
          · have HP : Hid (catB ⟨x0, ⟨bt, bk, bv, bs⟩, false, ⟨at', ak, av, sa⟩⟩ ⟨yt, yk, yv, ys⟩ = true) := by show _ = _; unfold catB; rw [HK.out]; simp [h2]
            have e2 : (yt != 0) = true := by simpa using h2
            go_upto_region 7 with (fail)
            go_quiet (fail)
            have gr : Below w.heap.size w (wr.drewN nq) := gr.trans ⟨rfl, rfl, rfl, Nat.le_refl _, fun _ _ => rfl⟩
            have HF : Hid (rs.any (catB ⟨x0, ⟨bt, bk, bv, bs⟩, false, ⟨at', ak, av, sa⟩⟩) = true) := List.any_eq_true.2 ⟨_, List.mem_of_getElem? HX.out, HP.out⟩
            clear y0 y1 y2 y3 z0 z1 z2 z3 z4 z5 z6 z7 z8 z9
            generalize wr.drewN nq = wq at gr ⊢
            go_wp2_with fail
            go_ret
            exact ⟨by rw [HT.out, if_pos HF.out]; rfl, gr⟩
        · have HP : Hid (catB ⟨x0, ⟨bt, bk, bv, bs⟩, false, ⟨at', ak, av, sa⟩⟩ ⟨yt, yk, yv, ys⟩ = false) := by show _ = _; unfold catB; rw [HK.out]; simp [h1]
          have e1 : (yt == kk) = false := by simpa using h1
          go_upto_region 7 with (fail)
          go_quiet (fail)
          have gr : Below w.heap.size w (wr.drewN nq) := gr.trans ⟨rfl, rfl, rfl, Nat.le_refl _, fun _ _ => rfl⟩
          have HA2 : Hid (∀ r ∈ rs.take (j + 1), catB ⟨x0, ⟨bt, bk, bv, bs⟩, false, ⟨at', ak, av, sa⟩⟩ r = false) := by
            intro r hr
            rw [take_snoc HX.out] at hr
            rcases List.mem_append.1 hr with hr | hr
            · exact hA.out r hr
            · simp only [List.mem_singleton] at hr; rw [hr]; exact HP.out
          clear y0 y1 y2 y3 z0 z1 z2 z3 z4 z5 z6 z7 z8 z9
          generalize wr.drewN nq = wq at gr ⊢
          go_wp2_with fail
          go_roundw
          case rel => exact ⟨j + 1, by omega, by go_num, gr, HA2⟩
          case measure => simp [intOf]; omega
      · have HF : Hid (rs.any (catB ⟨x0, ⟨bt, bk, bv, bs⟩, false, ⟨at', ak, av, sa⟩⟩) = false) := by
          have h2 := hA.out
          rw [List.take_of_length_le (by rw [HN.out]; omega)] at h2
          exact List.any_eq_false.2 (fun r hr => by rw [h2 r hr]; simp)
        have hjm : ¬ (j : Int) < (n : Int) := by omega
        go_wp2_with fail
        go_ret
        exact ⟨by rw [HT.out, if_neg (by rw [HF.out]; simp)]; rfl, gr⟩
  · cases x1
    · have HT : Hid (catQ rs ⟨x0, ⟨bt, bk, bv, bs⟩, true, ⟨at', ak, av, sa⟩⟩ = 10) := by show _ = _; unfold catQ catT; rw [HK.out, HX1.out]; simp
      go_enter Tryz.func108, Tryz.ntmps108
      go_wp2_with fail
      refine hk.mono ?_
      rintro e w1 ⟨rfl, m, hw1⟩
      have g1 : Below w.heap.size w w1 := by rw [hw1]; exact ⟨rfl, rfl, rfl, Nat.le_refl _, fun _ _ => rfl⟩
      clear hw1 hk
      obtain ⟨z0, z1, z2, z3, z4, z5, z6, z7, z8, z9⟩ := HC.out _ g1
      dsimp only at z0 z1 z2 z3 z4 z5 z6 z7 z8 z9
      go_wp2_with fail
      refine (hb _).mono ?_
      rintro e w' ⟨rfl, rfl⟩
      go_wp2_with fail
      go_ret
      exact ⟨by rw [HT.out]; rfl, g1⟩
    · by_cases h8 : 8 < av
      · have HT : Hid (catQ rs ⟨x0, ⟨bt, bk, bv, bs⟩, true, ⟨at', ak, av, sa⟩⟩ = 10) := by show _ = _; unfold catQ catT; simp [h8]
        go_enter Tryz.func108, Tryz.ntmps108
        go_wp2_with fail
        refine hk.mono ?_
        rintro e w1 ⟨rfl, m, hw1⟩
        have g1 : Below w.heap.size w w1 := by rw [hw1]; exact ⟨rfl, rfl, rfl, Nat.le_refl _, fun _ _ => rfl⟩
        clear hw1 hk
        obtain ⟨z0, z1, z2, z3, z4, z5, z6, z7, z8, z9⟩ := HC.out _ g1
        dsimp only at z0 z1 z2 z3 z4 z5 z6 z7 z8 z9
        go_wp2_with fail
        refine (hb _).mono ?_
        rintro e w' ⟨rfl, rfl⟩
        go_wp2_with fail
        go_ret
        exact ⟨by rw [HT.out]; rfl, g1⟩
      · have h8' : decide (8 < av) = false := by simpa using h8
        cases he : sa.toList.isEmpty
        · have HT : Hid (catQ rs ⟨x0, ⟨bt, bk, bv, bs⟩, true, ⟨at', ak, av, sa⟩⟩ = 10) := by show _ = _; unfold catQ catT; simp [he]
          go_enter Tryz.func108, Tryz.ntmps108
          go_wp2_with fail
          refine hk.mono ?_
          rintro e w1 ⟨rfl, m, hw1⟩
          have g1 : Below w.heap.size w w1 := by rw [hw1]; exact ⟨rfl, rfl, rfl, Nat.le_refl _, fun _ _ => rfl⟩
          clear hw1 hk
          obtain ⟨z0, z1, z2, z3, z4, z5, z6, z7, z8, z9⟩ := HC.out _ g1
          dsimp only at z0 z1 z2 z3 z4 z5 z6 z7 z8 z9
          go_wp2_with fail
          refine (hb _).mono ?_
          rintro e w' ⟨rfl, rfl⟩
          go_wp2_with fail
          go_ret
          exact ⟨by rw [HT.out]; rfl, g1⟩
        · have HT : Hid (catQ rs ⟨x0, ⟨bt, bk, bv, bs⟩, true, ⟨at', ak, av, sa⟩⟩ = if rs.any (catB ⟨x0, ⟨bt, bk, bv, bs⟩, true, ⟨at', ak, av, sa⟩⟩) = true then 8 else 0) := by
            show _ = _
            unfold catQ
            rw [if_neg (by unfold catT; rw [HK.out, HX1.out, he]; simp; omega)]
          go_enter Tryz.func108, Tryz.ntmps108
          go_wp2_with fail
          refine hk.mono ?_
          rintro e w1 ⟨rfl, m, hw1⟩
          have g1 : Below w.heap.size w w1 := by rw [hw1]; exact ⟨rfl, rfl, rfl, Nat.le_refl _, fun _ _ => rfl⟩
          clear hw1 hk
          obtain ⟨z0, z1, z2, z3, z4, z5, z6, z7, z8, z9⟩ := HC.out _ g1
          dsimp only at z0 z1 z2 z3 z4 z5 z6 z7 z8 z9
          go_wp2_with fail
          refine (hb _).mono ?_
          rintro e w' ⟨rfl, rfl⟩
          clear hb
          go_wp2_with fail
          go_loopw [7] (fun i wr => ∃ j : Nat, j ≤ n ∧ i = .int .i64 j ∧ Below w.heap.size w wr ∧ Hid (∀ r ∈ rs.take j, catB ⟨x0, ⟨bt, bk, bv, bs⟩, true, ⟨at', ak, av, sa⟩⟩ r = false)) (fun i _ => n - (intOf i).toNat)
          case atStart => exact ⟨0, Nat.zero_le _, rfl, g1, by intro r hr; simp at hr⟩
          case round =>
            clear z0 z1 z2 z3 z4 z5 z6 z7 z8 z9
            obtain ⟨j, hj, rfl, gr, hA⟩ := hrel
            by_cases hlt : j < n
            · obtain ⟨y, hy⟩ := at_lt (rs := rs) (i := j) (by rw [HN.out]; exact hlt)
              obtain ⟨yb, yo, rfl, Y⟩ := (HR.out _ gr).row hy
              have hjn : (j : Int) < (n : Int) := by omega
              have HX : Hid (rs[j]? = some y) := hy
              have hys := HS.out y (List.mem_of_getElem? hy)
              clear hy
              obtain ⟨yt, yk, yv, ys⟩ := y
              obtain ⟨y0, y1, y2, y3⟩ := Y
              obtain ⟨z0, z1, z2, z3, z4, z5, z6, z7, z8, z9⟩ := HC.out _ gr
              dsimp only at y0 y1 y2 y3 hys z0 z1 z2 z3 z4 z5 z6 z7 z8 z9
              by_cases h1 : yt = kk
              · subst h1
                by_cases h2 : yt = 0
                · have HP : Hid (catB ⟨x0, ⟨bt, bk, bv, bs⟩, true, ⟨at', ak, av, sa⟩⟩ ⟨yt, yk, yv, ys⟩ = false) := by show _ = _; unfold catB; rw [HK.out]; simp [h2]
                  have e2 : (yt != 0) = false := by simpa using h2
                  go_upto_region 7 with (fail)
                  go_quiet (fail)
                  have gr : Below w.heap.size w (wr.drewN nq) := gr.trans ⟨rfl, rfl, rfl, Nat.le_refl _, fun _ _ => rfl⟩
                  have HA2 : Hid (∀ r ∈ rs.take (j + 1), catB ⟨x0, ⟨bt, bk, bv, bs⟩, true, ⟨at', ak, av, sa⟩⟩ r = false) := by
                    intro r hr
                    rw [take_snoc HX.out] at hr
                    rcases List.mem_append.1 hr with hr | hr
                    · exact hA.out r hr
                    · simp only [List.mem_singleton] at hr; rw [hr]; exact HP.out
                  clear y0 y1 y2 y3 z0 z1 z2 z3 z4 z5 z6 z7 z8 z9
                  generalize wr.drewN nq = wq at gr ⊢
                  go_wp2_with fail
                  go_roundw
                  case rel => exact ⟨j + 1, by omega, by go_num, gr, HA2⟩
                  case measure => simp [intOf]; omega
                · by_cases h3 : (ys.size : Int) > av
                  · have HP : Hid (catB ⟨x0, ⟨bt, bk, bv, bs⟩, true, ⟨at', ak, av, sa⟩⟩ ⟨yt, yk, yv, ys⟩ = true) := by show _ = _; unfold catB; rw [HK.out]; simp [h2]; omega
                    have e2 : (yt != 0) = true := by simpa using h2
                    have e3 : av < (ys.size : Int) := h3
                    go_upto_region 7 with (fail)
                    go_quiet (fail)
                    have gr : Below w.heap.size w (wr.drewN nq) := gr.trans ⟨rfl, rfl, rfl, Nat.le_refl _, fun _ _ => rfl⟩
                    have HF : Hid (rs.any (catB ⟨x0, ⟨bt, bk, bv, bs⟩, true, ⟨at', ak, av, sa⟩⟩) = true) := List.any_eq_true.2 ⟨_, List.mem_of_getElem? HX.out, HP.out⟩
                    clear y0 y1 y2 y3 z0 z1 z2 z3 z4 z5 z6 z7 z8 z9
                    generalize wr.drewN nq = wq at gr ⊢
                    go_wp2_with fail
                    go_ret
                    exact ⟨by rw [HT.out, if_pos HF.out]; rfl, gr⟩
                  · have HP : Hid (catB ⟨x0, ⟨bt, bk, bv, bs⟩, true, ⟨at', ak, av, sa⟩⟩ ⟨yt, yk, yv, ys⟩ = false) := by show _ = _; unfold catB; simp; intro _ _; omega
                    have e2 : (yt != 0) = true := by simpa using h2
                    have e3 : ¬ av < (ys.size : Int) := h3
                    go_upto_region 7 with (fail)
                    go_quiet (fail)
                    have gr : Below w.heap.size w (wr.drewN nq) := gr.trans ⟨rfl, rfl, rfl, Nat.le_refl _, fun _ _ => rfl⟩
                    have HA2 : Hid (∀ r ∈ rs.take (j + 1), catB ⟨x0, ⟨bt, bk, bv, bs⟩, true, ⟨at', ak, av, sa⟩⟩ r = false) := by
                      intro r hr
                      rw [take_snoc HX.out] at hr
                      rcases List.mem_append.1 hr with hr | hr
                      · exact hA.out r hr
                      · simp only [List.mem_singleton] at hr; rw [hr]; exact HP.out
                    clear y0 y1 y2 y3 z0 z1 z2 z3 z4 z5 z6 z7 z8 z9
                    generalize wr.drewN nq = wq at gr ⊢
                    go_wp2_with fail
                    go_roundw
                    case rel => exact ⟨j + 1, by omega, by go_num, gr, HA2⟩
                    case measure => simp [intOf]; omega
              · have HP : Hid (catB ⟨x0, ⟨bt, bk, bv, bs⟩, true, ⟨at', ak, av, sa⟩⟩ ⟨yt, yk, yv, ys⟩ = false) := by show _ = _; unfold catB; rw [HK.out]; simp [h1]
                have e1 : (yt == kk) = false := by simpa using h1
                go_upto_region 7 with (fail)
                go_quiet (fail)
                have gr : Below w.heap.size w (wr.drewN nq) := gr.trans ⟨rfl, rfl, rfl, Nat.le_refl _, fun _ _ => rfl⟩
                have HA2 : Hid (∀ r ∈ rs.take (j + 1), catB ⟨x0, ⟨bt, bk, bv, bs⟩, true, ⟨at', ak, av, sa⟩⟩ r = false) := by
                  intro r hr
                  rw [take_snoc HX.out] at hr
                  rcases List.mem_append.1 hr with hr | hr
                  · exact hA.out r hr
                  · simp only [List.mem_singleton] at hr; rw [hr]; exact HP.out
                clear y0 y1 y2 y3 z0 z1 z2 z3 z4 z5 z6 z7 z8 z9
                generalize wr.drewN nq = wq at gr ⊢
                go_wp2_with fail
                go_roundw
                case rel => exact ⟨j + 1, by omega, by go_num, gr, HA2⟩
                case measure => simp [intOf]; omega
            · have HF : Hid (rs.any (catB ⟨x0, ⟨bt, bk, bv, bs⟩, true, ⟨at', ak, av, sa⟩⟩) = false) := by
                have h2 := hA.out
                rw [List.take_of_length_le (by rw [HN.out]; omega)] at h2
                exact List.any_eq_false.2 (fun r hr => by rw [h2 r hr]; simp)
              have hjm : ¬ (j : Int) < (n : Int) := by omega
              go_wp2_with fail
              go_ret
              exact ⟨by rw [HT.out, if_neg (by rw [HF.out]; simp)]; rfl, gr⟩

end Go.Proofs.YtpjlpnaamkbicaaGreatDoor
