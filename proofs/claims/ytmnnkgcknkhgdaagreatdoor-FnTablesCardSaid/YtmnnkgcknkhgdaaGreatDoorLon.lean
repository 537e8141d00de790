/-
  LongestIn, the program's and the model's.
-/
import Derived.Test.YtmnnkgcknkhgdaaGreatDoorLop
import Derived.Test.YtmnnkgcknkhgdaaGreatDoorEas
namespace Go.Proofs.YtmnnkgcknkhgdaaGreatDoor
open Go.RowKit
set_option linter.unusedVariables false

/-- What longestText hands back for an error. -/
def lonE (rs : List Rw) (t : Int) : Value := if lonQ rs t = 0 then .nilIface else .iface 91 (.agg #[.int .i64 t, .int .i64 (lonQ rs t)])

theorem mayBeTold_any (t : Int) (w : World) : Calls Tryz.prog 50 #[.int .i64 t] w fun e w' => e = .returned (.bool (inW t 1 3)) ∧ w' = w := by
  have hcon := isWithinW_any t 1 3 w
  go_enter Tryz.func50, Tryz.ntmps50
  go_wp2_with (go_at_call 60; refine hcon.mono ?_; rintro e w' ⟨rfl, rfl⟩)
  go_ret
  exact ⟨rfl, rfl⟩

theorem isTelling_any (t k v : Int) (s : ByteArray) (w : World) : Calls Tryz.prog 34 #[.agg #[.int .i64 t, .int .i64 k, .int .i64 v, .string s]] w fun e w' => e = .returned (.bool (decide (t = 0))) ∧ Below w.heap.size w w' := by
  go_enter Tryz.func34, Tryz.ntmps34
  go_wp2_with fail
  go_ret
  exact ⟨rfl, by go_grown⟩

set_option maxRecDepth 20000 in
set_option maxHeartbeats 4000000 in
theorem longestText_any (a : Option Addr) (rs : List Rw) (n c : Nat) (t : Int) (w : World) (hn : rs.length = n) (hm : n ≤ 60) (hr : Rs rwE 4 w a rs) :
    Calls Tryz.prog 32 #[.slice a n c, .int .i64 t] w fun e w' => e = .returned (.tuple #[.int .i64 (lonV rs t), lonE rs t]) ∧ Below w.heap.size w w' := by
  have HN : Hid (rs.length = n) := hn
  have HR : Hid (∀ W, Below w.heap.size w W → Rs rwE 4 W a rs) := fun W hW => hr.below hW (Nat.le_refl _)
  clear hn hr
  by_cases h1 : inW t 1 3 = true
  · have hb := mayBeTold_any t w
    rw [h1] at hb
    go_enter Tryz.func32, Tryz.ntmps32
    go_wp2_with (go_at_call 50; refine hb.mono ?_; rintro e w' ⟨rfl, hw⟩; rw [hw]; clear hw w')
    go_loopw [16] (fun i wr => ∃ j : Nat, j ≤ n ∧ i = .int .i64 j ∧ Below w.heap.size w wr ∧ Hid (∀ x ∈ rs.take j, ¬ (x.t = 0 ∧ x.k = t))) (fun i _ => n - (intOf i).toNat)
    case atStart => exact ⟨0, Nat.zero_le _, rfl, Below.refl _ _, by intro x hx; simp at hx⟩
    case round =>
      obtain ⟨j, hj, rfl, gr, hA⟩ := hrel
      by_cases hlt : j < n
      · obtain ⟨x, hx⟩ := at_lt (rs := rs) (i := j) (by rw [HN.out]; exact hlt)
        obtain ⟨b, off, rfl, X⟩ := (HR.out _ gr).row hx
        have hjn : (j : Int) < (n : Int) := by omega
        have HX : Hid (rs[j]? = some x) := hx
        obtain ⟨xt, xk, xv, xs⟩ := x
        obtain ⟨x0, x1, x2, x3⟩ := X
        dsimp only at x0 x1 x2 x3
        go_upto_region 6 with (fail)
        generalize hY : World.alloc _ _ = Y
        have gY : Below wr.heap.size wr Y := by rw [← hY]; go_grown
        have C : RowC Y wr.heap.size 0 ⟨xt, xk, xv, xs⟩ := by rw [← hY]; exact ⟨by simp [go_sem], by simp [go_sem], by simp [go_sem], by simp [go_sem]⟩
        have gr := gr.trans (gY.mono gr.size)
        clear hY gY x0 x1 x2 x3 hx
        generalize wr.heap.size = cb at C ⊢
        have hlC := C.lt
        have HTk : Hid (rs.take (j + 1) = rs.take j ++ [⟨xt, xk, xv, xs⟩]) := take_snoc HX.out
        obtain ⟨x0, x1, x2, x3⟩ := C
        dsimp only at x0 x1 x2 x3
        go_wp2_with fail
        refine (isTelling_any xt xk xv xs _).mono ?_
        rintro e Y2 ⟨rfl, g2⟩
        have C : RowC Y2 cb 0 ⟨xt, xk, xv, xs⟩ := RowC.below (w := Y) ⟨x0, x1, x2, x3⟩ g2 hlC
        have gr := gr.trans (g2.mono gr.size)
        clear g2 x0 x1 x2 x3
        obtain ⟨x0, x1, x2, x3⟩ := C
        dsimp only at x0 x1 x2 x3
        by_cases h0 : xt = 0
        · by_cases hk : xk = t
          · have HF : Hid (fR rs 0 t = some ⟨xt, xk, xv, xs⟩) := by
              show _ = _
              unfold fR
              refine List.find?_eq_some_iff_getElem.2 ?_
              obtain ⟨hl, e⟩ := List.getElem?_eq_some_iff.1 HX.out
              refine ⟨by simp [h0, hk], j, hl, e, fun m hmj => ?_⟩
              have := hA.out rs[m] (List.mem_take_iff_getElem.2 ⟨m, by omega, rfl⟩)
              by_cases q : rs[m].t = 0
              · have q2 : rs[m].k ≠ t := fun e => this ⟨q, e⟩
                simp [q, q2]
              · simp [q]
            have HV : Hid (lonV rs t = xv) := by show _ = _; unfold lonV lonF; rw [if_pos h1, HF.out]; rfl
            have HQ : Hid (lonQ rs t = 0) := by show _ = _; unfold lonQ lonF; rw [if_pos h1, HF.out]; rfl
            clear HF HX
            subst h0
            subst hk
            have hd : decide ((0 : Int) = 0) = true := rfl
            rw [hd]
            go_wp2_with fail
            refine bodyPost_ret (v := .tuple #[.int .i64 xv, .nilIface]) (by simp [results, Tryz.results32, go_sem]) rfl ?_
            refine ⟨?_, gr⟩
            unfold lonE
            rw [HV.out, HQ.out]
            rfl
          · have HA2 : Hid (∀ x ∈ rs.take (j + 1), ¬ (x.t = 0 ∧ x.k = t)) := by
              intro x hx
              rw [HTk.out] at hx
              rcases List.mem_append.1 hx with hx | hx
              · exact hA.out x hx
              · simp at hx; rw [hx]; intro h; exact hk h.2
            have hd : decide (xt = 0) = true := by simpa using h0
            rw [hd]
            go_wp2_with fail
            go_roundw
            case rel => exact ⟨j + 1, by omega, by go_num, gr, HA2⟩
            case measure => simp [intOf]; omega
        · have HA2 : Hid (∀ x ∈ rs.take (j + 1), ¬ (x.t = 0 ∧ x.k = t)) := by
            intro x hx
            rw [HTk.out] at hx
            rcases List.mem_append.1 hx with hx | hx
            · exact hA.out x hx
            · simp at hx; rw [hx]; intro h; exact h0 h.1
          have hd : decide (xt = 0) = false := by simpa using h0
          rw [hd]
          go_wp2_with fail
          go_roundw
          case rel => exact ⟨j + 1, by omega, by go_num, gr, HA2⟩
          case measure => simp [intOf]; omega
      · have HF : Hid (fR rs 0 t = none) := by
          refine fR_none.2 ?_
          have := hA.out
          rwa [List.take_of_length_le (by rw [HN.out]; omega)] at this
        have HV : Hid (lonV rs t = 0) := by show _ = _; unfold lonV lonF; rw [if_pos h1, HF.out]; rfl
        have HQ : Hid (lonQ rs t = 4) := by show _ = _; unfold lonQ lonF; rw [if_pos h1, HF.out]; rfl
        have hjm : ¬ (j : Int) < (n : Int) := by omega
        go_wp2_with fail
        refine bodyPost_ret (v := .tuple #[.int .i64 0, .iface 91 (.agg #[.int .i64 t, .int .i64 4])]) (by simp [results, Tryz.results32, go_sem]) rfl ?_
        refine ⟨?_, gr⟩
        unfold lonE
        rw [HV.out, HQ.out]
        rfl
  · have hb := mayBeTold_any t w
    have h1' : inW t 1 3 = false := by simpa using h1
    rw [h1'] at hb
    have HV : Hid (lonV rs t = 0) := by show _ = _; unfold lonV; rw [if_neg h1]
    have HQ : Hid (lonQ rs t = 3) := by show _ = _; unfold lonQ; rw [if_neg h1]
    go_enter Tryz.func32, Tryz.ntmps32
    go_wp2_with (go_at_call 50; refine hb.mono ?_; rintro e w' ⟨rfl, hw⟩; rw [hw]; clear hw w')
    refine bodyPost_ret (v := .tuple #[.int .i64 0, .iface 91 (.agg #[.int .i64 t, .int .i64 3])]) (by simp [results, Tryz.results32, go_sem]) rfl ?_
    refine ⟨?_, by go_grown⟩
    unfold lonE
    rw [HV.out, HQ.out]
    rfl

set_option maxHeartbeats 1000000 in
theorem tableCode_any (rs : List Rw) (t : Int) (w : World) (hE : Errs w) : Calls Tryz.prog 33 #[lonE rs t] w fun e w' => e = .returned (.int .i64 (lonQ rs t)) ∧ Below w.heap.size w w' := by
  obtain ⟨q, hq⟩ : ∃ q, q = lonQ rs t := ⟨_, rfl⟩
  unfold lonE
  rw [← hq]
  clear hq
  by_cases h0 : q = 0
  · rw [if_pos h0, h0]
    go_enter Tryz.func33, Tryz.ntmps33
    go_wp2_with (go_at_call 58; refine (as_nil _ _).mono ?_; rintro e w' ⟨rfl, rfl⟩)
    go_ret
    exact ⟨rfl, by go_grown⟩
  · rw [if_neg h0]
    have gX : Below w.heap.size w (w.alloc (.cells #[.int .i64 0, .int .i64 0] 91)) := by go_grown
    have hE2 := hE.below gX
    have hcon := as_hit w.heap.size t q (.int .i64 0) (.int .i64 0) _ hE2 (by simp [go_sem]) (by simp [go_sem]) (by simp [go_sem]) (by simp [go_sem])
    go_enter Tryz.func33, Tryz.ntmps33
    go_wp2_with (go_at_call 58; refine hcon.mono ?_)
    rintro e w' ⟨rfl, V, gV, rfl⟩
    have hlt : w.heap.size < (w.alloc (.cells #[.int .i64 0, .int .i64 0] 91)).heap.size := by simp
    have v1 : V.cell? ⟨w.heap.size, 1, none⟩ = some (.int .i64 0) := (gV.cell (p := ⟨w.heap.size, 1, none⟩) hlt).trans (by simp [go_sem])
    have v0 : V.cell? ⟨w.heap.size, 0, none⟩ = some (.int .i64 0) := (gV.cell (p := ⟨w.heap.size, 0, none⟩) hlt).trans (by simp [go_sem])
    have g := gX.trans (gV.mono gX.size)
    clear hcon gV gX hE2
    go_wp2_with fail
    go_ret
    exact ⟨rfl, by go_grown⟩

/-- The result of LongestIn as it is laid. -/
structure InO (w : World) (b : Nat) : Prop where
  c0 : w.cell? ⟨b, 0, none⟩ = some (.int .i64 0)
  c1 : w.cell? ⟨b, 1, none⟩ = some (.int .i64 0)
  f0 : w.frozen? ⟨b, 0, none⟩ = false
  f1 : w.frozen? ⟨b, 1, none⟩ = false
theorem InO.below {w w' : World} {b : Nat} (h : InO w b) {B : Nat} (hb : Below B w w') (hl : b < B) : InO w' b :=
  ⟨(hb.cell (p := ⟨b, 0, none⟩) hl).trans h.c0, (hb.cell (p := ⟨b, 1, none⟩) hl).trans h.c1, (hb.frozen (p := ⟨b, 0, none⟩) hl).trans h.f0, (hb.frozen (p := ⟨b, 1, none⟩) hl).trans h.f1⟩
theorem InO.new (w : World) : InO (w.alloc (.cells #[.int .i64 0, .int .i64 0] 35)) w.heap.size :=
  ⟨by simp [go_sem], by simp [go_sem], by simp [go_sem], by simp [go_sem]⟩

set_option maxRecDepth 20000 in
set_option maxHeartbeats 4000000 in
theorem implLongestIn_any (a : Option Addr) (rs : List Rw) (n c : Nat) (t : Int) (w : World) (hn : rs.length = n) (hm : n ≤ 9223372036854775807) (hs : ∀ r ∈ rs, r.s.size ≤ maxLen) (hr : Rs rwE 4 w a rs) (hE : Errs w) :
    Calls Tryz.prog 9 #[.slice a n c, .int .i64 t] w fun e w' => e = .returned (.agg #[.int .i64 (liQ rs t), .int .i64 (liV rs t)]) ∧ Below w.heap.size w w' := by
  have HN : Hid (rs.length = n) := hn
  have HR : Hid (∀ W, Below w.heap.size w W → Rs rwE 4 W a rs) := fun W hW => hr.below hW (Nat.le_refl _)
  have HS : Hid (∀ r ∈ rs, r.s.size ≤ maxLen) := hs
  have HE : Hid (∀ W, Below w.heap.size w W → Errs W) := fun W hW => hE.below hW
  obtain ⟨q, hq⟩ : ∃ q, q = rowsQ rs := ⟨_, rfl⟩
  have HQ : Hid (rowsQ rs = q) := hq.symm
  clear hn hr hs hq hE
  have hO := InO.new w
  have gX : Below w.heap.size w (w.alloc (.cells #[.int .i64 0, .int .i64 0] 35)) := by go_grown
  have hlX : w.heap.size < (w.alloc (.cells #[.int .i64 0, .int .i64 0] 35)).heap.size := by simp
  obtain ⟨X, hX0⟩ : ∃ X, w.alloc (.cells #[.int .i64 0, .int .i64 0] 35) = X := ⟨_, rfl⟩
  rw [hX0] at hO gX hlX
  go_enter Tryz.func9, Tryz.ntmps9
  go_wp2_with fail
  refine (implRowsFault_any a rs n c _ HN.out hm HS.out (HR.out _ gX)).mono ?_
  rintro e w1 ⟨rfl, g1⟩
  have hO := hO.below g1 hlX
  have hlX := Nat.lt_of_lt_of_le hlX g1.size
  have g := gX.trans (g1.mono gX.size)
  rw [HQ.out]
  clear g1 gX hX0
  by_cases hq0 : q = 0
  · subst hq0
    have hn60 : n ≤ 60 := by rw [← HN.out]; exact (rowsQ_ok HQ.out).1
    have HL : Hid (liQ rs t = lonQ rs t) := by show _ = _; unfold liQ; rw [if_pos HQ.out]
    have HW : Hid (liV rs t = lonV rs t) := by show _ = _; unfold liV; rw [if_pos HQ.out]
    go_wp2_with fail
    refine (longestText_any a rs n c t _ HN.out hn60 (HR.out _ g)).mono ?_
    rintro e w2 ⟨rfl, g2⟩
    have hO := hO.below g2 hlX
    have hlX := Nat.lt_of_lt_of_le hlX g2.size
    have g := g.trans (g2.mono g.size)
    have hcon := tableCode_any rs t w2 (HE.out _ g)
    clear g2
    generalize lonE rs t = er at hcon ⊢
    generalize lonV rs t = lv at HW ⊢
    generalize lonQ rs t = lq at HL hcon
    go_wp2_with (go_at_call 33; refine hcon.mono ?_)
    rintro e w3 ⟨rfl, g3⟩
    have hO := hO.below g3 hlX
    have g := g.trans (g3.mono g.size)
    clear g3 hcon
    obtain ⟨c0, c1, f0, f1⟩ := hO
    go_wp2_with fail
    refine bodyPost_ret (v := .agg #[.int .i64 lq, .int .i64 lv]) (by simp [results, Tryz.results9, go_sem, *]) rfl ?_
    exact ⟨by rw [HL.out, HW.out], by go_grown⟩
  · have d : (q != 0) = true := by simpa using hq0
    have HL : Hid (liQ rs t = q) := by show _ = _; unfold liQ; rw [if_neg (by rw [HQ.out]; exact hq0), HQ.out]
    have HW : Hid (liV rs t = 0) := by show _ = _; unfold liV; rw [if_neg (by rw [HQ.out]; exact hq0)]
    obtain ⟨c0, c1, f0, f1⟩ := hO
    go_wp2_with fail
    refine bodyPost_ret (v := .agg #[.int .i64 q, .int .i64 0]) (by simp [results, Tryz.results9, go_sem, *]) rfl ?_
    exact ⟨by rw [HL.out, HW.out], by go_grown⟩

/-- What l8Longest tells. -/
def l8L (rs : List Rw) (t : Int) : Int := (lonF rs t).getD (-1)

set_option maxHeartbeats 1000000 in
theorem l8Longest_any (a : Option Addr) (rs : List Rw) (n c : Nat) (t : Int) (w : World) (hn : rs.length = n) (hm : n ≤ 60) (hu : Uniq rs) (hr : Rs rwE 4 w a rs) :
    Calls Tryz.prog 37 #[.slice a n c, .int .i64 t] w fun e w' => e = .returned (.int .i64 (l8L rs t)) ∧ w' = w := by
  have hcon := l6At_any a rs n c 0 t w hn (by omega) hr
  go_enter Tryz.func37, Tryz.ntmps37
  go_wp2_with (go_at_call 46; refine hcon.mono ?_)
  rintro e w' ⟨r, rfl, hA, hw⟩
  rw [hw]
  clear hw w' hcon
  rcases hA.f hu with ⟨rfl, hf⟩ | ⟨i, x, rfl, hx, hf⟩
  · have HL : Hid (l8L rs t = -1) := by show _ = _; unfold l8L lonF; rw [hf]; rfl
    clear hA hf
    go_wp2_with fail
    go_ret
    exact ⟨by rw [HL.out]; rfl, rfl⟩
  · have HL : Hid (l8L rs t = x.v) := by show _ = _; unfold l8L lonF; rw [hf]; rfl
    obtain ⟨b, off, rfl, X⟩ := hr.row hx
    have hi : i < n := by rw [← hn]; exact (List.getElem?_eq_some_iff.1 hx).1
    have hin : (i : Int) < (n : Int) := by omega
    have hi0 : ¬ (i : Int) < 0 := by omega
    clear hA hf hx
    obtain ⟨xt, xk, xv, xs⟩ := x
    obtain ⟨x0, x1, x2, x3⟩ := X
    dsimp only at x0 x1 x2 x3 HL
    go_wp2_with fail
    go_ret
    exact ⟨by rw [HL.out]; rfl, rfl⟩

set_option maxRecDepth 20000 in
set_option maxHeartbeats 4000000 in
theorem specLongestIn_any (a : Option Addr) (rs : List Rw) (n c : Nat) (t : Int) (w : World) (hn : rs.length = n) (hm : n ≤ 9223372036854775807) (hs : ∀ r ∈ rs, r.s.size ≤ maxLen) (hr : Rs rwE 4 w a rs) :
    Calls Tryz.prog 11 #[.slice a n c, .int .i64 t] w fun e w' => e = .returned (.agg #[.int .i64 (liQ rs t), .int .i64 (liV rs t)]) ∧ Below w.heap.size w w' := by
  have HN : Hid (rs.length = n) := hn
  have HR : Hid (∀ W, Below w.heap.size w W → Rs rwE 4 W a rs) := fun W hW => hr.below hW (Nat.le_refl _)
  have HS : Hid (∀ r ∈ rs, r.s.size ≤ maxLen) := hs
  obtain ⟨q, hq⟩ : ∃ q, q = rowsQ rs := ⟨_, rfl⟩
  have HQ : Hid (rowsQ rs = q) := hq.symm
  clear hn hr hs hq
  have hO := InO.new w
  have gX : Below w.heap.size w (w.alloc (.cells #[.int .i64 0, .int .i64 0] 35)) := by go_grown
  have hlX : w.heap.size < (w.alloc (.cells #[.int .i64 0, .int .i64 0] 35)).heap.size := by simp
  obtain ⟨X, hX0⟩ : ∃ X, w.alloc (.cells #[.int .i64 0, .int .i64 0] 35) = X := ⟨_, rfl⟩
  rw [hX0] at hO gX hlX
  go_enter Tryz.func11, Tryz.ntmps11
  go_wp2_with fail
  refine (l6Rows_any a rs n c _ HN.out hm HS.out (HR.out _ gX)).mono ?_
  rintro e w1 ⟨rfl, g1⟩
  have hO := hO.below g1 hlX
  have hlX := Nat.lt_of_lt_of_le hlX g1.size
  have g := gX.trans (g1.mono gX.size)
  rw [HQ.out]
  clear g1 gX hX0
  obtain ⟨c0, c1, f0, f1⟩ := hO
  by_cases hq0 : q = 0
  · subst hq0
    have hn60 : n ≤ 60 := by rw [← HN.out]; exact (rowsQ_ok HQ.out).1
    have HL : Hid (liQ rs t = lonQ rs t) := by show _ = _; unfold liQ; rw [if_pos HQ.out]
    have HW : Hid (liV rs t = lonV rs t) := by show _ = _; unfold liV; rw [if_pos HQ.out]
    have hb := l1InW_any t 1 3 w1
    by_cases h1 : inW t 1 3 = true
    · rw [h1] at hb
      have hcon := l8Longest_any a rs n c t w1 HN.out hn60 (rowsQ_ok HQ.out).2.1 (HR.out _ g)
      have h2 : (l8L rs t = -1 ∧ lonQ rs t = 4 ∧ lonV rs t = 0) ∨ (0 ≤ l8L rs t ∧ lonQ rs t = 0 ∧ lonV rs t = l8L rs t) := by
        unfold l8L lonQ lonV
        rw [if_pos h1, if_pos h1]
        cases hf : lonF rs t with
        | none => left; exact ⟨rfl, rfl, rfl⟩
        | some v => right; exact ⟨(lonF_val HQ.out hf).1, rfl, rfl⟩
      generalize l8L rs t = z at hcon h2
      rcases h2 with ⟨rfl, e1, e2⟩ | ⟨hz, e1, e2⟩
      · rw [e1] at HL
        rw [e2] at HW
        clear e1 e2
        go_wp2_with (first | (go_at_call 36; refine hb.mono ?_; rintro e w' ⟨rfl, hw⟩; rw [hw]; clear hw w') | (go_at_call 37; refine hcon.mono ?_; rintro e w' ⟨rfl, hw⟩; rw [hw]; clear hw w'))
        refine bodyPost_ret (v := .agg #[.int .i64 4, .int .i64 0]) (by simp [results, Tryz.results11, go_sem, *]) rfl ?_
        exact ⟨by rw [HL.out, HW.out], by go_grown⟩
      · rw [e1] at HL
        rw [e2] at HW
        clear e1 e2
        have hz0 : ¬ z < 0 := by omega
        go_wp2_with (first | (go_at_call 36; refine hb.mono ?_; rintro e w' ⟨rfl, hw⟩; rw [hw]; clear hw w') | (go_at_call 37; refine hcon.mono ?_; rintro e w' ⟨rfl, hw⟩; rw [hw]; clear hw w'))
        refine bodyPost_ret (v := .agg #[.int .i64 0, .int .i64 z]) (by simp [results, Tryz.results11, go_sem, *]) rfl ?_
        exact ⟨by rw [HL.out, HW.out], by go_grown⟩
    · have h1' : inW t 1 3 = false := by simpa using h1
      rw [h1'] at hb
      have e1 : lonQ rs t = 3 := by unfold lonQ; rw [if_neg h1]
      have e2 : lonV rs t = 0 := by unfold lonV; rw [if_neg h1]
      rw [e1] at HL
      rw [e2] at HW
      clear e1 e2
      go_wp2_with (go_at_call 36; refine hb.mono ?_; rintro e w' ⟨rfl, hw⟩; rw [hw]; clear hw w')
      refine bodyPost_ret (v := .agg #[.int .i64 3, .int .i64 0]) (by simp [results, Tryz.results11, go_sem, *]) rfl ?_
      exact ⟨by rw [HL.out, HW.out], by go_grown⟩
  · have d : (q != 0) = true := by simpa using hq0
    have HL : Hid (liQ rs t = q) := by show _ = _; unfold liQ; rw [if_neg (by rw [HQ.out]; exact hq0), HQ.out]
    have HW : Hid (liV rs t = 0) := by show _ = _; unfold liV; rw [if_neg (by rw [HQ.out]; exact hq0)]
    go_wp2_with fail
    refine bodyPost_ret (v := .agg #[.int .i64 q, .int .i64 0]) (by simp [results, Tryz.results11, go_sem, *]) rfl ?_
    exact ⟨by rw [HL.out, HW.out], by go_grown⟩

end Go.Proofs.YtmnnkgcknkhgdaaGreatDoor

