/-
  LongestIn, the program's and the model's.
-/
import Derived.Test.YtpjlpnaamkbicaaGreatDoorCKRby
import Derived.Test.YtpjlpnaamkbicaaGreatDoorCKEas

namespace Go.Proofs.YtpjlpnaamkbicaaGreatDoor
open Go.RowKit
set_option linter.unusedVariables false

/-- What longestText hands back for an error. -/
def lonE (rs : List Rw) (t : Int) : Value := if lonQ rs t = 0 then .nilIface else .iface 160 (.agg #[.int .i64 t, .int .i64 (lonQ rs t)])

theorem mayBeTold_any (t : Int) (w : World) : Calls Tryz.prog 116 #[.int .i64 t] w fun e w' => e = .returned (.bool (inW t 1 3)) ∧ w' = w := by
  have hcon := isWithinW_any t 1 3 w
  go_enter Tryz.func116, Tryz.ntmps116
  go_wp2_with (go_at_call 57; refine hcon.mono ?_; rintro e w' ⟨rfl, rfl⟩)
  go_ret
  exact ⟨rfl, rfl⟩

theorem isTelling_any (t k v : Int) (s : ByteArray) (w : World) : Calls Tryz.prog 127 #[.agg #[.int .i64 t, .int .i64 k, .int .i64 v, .string s]] w fun e w' => e = .returned (.bool (decide (t = 0))) ∧ Below w.heap.size w w' := by
  go_enter Tryz.func127, Tryz.ntmps127
  go_wp2_with fail
  go_ret
  exact ⟨rfl, by go_grown⟩

set_option maxRecDepth 20000 in
set_option maxHeartbeats 4000000 in
theorem longestText_any (a : Option Addr) (rs : List Rw) (n c : Nat) (t : Int) (w : World) (hn : rs.length = n) (hm : n ≤ 60) (hr : Rs rwE 4 w a rs) :
    Calls Tryz.prog 119 #[.slice a n c, .int .i64 t] w fun e w' => e = .returned (.tuple #[.int .i64 (lonV rs t), lonE rs t]) ∧ Below w.heap.size w w' := by
  have HN : Hid (rs.length = n) := hn
  have HR : Hid (∀ W, Below w.heap.size w W → Rs rwE 4 W a rs) := fun W hW => hr.below hW (Nat.le_refl _)
  clear hn hr
  by_cases h1 : inW t 1 3 = true
  · have hb := mayBeTold_any t w
    rw [h1] at hb
    go_enter Tryz.func119, Tryz.ntmps119
    go_wp2_with (go_at_call 116; refine hb.mono ?_; rintro e w' ⟨rfl, hw⟩; rw [hw]; clear hw w')
    go_loopw [16] (fun i wr => ∃ j : Nat, j ≤ n ∧ i = .int .i64 j ∧ Below w.heap.size w wr ∧ Hid (∀ x ∈ rs.take j, ¬ (x.t = 0 ∧ x.k = t))) (fun i _ => n - (intOf i).toNat)
    case atStart => exact ⟨0, Nat.zero_le _, rfl, Below.refl _ _, by intro x hx; simp at hx⟩
    case round =>
      obtain ⟨j, hj, rfl, gr, hA⟩ := hrel
      by_cases hlt : j < n
      · obtain ⟨x, hx⟩ := at_lt (rs := rs) (i := j) (by rw [HN.out]; exact hlt)
        obtain ⟨b, off, rfl, X⟩ := (HR.out _ gr).row hx
        have hjn : (j : Int) < (n : Int) := by omega
        have HX : Hid (rs[j]? = some x) := hx
        obtain ⟨xt, xk, xv, xs⟩ := x
        obtain ⟨x0, x1, x2, x3⟩ := X
        dsimp only at x0 x1 x2 x3
        go_upto_region 6 with (fail)
        generalize hY : World.alloc _ _ = Y
        have gY : Below wr.heap.size wr Y := by rw [← hY]; go_grown
        have C : RowC Y wr.heap.size 0 ⟨xt, xk, xv, xs⟩ := by rw [← hY]; exact ⟨by simp [go_sem], by simp [go_sem], by simp [go_sem], by simp [go_sem]⟩
        have gr := gr.trans (gY.mono gr.size)
        clear hY gY x0 x1 x2 x3 hx
        generalize wr.heap.size = cb at C ⊢
        have hlC := C.lt
        have HTk : Hid (rs.take (j + 1) = rs.take j ++ [⟨xt, xk, xv, xs⟩]) := take_snoc HX.out
        obtain ⟨x0, x1, x2, x3⟩ := C
        dsimp only at x0 x1 x2 x3
        go_wp2_with fail
        refine (isTelling_any xt xk xv xs _).mono ?_
        rintro e Y2 ⟨rfl, g2⟩
        have C : RowC Y2 cb 0 ⟨xt, xk, xv, xs⟩ := RowC.below (w := Y) ⟨x0, x1, x2, x3⟩ g2 hlC
        have gr := gr.trans (g2.mono gr.size)
        clear g2 x0 x1 x2 x3
        obtain ⟨x0, x1, x2, x3⟩ := C
        dsimp only at x0 x1 x2 x3
        by_cases h0 : xt = 0
        · by_cases hk : xk = t
          · have HF : Hid (fR rs 0 t = some ⟨xt, xk, xv, xs⟩) := by
              show _ = _
              unfold fR
              refine List.find?_eq_some_iff_getElem.2 ?_
              obtain ⟨hl, e⟩ := List.getElem?_eq_some_iff.1 HX.out
              refine ⟨by simp [h0, hk], j, hl, e, fun m hmj => ?_⟩
              have := hA.out rs[m] (List.mem_take_iff_getElem.2 ⟨m, by omega, rfl⟩)
              by_cases q : rs[m].t = 0
              · have q2 : rs[m].k ≠ t := fun e => this ⟨q, e⟩
                simp [q, q2]
              · simp [q]
            have HV : Hid (lonV rs t = xv) := by show _ = _; unfold lonV lonF; rw [if_pos h1, HF.out]; rfl
            have HQ : Hid (lonQ rs t = 0) := by show _ = _; unfold lonQ lonF; rw [if_pos h1, HF.out]; rfl
            clear HF HX
            subst h0
            subst hk
            have hd : decide ((0 : Int) = 0) = true := rfl
            rw [hd]
            go_wp2_with fail
            refine bodyPost_ret (v := .tuple #[.int .i64 xv, .nilIface]) (by simp [results, Tryz.results119, go_sem]) rfl ?_
            refine ⟨?_, gr⟩
            unfold lonE
            rw [HV.out, HQ.out]
            rfl
          · have HA2 : Hid (∀ x ∈ rs.take (j + 1), ¬ (x.t = 0 ∧ x.k = t)) := by
              intro x hx
              rw [HTk.out] at hx
              rcases List.mem_append.1 hx with hx | hx
              · exact hA.out x hx
              · simp at hx; rw [hx]; intro h; exact hk h.2
            have hd : decide (xt = 0) = true := by simpa using h0
            rw [hd]
            go_wp2_with fail
            go_roundw
            case rel => exact ⟨j + 1, by omega, by go_num, gr, HA2⟩
            case measure => simp [intOf]; omega
        · have HA2 : Hid (∀ x ∈ rs.take (j + 1), ¬ (x.t = 0 ∧ x.k = t)) := by
            intro x hx
            rw [HTk.out] at hx
            rcases List.mem_append.1 hx with hx | hx
            · exact hA.out x hx
            · simp at hx; rw [hx]; intro h; exact h0 h.1
          have hd : decide (xt = 0) = false := by simpa using h0
          rw [hd]
          go_wp2_with fail
          go_roundw
          case rel => exact ⟨j + 1, by omega, by go_num, gr, HA2⟩
          case measure => simp [intOf]; omega
      · have HF : Hid (fR rs 0 t = none) := by
          refine fR_none.2 ?_
          have := hA.out
          rwa [List.take_of_length_le (by rw [HN.out]; omega)] at this
        have HV : Hid (lonV rs t = 0) := by show _ = _; unfold lonV lonF; rw [if_pos h1, HF.out]; rfl
        have HQ : Hid (lonQ rs t = 4) := by show _ = _; unfold lonQ lonF; rw [if_pos h1, HF.out]; rfl
        have hjm : ¬ (j : Int) < (n : Int) := by omega
        go_wp2_with fail
        refine bodyPost_ret (v := .tuple #[.int .i64 0, .iface 160 (.agg #[.int .i64 t, .int .i64 4])]) (by simp [results, Tryz.results119, go_sem]) rfl ?_
        refine ⟨?_, gr⟩
        unfold lonE
        rw [HV.out, HQ.out]
        rfl
  · have hb := mayBeTold_any t w
    have h1' : inW t 1 3 = false := by simpa using h1
    rw [h1'] at hb
    have HV : Hid (lonV rs t = 0) := by show _ = _; unfold lonV; rw [if_neg h1]
    have HQ : Hid (lonQ rs t = 3) := by show _ = _; unfold lonQ; rw [if_neg h1]
    go_enter Tryz.func119, Tryz.ntmps119
    go_wp2_with (go_at_call 116; refine hb.mono ?_; rintro e w' ⟨rfl, hw⟩; rw [hw]; clear hw w')
    refine bodyPost_ret (v := .tuple #[.int .i64 0, .iface 160 (.agg #[.int .i64 t, .int .i64 3])]) (by simp [results, Tryz.results119, go_sem]) rfl ?_
    refine ⟨?_, by go_grown⟩
    unfold lonE
    rw [HV.out, HQ.out]
    rfl

set_option maxHeartbeats 1000000 in
theorem tableCode_any (rs : List Rw) (t : Int) (w : World) (hE : Errs w) : Calls Tryz.prog 120 #[lonE rs t] w fun e w' => e = .returned (.int .i64 (lonQ rs t)) ∧ Below w.heap.size w w' := by
  obtain ⟨q, hq⟩ : ∃ q, q = lonQ rs t := ⟨_, rfl⟩
  unfold lonE
  rw [← hq]
  clear hq
  by_cases h0 : q = 0
  · rw [if_pos h0, h0]
    go_enter Tryz.func120, Tryz.ntmps120
    go_wp2_with (go_at_call 128; refine (as_nil _ _).mono ?_; rintro e w' ⟨rfl, rfl⟩)
    go_ret
    exact ⟨rfl, by go_grown⟩
  · rw [if_neg h0]
    have gX : Below w.heap.size w (w.alloc (.cells #[.int .i64 0, .int .i64 0] 160)) := by go_grown
    have hE2 := hE.below gX
    have hcon := as_hit w.heap.size t q (.int .i64 0) (.int .i64 0) _ hE2 (by simp [go_sem]) (by simp [go_sem]) (by simp [go_sem]) (by simp [go_sem])
    go_enter Tryz.func120, Tryz.ntmps120
    go_wp2_with (go_at_call 128; refine hcon.mono ?_)
    rintro e w' ⟨rfl, V, gV, rfl⟩
    have hlt : w.heap.size < (w.alloc (.cells #[.int .i64 0, .int .i64 0] 160)).heap.size := by simp
    have v1 : V.cell? ⟨w.heap.size, 1, none⟩ = some (.int .i64 0) := (gV.cell (p := ⟨w.heap.size, 1, none⟩) hlt).trans (by simp [go_sem])
    have v0 : V.cell? ⟨w.heap.size, 0, none⟩ = some (.int .i64 0) := (gV.cell (p := ⟨w.heap.size, 0, none⟩) hlt).trans (by simp [go_sem])
    have g := gX.trans (gV.mono gX.size)
    clear hcon gV gX hE2
    go_wp2_with fail
    go_ret
    exact ⟨rfl, by go_grown⟩

/-- The result of LongestIn as it is laid. -/
structure InO (w : World) (b : Nat) : Prop where
  c0 : w.cell? ⟨b, 0, none⟩ = some (.int .i64 0)
  c1 : w.cell? ⟨b, 1, none⟩ = some (.int .i64 0)
  f0 : w.frozen? ⟨b, 0, none⟩ = false
  f1 : w.frozen? ⟨b, 1, none⟩ = false
theorem InO.below {w w' : World} {b : Nat} (h : InO w b) {B : Nat} (hb : Below B w w') (hl : b < B) : InO w' b :=
  ⟨(hb.cell (p := ⟨b, 0, none⟩) hl).trans h.c0, (hb.cell (p := ⟨b, 1, none⟩) hl).trans h.c1, (hb.frozen (p := ⟨b, 0, none⟩) hl).trans h.f0, (hb.frozen (p := ⟨b, 1, none⟩) hl).trans h.f1⟩
/-- What l8Longest tells. -/
def l8L (rs : List Rw) (t : Int) : Int := (lonF rs t).getD (-1)

set_option maxHeartbeats 1000000 in
theorem l8Longest_any (a : Option Addr) (rs : List Rw) (n c : Nat) (t : Int) (w : World) (hn : rs.length = n) (hm : n ≤ 60) (hu : Uniq rs) (hr : Rs rwE 4 w a rs) :
    Calls Tryz.prog 109 #[.slice a n c, .int .i64 t] w fun e w' => e = .returned (.int .i64 (l8L rs t)) ∧ w' = w := by
  have hcon := l6At_any a rs n c 0 t w hn (by omega) hr
  go_enter Tryz.func109, Tryz.ntmps109
  go_wp2_with (go_at_call 107; refine hcon.mono ?_)
  rintro e w' ⟨r, rfl, hA, hw⟩
  rw [hw]
  clear hw w' hcon
  rcases hA.f hu with ⟨rfl, hf⟩ | ⟨i, x, rfl, hx, hf⟩
  · have HL : Hid (l8L rs t = -1) := by show _ = _; unfold l8L lonF; rw [hf]; rfl
    clear hA hf
    go_wp2_with fail
    go_ret
    exact ⟨by rw [HL.out]; rfl, rfl⟩
  · have HL : Hid (l8L rs t = x.v) := by show _ = _; unfold l8L lonF; rw [hf]; rfl
    obtain ⟨b, off, rfl, X⟩ := hr.row hx
    have hi : i < n := by rw [← hn]; exact (List.getElem?_eq_some_iff.1 hx).1
    have hin : (i : Int) < (n : Int) := by omega
    have hi0 : ¬ (i : Int) < 0 := by omega
    clear hA hf hx
    obtain ⟨xt, xk, xv, xs⟩ := x
    obtain ⟨x0, x1, x2, x3⟩ := X
    dsimp only at x0 x1 x2 x3 HL
    go_wp2_with fail
    go_ret
    exact ⟨by rw [HL.out]; rfl, rfl⟩

end Go.Proofs.YtpjlpnaamkbicaaGreatDoor
