/-
  The model's l6Changes.
-/
import Derived.Test.YtmbllmhpnopbdaaFFChp

namespace Go.Proofs.Ytmbllmhpnopbdaa
open Go.RowKit Go.Maps
set_option linter.unusedVariables false

theorem ownsRow_turn1 {w w' : World} {base e size : Nat} {v : Value} {n cb : Nat} {xs : List Value} (h : w.ownsRow base e size v n xs) (t : Turned cb (cb + 1) w w') (hne : v.ownBlock ≠ some cb) : w'.ownsRow base e size v n xs :=
  World.ownsRow.kept h (row := some cb) ⟨t.os, t.tape, t.output, t.size, fun k hk hn => t.block k hk (fun h => hn (by rw [show k = cb by omega]))⟩ (.inr hne)

/-- What l6Changes hands back. -/
def LcPost (bs az : List Rw) (w : World) (e : Ending) (w' : World) : Prop :=
  ∃ v ks, e = .returned v ∧ Below w.heap.size w w' ∧ w'.ownsRow w.heap.size 28 10 v (chL bs az ks).length (flat chE (chL bs az ks)) ∧ KeyL bs az ks

theorem chL_len (bs az ks : List Rw) : (chL bs az ks).length ≤ ks.length := List.length_filterMap_le _ _

set_option maxRecDepth 20000 in
set_option maxHeartbeats 4000000 in
theorem l6Changes_any (a a' : Option Addr) (bs az : List Rw) (n n' c c' : Nat) (w : World) (hn : bs.length = n) (hn' : az.length = n') (hm : n ≤ 100) (hm' : n' ≤ 100) (hs : bs.Pairwise rLt) (hs' : az.Pairwise rLt) (hr : Rs rwE 4 w a bs) (hr' : Rs rwE 4 w a' az) :
    Calls Try.prog 13 #[.slice a n c, .slice a' n' c'] w fun e w' => LcPost bs az w e w' := by
  have HN : Hid (bs.length = n) := hn
  have HN' : Hid (az.length = n') := hn'
  have HB : Hid (∀ W, Below w.heap.size w W → Rs rwE 4 W a bs) := fun W hW => hr.below hW (Nat.le_refl _)
  have HA : Hid (∀ W, Below w.heap.size w W → Rs rwE 4 W a' az) := fun W hW => hr'.below hW (Nat.le_refl _)
  have HU : Hid (Uniq bs) := uniq_of hs
  have HU' : Hid (Uniq az) := uniq_of hs'
  have HS : Hid (bs.Pairwise rLt) := hs
  have gX : Below w.heap.size w (w.alloc (.cells #[] 26)) := by go_grown
  have hT2 := HB.out _ gX
  have hL : (w.alloc (.cells #[] 26)).ownsRow w.heap.size 26 4 (.slice (some ⟨w.heap.size, 0, none⟩) 0 0) ([] : List Rw).length (flat rwE []) := ownsRow_lit0 w 26 4
  have hn1 : Hid (([] : List Rw).length + bs.length ≤ 100000000) := by show _ ≤ _; rw [HN.out, List.length_nil]; omega
  have hn2 : Hid (w.heap.size ≤ (w.alloc (.cells #[] 26)).heap.size) := by show _ ≤ _; simp
  clear hn hn' hs hs' hr hr'
  go_enter Try.func13, Try.ntmps13
  go_wp2_with (at_builtin; refine wpList_append_sl elW _ rfl _ _ rfl w.heap.size _ [] bs a n c rfl rfl HN.out hL hT2 hn1.out hn2.out ?_)
  intro v3 w3 ho3 hg3 hbk
  have g3 : Below w.heap.size w w3 := Below.grown gX hg3 (by simp) (fun q e => (World.ownsRow.lt hL q e).1)
  obtain ⟨kg, kc, rfl⟩ := ownsRow_some ho3 (by rcases hbk with h | h <;> rw [h] <;> simp [Value.ownBlock])
  have HO3 : Hid (w3.ownsRow w.heap.size 26 4 (.slice (some ⟨kg, 0, none⟩) bs.length kc) bs.length (flat rwE bs)) := ho3
  clear hg3 hbk hT2 hL gX ho3
  go_wp2_with fail
  go_loopw [6, 5] (fun i v wr => ∃ j : Nat, j ≤ n' ∧ i = .int .i64 j ∧ Below w.heap.size w wr ∧ ∃ g cap rs, v = .slice (some ⟨g, 0, none⟩) rs.length cap ∧ wr.ownsRow w.heap.size 26 4 (.slice (some ⟨g, 0, none⟩) rs.length cap) rs.length (flat rwE rs) ∧ KeyL bs (az.take j) rs) (fun i _ _ => n' - (intOf i).toNat)
  case atStart => exact ⟨0, Nat.zero_le _, rfl, g3, kg, kc, bs, by simp, HO3.out, by simp, HS.out⟩
  case round =>
    clear HO3 g3
    obtain ⟨j, hj, rfl, gr, kg, kc, rs, rfl, ho, hord⟩ := hrel
    have hrl : rs.length ≤ 1000 := by
      have := hord.len
      rw [HN.out, List.length_take, HN'.out] at this
      omega
    obtain ⟨ka, kc', e', hcap, hin, _⟩ := SlIn.ofRow rwE_len ho
    cases e'
    have HK : Hid (Rs rwE 4 wr (some ⟨kg, 0, none⟩) rs) := hin.reads
    by_cases hlt : j < n'
    · obtain ⟨x, hx⟩ := at_lt (rs := az) (i := j) (by rw [HN'.out]; exact hlt)
      obtain ⟨b, off, rfl, X'⟩ := (HA.out _ gr).row hx
      obtain ⟨r, hA⟩ := atP_ex bs x.t x.k
      have hat := l6At_at a bs n c x.t x.k r wr HN.out (by omega) (HB.out _ gr) HU.out hA
      have hjn : (j : Int) < (n' : Int) := by omega
      have hgs := gr.size
      rcases hA.f HU.out with ⟨rfl, hf⟩ | ⟨i1, y, rfl, hy, hf⟩
      · have HStep : Hid (∀ new, PutAt rs x new → KeyL bs (az.take (j + 1)) new) := fun new h => hord.put HU'.out hx hf h
        clear hx hord hin hA hf ho
        obtain ⟨xt, xk, xv, xs0⟩ := x
        obtain ⟨x0, x1, x2, x3⟩ := X'
        dsimp only at x0 x1 x2 x3 hat
        go_upto_region 5 with (fail)
        go_quiet (first | (go_at_call 33; refine Calls.quiet_of_same (hat _)))
        have gq : Below w.heap.size w (wr.drewN nq) := gr.trans ⟨rfl, rfl, rfl, Nat.le_refl _, fun _ _ => rfl⟩
        have hcon := l6Put_any kg rs.length kc rs xt xk xv xs0 (wr.drewN nq) rfl hrl hcap (HK.out.below (B := wr.heap.size) ⟨rfl, rfl, rfl, Nat.le_refl _, fun _ _ => rfl⟩ (Nat.le_refl _))
        have hgs : w.heap.size ≤ (wr.drewN nq).heap.size := hgs
        generalize rs.length = rn at hcon ⊢
        go_wp2_with (go_at_call 34; refine hcon.mono ?_; rintro e w8 ⟨g8, c8, new, rfl, hP, b8, o8⟩)
        have HO : Hid (KeyL bs (az.take (j + 1)) new) := HStep.out new hP
        have b1 := gq.trans (b8.mono gq.size)
        have o8 := ownsRow_base o8 hgs
        clear hP hcon HStep
        go_wp2_with fail
        go_roundw
        case rel => exact ⟨j + 1, by omega, by go_num, b1, _, _, new, rfl, o8, HO.out⟩
        case measure => simp [intOf]; omega
      · have HO : Hid (KeyL bs (az.take (j + 1)) rs) := hord.skip hx hf
        have hi0 : ¬ ((i1 : Int) < 0) := by omega
        have HW : Hid (wr.ownsRow w.heap.size 26 4 (.slice (some ⟨kg, 0, none⟩) rs.length kc) rs.length (flat rwE rs)) := ho
        clear hx hord hin hA hf ho hy
        obtain ⟨xt, xk, xv, xs0⟩ := x
        obtain ⟨x0, x1, x2, x3⟩ := X'
        dsimp only at x0 x1 x2 x3 hat
        go_upto_region 5 with (fail)
        go_quiet (first | (go_at_call 33; refine Calls.quiet_of_same (hat _)))
        have gq : Below w.heap.size w (wr.drewN nq) := gr.trans ⟨rfl, rfl, rfl, Nat.le_refl _, fun _ _ => rfl⟩
        go_wp2_with fail
        go_roundw
        case rel => exact ⟨j + 1, by omega, by go_num, gq, kg, kc, rs, rfl, ownsRow_below HW.out ⟨rfl, rfl, rfl, Nat.le_refl _, fun _ _ => rfl⟩, HO.out⟩
        case measure => simp [intOf]; omega
    · have HE : Hid (KeyL bs az rs) := by
        show KeyL _ _ _
        have : az.take j = az := List.take_of_length_le (by rw [HN'.out]; omega)
        rw [this] at hord
        exact hord
      have hjm : ¬ (j : Int) < (n' : Int) := by omega
      obtain ⟨w1, hw1⟩ : ∃ w1, w1 = wr := ⟨wr, rfl⟩
      subst hw1
      have HB1 : Hid (Rs rwE 4 w1 a bs) := HB.out _ gr
      have HA1 : Hid (Rs rwE 4 w1 a' az) := HA.out _ gr
      obtain ⟨m, hm0⟩ : ∃ m, m = rs.length := ⟨_, rfl⟩
      have HM : Hid (rs.length = m) := hm0.symm
      have hm1 : m ≤ 1000 := by rw [hm0]; exact hrl
      have gA : Below w1.heap.size w1 (w1.alloc (.cells #[] 28)) := by go_grown
      have hL : (w1.alloc (.cells #[] 28)).ownsRow w1.heap.size 28 10 (.slice (some ⟨w1.heap.size, 0, none⟩) 0 0) (chL bs az (rs.take 0)).length (flat chE (chL bs az (rs.take 0))) := ownsRow_lit0 w1 28 10
      rw [← hm0]
      clear hm0 ho hin hord hrl hcap
      go_wp2_with fail
      go_loopw [8, 7] (fun i v wz => ∃ j2 : Nat, j2 ≤ m ∧ i = .int .i64 j2 ∧ Below w1.heap.size w1 wz ∧ wz.ownsRow w1.heap.size 28 10 v (chL bs az (rs.take j2)).length (flat chE (chL bs az (rs.take j2)))) (fun i _ _ => m - (intOf i).toNat)
      case atStart => exact ⟨0, Nat.zero_le _, rfl, gA, hL⟩
      case round =>
        clear hL gA
        obtain ⟨wq, hwq⟩ : ∃ wq, wq = wr := ⟨wr, rfl⟩
        subst hwq
        obtain ⟨j2, hj2, rfl, gq, ho⟩ := hrel
        by_cases hlt2 : j2 < m
        · obtain ⟨x, hx⟩ := at_lt (rs := rs) (i := j2) (by rw [HM.out]; exact hlt2)
          have X' := (HK.out.below gq (Nat.le_refl _)).rowAt hx
          rw [Nat.zero_add] at X'
          obtain ⟨r1, hA1⟩ := atP_ex bs x.t x.k
          obtain ⟨r2, hA2⟩ := atP_ex az x.t x.k
          have hat1 := fun (V : World) (hV : Below w1.heap.size w1 V) => l6At_at a bs n c x.t x.k r1 V HN.out (by omega) (HB1.out.below hV (Nat.le_refl _)) HU.out hA1
          have hat2 := fun (V : World) (hV : Below w1.heap.size w1 V) => l6At_at a' az n' c' x.t x.k r2 V HN'.out (by omega) (HA1.out.below hV (Nat.le_refl _)) HU'.out hA2
          have hjn2 : (j2 : Int) < (m : Int) := by omega
          have HT : Hid (chL bs az (rs.take (j2 + 1)) = chL bs az (rs.take j2) ++ (chK bs az x.t x.k).toList) := chL_snoc hx
          have hno := HE.out.some (List.mem_of_getElem? hx)
          have hlen : (chL bs az (rs.take j2)).length + 1 ≤ 100000000 := by
            have := chL_len bs az (rs.take j2)
            rw [List.length_take] at this
            omega
          generalize chL bs az (rs.take j2) = cs at ho HT hlen
          have hF1 := hA1.f HU.out
          have hF2 := hA2.f HU'.out
          clear hx hA1 hA2
          obtain ⟨xt, xk, xv, xs0⟩ := x
          obtain ⟨x0, x1, x2, x3⟩ := X'
          dsimp only at x0 x1 x2 x3 hat1 hat2 HT hno hF1 hF2
          go_upto_region 11 with (fail)
          go_quiet (first | (go_at_call 33; refine Calls.quiet_of_same (hat1 _ gq _)))
          have gq1 : Below w1.heap.size w1 (wq.drewN nq) := gq.trans ⟨rfl, rfl, rfl, Nat.le_refl _, fun _ _ => rfl⟩
          have ho := ownsRow_below ho (w' := wq.drewN nq) ⟨rfl, rfl, rfl, Nat.le_refl _, fun _ _ => rfl⟩
          have x0 : (wq.drewN nq).cell? ⟨kg, j2 * 4, none⟩ = _ := x0
          have x1 : (wq.drewN nq).cell? ⟨kg, j2 * 4 + 1, none⟩ = _ := x1
          clear gq hat1
          have gq := gq1
          clear gq1
          generalize wq.drewN nq = wq at gq ho x0 x1 ⊢
          go_upto_region 12 with (fail)
          go_quiet (first | (go_at_call 33; refine Calls.quiet_of_same (hat2 _ gq _)))
          have gq1 : Below w1.heap.size w1 (wq.drewN nq) := gq.trans ⟨rfl, rfl, rfl, Nat.le_refl _, fun _ _ => rfl⟩
          have ho := ownsRow_below ho (w' := wq.drewN nq) ⟨rfl, rfl, rfl, Nat.le_refl _, fun _ _ => rfl⟩
          clear gq hat2 x0 x1 x2 x3
          have gq := gq1
          clear gq1
          generalize wq.drewN nq = wq at gq ho ⊢
          rcases hF1 with ⟨rfl, hf1⟩ | ⟨i1, y1, rfl, hy1, hf1⟩
          · rcases hF2 with ⟨rfl, hf2⟩ | ⟨i2, y2, rfl, hy2, hf2⟩
            · exact absurd ⟨hf1, hf2⟩ hno
            · have HCh : Hid ((chK bs az xt xk).toList = [⟨false, zR, true, y2⟩]) := by
                show _ = _
                unfold chK chAt
                rw [hf1, hf2]; rfl
              obtain ⟨_, e1, e2⟩ := fR_mem hf2
              obtain ⟨y2t, y2k, y2v, y2s⟩ := y2
              dsimp only at e1 e2
              subst e1 e2
              have HY2 : Hid (az[i2]? = some _) := hy2
              obtain ⟨ab, ao, rfl, _⟩ := HA1.out.row hy2
              have hi2 : (i2 : Int) < (n' : Int) := by have := (List.getElem?_eq_some_iff.1 hy2).1; rw [HN'.out] at this; omega
              have d2 : decide ((0 : Int) ≤ (i2 : Int)) = true := by simp
              clear hf1 hf2 hno hy2
              go_upto_region 13 with (fail)
              go_quiet (fail)
              have gq : Below w1.heap.size w1 (wq.drewN nq) := gq.trans ⟨rfl, rfl, rfl, Nat.le_refl _, fun _ _ => rfl⟩
              have ho := ownsRow_below ho (w' := wq.drewN nq) ⟨rfl, rfl, rfl, Nat.le_refl _, fun _ _ => rfl⟩
              generalize wq.drewN nq = wq at gq ho ⊢
              go_upto_region 15 with (fail)
              generalize hY : World.alloc _ _ = Y
              have gY : Below wq.heap.size wq Y := by rw [← hY]; go_grown
              have Z : ChC Y wq.heap.size 0 ⟨false, ⟨0, 0, 0, ⟨#[]⟩⟩, true, ⟨0, 0, 0, ⟨#[]⟩⟩⟩ := by rw [← hY]; exact ⟨by simp [go_sem], by simp [go_sem], by simp [go_sem], by simp [go_sem], by simp [go_sem], by simp [go_sem], by simp [go_sem], by simp [go_sem], by simp [go_sem], by simp [go_sem]⟩
              have hfz : ∀ c, Y.frozen? ⟨wq.heap.size, c, none⟩ = false := by intro c; rw [← hY]; simp [go_sem]
              have hlow : ∀ k, u7.ownBlock = some k → w1.heap.size ≤ k ∧ k ≠ wq.heap.size := fun k hk => ⟨(ho.lt k hk).1, by have := (ho.lt k hk).2; omega⟩
              have ho := ownsRow_below ho gY
              have hcl : w1.heap.size ≤ wq.heap.size := gq.size
              have gq := gq.trans (gY.mono gq.size)
              clear hY gY
              generalize wq.heap.size = cb at Z hfz hcl hlow ⊢
              have C := (HA1.out.below gq (Nat.le_refl _)).rowAt HY2.out
              obtain ⟨x0, x1, x2, x3⟩ := C
              obtain ⟨z0, z1, z2, z3, z4, z5, z6, z7, z8, z9⟩ := Z
              have f6 := hfz 6
              have f7 := hfz 7
              have f8 := hfz 8
              have f9 := hfz 9
              dsimp only at x0 x1 x2 x3 z0 z1 z2 z3 z4 z5 z6 z7 z8 z9
              go_upto_region 19 with (fail)
              generalize hY : World.setCell _ _ _ = Y2
              have Z : ChC Y2 cb 0 ⟨false, ⟨0, 0, 0, ⟨#[]⟩⟩, true, ⟨y2t, y2k, y2v, y2s⟩⟩ := by rw [← hY]; clear hY; exact ⟨by simp [go_sem, *], by simp [go_sem, *], by simp [go_sem, *], by simp [go_sem, *], by simp [go_sem, *], by simp [go_sem, *], by simp [go_sem, *], by simp [go_sem, *], by simp [go_sem, *], by simp [go_sem, *]⟩
              have hfz2 : ∀ c, Y2.frozen? ⟨cb, c, none⟩ = false := by intro c; rw [← hY]; simp [go_sem, hfz]
              have T3 : Turned cb (cb + 1) Y Y2 := by
                rw [← hY]
                exact ((((Turned.refl _ _ _).setCell (p := ⟨cb, 6, none⟩) (Nat.le_refl _) (Nat.lt_succ_self _) _).setCell (p := ⟨cb, 7, none⟩) (Nat.le_refl _) (Nat.lt_succ_self _) _).setCell (p := ⟨cb, 8, none⟩) (Nat.le_refl _) (Nat.lt_succ_self _) _).setCell (p := ⟨cb, 9, none⟩) (Nat.le_refl _) (Nat.lt_succ_self _) _
              have ho : Y2.ownsRow w1.heap.size 28 10 u7 cs.length (flat chE cs) := ownsRow_turn1 ho T3 (fun h => (hlow _ h).2 rfl)
              have gq : Below w1.heap.size w1 Y2 := gq.trans (T3.toBelow gq.size hcl)
              have hfz := hfz2
              clear hY T3 hfz2 x0 x1 x2 x3 z0 z1 z2 z3 z4 z5 z6 z7 z8 z9 f6 f7 f8 f9
              obtain ⟨z0, z1, z2, z3, z4, z5, z6, z7, z8, z9⟩ := Z
              dsimp only at z0 z1 z2 z3 z4 z5 z6 z7 z8 z9
              have hgs2 := gq.size
              go_wp2_with (at_builtin; refine wpList_append_sl elC _ rfl _ _ rfl w1.heap.size _ cs [⟨false, ⟨0, 0, 0, ⟨#[]⟩⟩, true, ⟨y2t, y2k, y2v, y2s⟩⟩] (some ⟨Y2.heap.size, 0, none⟩) 1 1 rfl rfl rfl (ownsRow_below ho (by go_grown)) (rs_one (enc := chE) Y2 ⟨false, ⟨0, 0, 0, ⟨#[]⟩⟩, true, ⟨y2t, y2k, y2v, y2s⟩⟩ 28) hlen (by simp; omega) ?_)
              intro v' w' ho' hg' _
              have ho2 : w'.ownsRow w1.heap.size 28 10 v' (chL bs az (rs.take (j2 + 1))).length (flat chE (chL bs az (rs.take (j2 + 1)))) := by rw [HT.out, HCh.out, List.length_append]; exact ho'
              have gr2 : Below w1.heap.size w1 w' := Below.grown (gq.trans ((((Below.refl _ Y2).alloc (Nat.le_refl _) _)).mono gq.size)) hg' (by simp; omega) (fun k hk => (hlow k hk).1)
              clear ho' hg' ho z0 z1 z2 z3 z4 z5 z6 z7 z8 z9 gq
              go_wp2_with fail
              go_roundw
              case rel => exact ⟨j2 + 1, by omega, by go_num, gr2, ho2⟩
              case measure => simp [intOf]; omega
          · rcases hF2 with ⟨rfl, hf2⟩ | ⟨i2, y2, rfl, hy2, hf2⟩
            · have HCh : Hid ((chK bs az xt xk).toList = [⟨true, y1, false, zR⟩]) := by
                show _ = _
                unfold chK chAt
                rw [hf1, hf2]; rfl
              obtain ⟨_, e1, e2⟩ := fR_mem hf1
              obtain ⟨y1t, y1k, y1v, y1s⟩ := y1
              dsimp only at e1 e2
              subst e1 e2
              have HY1 : Hid (bs[i1]? = some _) := hy1
              obtain ⟨bb, bo, rfl, _⟩ := HB1.out.row hy1
              have hi1 : (i1 : Int) < (n : Int) := by have := (List.getElem?_eq_some_iff.1 hy1).1; rw [HN.out] at this; omega
              have d1 : decide ((0 : Int) ≤ (i1 : Int)) = true := by simp
              clear hf1 hf2 hno hy1
              go_upto_region 13 with (fail)
              go_quiet (fail)
              have gq : Below w1.heap.size w1 (wq.drewN nq) := gq.trans ⟨rfl, rfl, rfl, Nat.le_refl _, fun _ _ => rfl⟩
              have ho := ownsRow_below ho (w' := wq.drewN nq) ⟨rfl, rfl, rfl, Nat.le_refl _, fun _ _ => rfl⟩
              generalize wq.drewN nq = wq at gq ho ⊢
              go_upto_region 15 with (fail)
              generalize hY : World.alloc _ _ = Y
              have gY : Below wq.heap.size wq Y := by rw [← hY]; go_grown
              have Z : ChC Y wq.heap.size 0 ⟨true, ⟨0, 0, 0, ⟨#[]⟩⟩, false, ⟨0, 0, 0, ⟨#[]⟩⟩⟩ := by rw [← hY]; exact ⟨by simp [go_sem], by simp [go_sem], by simp [go_sem], by simp [go_sem], by simp [go_sem], by simp [go_sem], by simp [go_sem], by simp [go_sem], by simp [go_sem], by simp [go_sem]⟩
              have hfz : ∀ c, Y.frozen? ⟨wq.heap.size, c, none⟩ = false := by intro c; rw [← hY]; simp [go_sem]
              have hlow : ∀ k, u7.ownBlock = some k → w1.heap.size ≤ k ∧ k ≠ wq.heap.size := fun k hk => ⟨(ho.lt k hk).1, by have := (ho.lt k hk).2; omega⟩
              have ho := ownsRow_below ho gY
              have hcl : w1.heap.size ≤ wq.heap.size := gq.size
              have gq := gq.trans (gY.mono gq.size)
              clear hY gY
              generalize wq.heap.size = cb at Z hfz hcl hlow ⊢
              have C := (HB1.out.below gq (Nat.le_refl _)).rowAt HY1.out
              obtain ⟨x0, x1, x2, x3⟩ := C
              obtain ⟨z0, z1, z2, z3, z4, z5, z6, z7, z8, z9⟩ := Z
              have f1 := hfz 1
              have f2 := hfz 2
              have f3 := hfz 3
              have f4 := hfz 4
              dsimp only at x0 x1 x2 x3 z0 z1 z2 z3 z4 z5 z6 z7 z8 z9
              go_upto_region 17 with (fail)
              generalize hY : World.setCell _ _ _ = Y2
              have Z : ChC Y2 cb 0 ⟨true, ⟨y1t, y1k, y1v, y1s⟩, false, ⟨0, 0, 0, ⟨#[]⟩⟩⟩ := by rw [← hY]; clear hY; exact ⟨by simp [go_sem, *], by simp [go_sem, *], by simp [go_sem, *], by simp [go_sem, *], by simp [go_sem, *], by simp [go_sem, *], by simp [go_sem, *], by simp [go_sem, *], by simp [go_sem, *], by simp [go_sem, *]⟩
              have hfz2 : ∀ c, Y2.frozen? ⟨cb, c, none⟩ = false := by intro c; rw [← hY]; simp [go_sem, hfz]
              have T3 : Turned cb (cb + 1) Y Y2 := by
                rw [← hY]
                exact ((((Turned.refl _ _ _).setCell (p := ⟨cb, 1, none⟩) (Nat.le_refl _) (Nat.lt_succ_self _) _).setCell (p := ⟨cb, 2, none⟩) (Nat.le_refl _) (Nat.lt_succ_self _) _).setCell (p := ⟨cb, 3, none⟩) (Nat.le_refl _) (Nat.lt_succ_self _) _).setCell (p := ⟨cb, 4, none⟩) (Nat.le_refl _) (Nat.lt_succ_self _) _
              have ho : Y2.ownsRow w1.heap.size 28 10 u7 cs.length (flat chE cs) := ownsRow_turn1 ho T3 (fun h => (hlow _ h).2 rfl)
              have gq : Below w1.heap.size w1 Y2 := gq.trans (T3.toBelow gq.size hcl)
              have hfz := hfz2
              clear hY T3 hfz2 x0 x1 x2 x3 z0 z1 z2 z3 z4 z5 z6 z7 z8 z9 f1 f2 f3 f4
              obtain ⟨z0, z1, z2, z3, z4, z5, z6, z7, z8, z9⟩ := Z
              dsimp only at z0 z1 z2 z3 z4 z5 z6 z7 z8 z9
              have hgs2 := gq.size
              go_wp2_with (at_builtin; refine wpList_append_sl elC _ rfl _ _ rfl w1.heap.size _ cs [⟨true, ⟨y1t, y1k, y1v, y1s⟩, false, ⟨0, 0, 0, ⟨#[]⟩⟩⟩] (some ⟨Y2.heap.size, 0, none⟩) 1 1 rfl rfl rfl (ownsRow_below ho (by go_grown)) (rs_one (enc := chE) Y2 ⟨true, ⟨y1t, y1k, y1v, y1s⟩, false, ⟨0, 0, 0, ⟨#[]⟩⟩⟩ 28) hlen (by simp; omega) ?_)
              intro v' w' ho' hg' _
              have ho2 : w'.ownsRow w1.heap.size 28 10 v' (chL bs az (rs.take (j2 + 1))).length (flat chE (chL bs az (rs.take (j2 + 1)))) := by rw [HT.out, HCh.out, List.length_append]; exact ho'
              have gr2 : Below w1.heap.size w1 w' := Below.grown (gq.trans ((((Below.refl _ Y2).alloc (Nat.le_refl _) _)).mono gq.size)) hg' (by simp; omega) (fun k hk => (hlow k hk).1)
              clear ho' hg' ho z0 z1 z2 z3 z4 z5 z6 z7 z8 z9 gq
              go_wp2_with fail
              go_roundw
              case rel => exact ⟨j2 + 1, by omega, by go_num, gr2, ho2⟩
              case measure => simp [intOf]; omega
            · obtain ⟨_, e1, e2⟩ := fR_mem hf1
              obtain ⟨_, e3, e4⟩ := fR_mem hf2
              have HC : Hid (chK bs az xt xk = if noB ⟨true, y1, true, y2⟩ = true then none else some ⟨true, y1, true, y2⟩) := by
                show _ = _
                unfold chK chAt
                rw [hf1, hf2]
                cases h : noB ⟨true, y1, true, y2⟩ <;> simp [Option.filter, h]
              have HY1 : Hid (bs[i1]? = some y1) := hy1
              have HY2 : Hid (az[i2]? = some y2) := hy2
              obtain ⟨bb, bo, rfl, _⟩ := HB1.out.row hy1
              obtain ⟨ab, ao, rfl, _⟩ := HA1.out.row hy2
              have hi1 : (i1 : Int) < (n : Int) := by have := (List.getElem?_eq_some_iff.1 hy1).1; rw [HN.out] at this; omega
              have hi2 : (i2 : Int) < (n' : Int) := by have := (List.getElem?_eq_some_iff.1 hy2).1; rw [HN'.out] at this; omega
              have d1 : decide ((0 : Int) ≤ (i1 : Int)) = true := by simp
              have d2 : decide ((0 : Int) ≤ (i2 : Int)) = true := by simp
              have X1 := (HB1.out.below gq (Nat.le_refl _)).rowAt hy1
              have X2 := (HA1.out.below gq (Nat.le_refl _)).rowAt hy2
              clear hf1 hf2 hno hy1 hy2
              obtain ⟨y1t, y1k, y1v, y1s⟩ := y1
              obtain ⟨y2t, y2k, y2v, y2s⟩ := y2
              dsimp only at e1 e2 e3 e4
              subst e1 e2 e3 e4
              obtain ⟨p0, p1, p2, p3⟩ := X1
              obtain ⟨q0, q1, q2, q3⟩ := X2
              dsimp only at p0 p1 p2 p3 q0 q1 q2 q3
              by_cases hv : y1v = y2v
              · subst hv
                by_cases hsq : y1s = y2s
                · subst hsq
                  have HCh : Hid ((chK bs az y2t y2k).toList = []) := by
                    show _ = _
                    rw [HC.out, if_pos (by simp [noB, rwEq])]; rfl
                  go_upto_region 13 with (fail)
                  go_quiet (fail)
                  have gq : Below w1.heap.size w1 (wq.drewN nq) := gq.trans ⟨rfl, rfl, rfl, Nat.le_refl _, fun _ _ => rfl⟩
                  have ho := ownsRow_below ho (w' := wq.drewN nq) ⟨rfl, rfl, rfl, Nat.le_refl _, fun _ _ => rfl⟩
                  generalize wq.drewN nq = wq at gq ho ⊢
                  clear p0 p1 p2 p3 q0 q1 q2 q3
                  have ho2 : wq.ownsRow w1.heap.size 28 10 u7 (chL bs az (rs.take (j2 + 1))).length (flat chE (chL bs az (rs.take (j2 + 1)))) := by rw [HT.out, HCh.out, List.append_nil]; exact ho
                  go_wp2_with fail
                  go_roundw
                  case rel => exact ⟨j2 + 1, by omega, by go_num, gq, ho2⟩
                  case measure => simp [intOf]; omega
                · have dd : ¬ y1s.toList = y2s.toList := fun h => hsq (by rw [ByteArray.toList_eq, ByteArray.toList_eq] at h; exact ByteArray.ext (Array.toList_inj.1 h))
                  have HCh : Hid ((chK bs az y2t y2k).toList = [⟨true, ⟨y2t, y2k, y1v, y1s⟩, true, ⟨y2t, y2k, y1v, y2s⟩⟩]) := by
                    show _ = _
                    rw [HC.out, if_neg (by simp [noB, rwEq, hsq])]; rfl
                  go_upto_region 13 with (fail)
                  go_quiet (fail)
                  have gq : Below w1.heap.size w1 (wq.drewN nq) := gq.trans ⟨rfl, rfl, rfl, Nat.le_refl _, fun _ _ => rfl⟩
                  have ho := ownsRow_below ho (w' := wq.drewN nq) ⟨rfl, rfl, rfl, Nat.le_refl _, fun _ _ => rfl⟩
                  generalize wq.drewN nq = wq at gq ho ⊢
                  clear p0 p1 p2 p3 q0 q1 q2 q3 dd
                  go_upto_region 15 with (fail)
                  generalize hY : World.alloc _ _ = Y
                  have gY : Below wq.heap.size wq Y := by rw [← hY]; go_grown
                  have Z : ChC Y wq.heap.size 0 ⟨true, ⟨0, 0, 0, ⟨#[]⟩⟩, true, ⟨0, 0, 0, ⟨#[]⟩⟩⟩ := by rw [← hY]; exact ⟨by simp [go_sem], by simp [go_sem], by simp [go_sem], by simp [go_sem], by simp [go_sem], by simp [go_sem], by simp [go_sem], by simp [go_sem], by simp [go_sem], by simp [go_sem]⟩
                  have hfz : ∀ c, Y.frozen? ⟨wq.heap.size, c, none⟩ = false := by intro c; rw [← hY]; simp [go_sem]
                  have hlow : ∀ k, u7.ownBlock = some k → w1.heap.size ≤ k ∧ k ≠ wq.heap.size := fun k hk => ⟨(ho.lt k hk).1, by have := (ho.lt k hk).2; omega⟩
                  have ho := ownsRow_below ho gY
                  have hcl : w1.heap.size ≤ wq.heap.size := gq.size
                  have gq := gq.trans (gY.mono gq.size)
                  clear hY gY
                  generalize wq.heap.size = cb at Z hfz hcl hlow ⊢
                  have C := (HB1.out.below gq (Nat.le_refl _)).rowAt HY1.out
                  obtain ⟨x0, x1, x2, x3⟩ := C
                  obtain ⟨z0, z1, z2, z3, z4, z5, z6, z7, z8, z9⟩ := Z
                  have f1 := hfz 1
                  have f2 := hfz 2
                  have f3 := hfz 3
                  have f4 := hfz 4
                  dsimp only at x0 x1 x2 x3 z0 z1 z2 z3 z4 z5 z6 z7 z8 z9
                  go_upto_region 17 with (fail)
                  generalize hY : World.setCell _ _ _ = Y2
                  have Z : ChC Y2 cb 0 ⟨true, ⟨y2t, y2k, y1v, y1s⟩, true, ⟨0, 0, 0, ⟨#[]⟩⟩⟩ := by rw [← hY]; clear hY; exact ⟨by simp [go_sem, *], by simp [go_sem, *], by simp [go_sem, *], by simp [go_sem, *], by simp [go_sem, *], by simp [go_sem, *], by simp [go_sem, *], by simp [go_sem, *], by simp [go_sem, *], by simp [go_sem, *]⟩
                  have hfz2 : ∀ c, Y2.frozen? ⟨cb, c, none⟩ = false := by intro c; rw [← hY]; simp [go_sem, hfz]
                  have T3 : Turned cb (cb + 1) Y Y2 := by
                    rw [← hY]
                    exact ((((Turned.refl _ _ _).setCell (p := ⟨cb, 1, none⟩) (Nat.le_refl _) (Nat.lt_succ_self _) _).setCell (p := ⟨cb, 2, none⟩) (Nat.le_refl _) (Nat.lt_succ_self _) _).setCell (p := ⟨cb, 3, none⟩) (Nat.le_refl _) (Nat.lt_succ_self _) _).setCell (p := ⟨cb, 4, none⟩) (Nat.le_refl _) (Nat.lt_succ_self _) _
                  have ho : Y2.ownsRow w1.heap.size 28 10 u7 cs.length (flat chE cs) := ownsRow_turn1 ho T3 (fun h => (hlow _ h).2 rfl)
                  have gq : Below w1.heap.size w1 Y2 := gq.trans (T3.toBelow gq.size hcl)
                  have hfz := hfz2
                  clear hY T3 hfz2 x0 x1 x2 x3 z0 z1 z2 z3 z4 z5 z6 z7 z8 z9 f1 f2 f3 f4
                  have C := (HA1.out.below gq (Nat.le_refl _)).rowAt HY2.out
                  obtain ⟨x0, x1, x2, x3⟩ := C
                  obtain ⟨z0, z1, z2, z3, z4, z5, z6, z7, z8, z9⟩ := Z
                  have f6 := hfz 6
                  have f7 := hfz 7
                  have f8 := hfz 8
                  have f9 := hfz 9
                  dsimp only at x0 x1 x2 x3 z0 z1 z2 z3 z4 z5 z6 z7 z8 z9
                  go_upto_region 19 with (fail)
                  generalize hY : World.setCell _ _ _ = Y3
                  have Z : ChC Y3 cb 0 ⟨true, ⟨y2t, y2k, y1v, y1s⟩, true, ⟨y2t, y2k, y1v, y2s⟩⟩ := by rw [← hY]; clear hY; exact ⟨by simp [go_sem, *], by simp [go_sem, *], by simp [go_sem, *], by simp [go_sem, *], by simp [go_sem, *], by simp [go_sem, *], by simp [go_sem, *], by simp [go_sem, *], by simp [go_sem, *], by simp [go_sem, *]⟩
                  have hfz2 : ∀ c, Y3.frozen? ⟨cb, c, none⟩ = false := by intro c; rw [← hY]; simp [go_sem, hfz]
                  have T3 : Turned cb (cb + 1) Y2 Y3 := by
                    rw [← hY]
                    exact ((((Turned.refl _ _ _).setCell (p := ⟨cb, 6, none⟩) (Nat.le_refl _) (Nat.lt_succ_self _) _).setCell (p := ⟨cb, 7, none⟩) (Nat.le_refl _) (Nat.lt_succ_self _) _).setCell (p := ⟨cb, 8, none⟩) (Nat.le_refl _) (Nat.lt_succ_self _) _).setCell (p := ⟨cb, 9, none⟩) (Nat.le_refl _) (Nat.lt_succ_self _) _
                  have ho : Y3.ownsRow w1.heap.size 28 10 u7 cs.length (flat chE cs) := ownsRow_turn1 ho T3 (fun h => (hlow _ h).2 rfl)
                  have gq : Below w1.heap.size w1 Y3 := gq.trans (T3.toBelow gq.size hcl)
                  have hfz := hfz2
                  clear hY T3 hfz2 x0 x1 x2 x3 z0 z1 z2 z3 z4 z5 z6 z7 z8 z9 f6 f7 f8 f9
                  obtain ⟨z0, z1, z2, z3, z4, z5, z6, z7, z8, z9⟩ := Z
                  dsimp only at z0 z1 z2 z3 z4 z5 z6 z7 z8 z9
                  have hgs2 := gq.size
                  go_wp2_with (at_builtin; refine wpList_append_sl elC _ rfl _ _ rfl w1.heap.size _ cs [⟨true, ⟨y2t, y2k, y1v, y1s⟩, true, ⟨y2t, y2k, y1v, y2s⟩⟩] (some ⟨Y3.heap.size, 0, none⟩) 1 1 rfl rfl rfl (ownsRow_below ho (by go_grown)) (rs_one (enc := chE) Y3 ⟨true, ⟨y2t, y2k, y1v, y1s⟩, true, ⟨y2t, y2k, y1v, y2s⟩⟩ 28) hlen (by simp; omega) ?_)
                  intro v' w' ho' hg' _
                  have ho2 : w'.ownsRow w1.heap.size 28 10 v' (chL bs az (rs.take (j2 + 1))).length (flat chE (chL bs az (rs.take (j2 + 1)))) := by rw [HT.out, HCh.out, List.length_append]; exact ho'
                  have gr2 : Below w1.heap.size w1 w' := Below.grown (gq.trans ((((Below.refl _ Y3).alloc (Nat.le_refl _) _)).mono gq.size)) hg' (by simp; omega) (fun k hk => (hlow k hk).1)
                  clear ho' hg' ho z0 z1 z2 z3 z4 z5 z6 z7 z8 z9 gq
                  go_wp2_with fail
                  go_roundw
                  case rel => exact ⟨j2 + 1, by omega, by go_num, gr2, ho2⟩
                  case measure => simp [intOf]; omega
              · have dd : (y1v == y2v) = false := by simpa using hv
                have HCh : Hid ((chK bs az y2t y2k).toList = [⟨true, ⟨y2t, y2k, y1v, y1s⟩, true, ⟨y2t, y2k, y2v, y2s⟩⟩]) := by
                  show _ = _
                  rw [HC.out, if_neg (by simp [noB, rwEq, hv])]; rfl
                go_upto_region 13 with (fail)
                go_quiet (fail)
                have gq : Below w1.heap.size w1 (wq.drewN nq) := gq.trans ⟨rfl, rfl, rfl, Nat.le_refl _, fun _ _ => rfl⟩
                have ho := ownsRow_below ho (w' := wq.drewN nq) ⟨rfl, rfl, rfl, Nat.le_refl _, fun _ _ => rfl⟩
                generalize wq.drewN nq = wq at gq ho ⊢
                clear p0 p1 p2 p3 q0 q1 q2 q3 dd
                go_upto_region 15 with (fail)
                generalize hY : World.alloc _ _ = Y
                have gY : Below wq.heap.size wq Y := by rw [← hY]; go_grown
                have Z : ChC Y wq.heap.size 0 ⟨true, ⟨0, 0, 0, ⟨#[]⟩⟩, true, ⟨0, 0, 0, ⟨#[]⟩⟩⟩ := by rw [← hY]; exact ⟨by simp [go_sem], by simp [go_sem], by simp [go_sem], by simp [go_sem], by simp [go_sem], by simp [go_sem], by simp [go_sem], by simp [go_sem], by simp [go_sem], by simp [go_sem]⟩
                have hfz : ∀ c, Y.frozen? ⟨wq.heap.size, c, none⟩ = false := by intro c; rw [← hY]; simp [go_sem]
                have hlow : ∀ k, u7.ownBlock = some k → w1.heap.size ≤ k ∧ k ≠ wq.heap.size := fun k hk => ⟨(ho.lt k hk).1, by have := (ho.lt k hk).2; omega⟩
                have ho := ownsRow_below ho gY
                have hcl : w1.heap.size ≤ wq.heap.size := gq.size
                have gq := gq.trans (gY.mono gq.size)
                clear hY gY
                generalize wq.heap.size = cb at Z hfz hcl hlow ⊢
                have C := (HB1.out.below gq (Nat.le_refl _)).rowAt HY1.out
                obtain ⟨x0, x1, x2, x3⟩ := C
                obtain ⟨z0, z1, z2, z3, z4, z5, z6, z7, z8, z9⟩ := Z
                have f1 := hfz 1
                have f2 := hfz 2
                have f3 := hfz 3
                have f4 := hfz 4
                dsimp only at x0 x1 x2 x3 z0 z1 z2 z3 z4 z5 z6 z7 z8 z9
                go_upto_region 17 with (fail)
                generalize hY : World.setCell _ _ _ = Y2
                have Z : ChC Y2 cb 0 ⟨true, ⟨y2t, y2k, y1v, y1s⟩, true, ⟨0, 0, 0, ⟨#[]⟩⟩⟩ := by rw [← hY]; clear hY; exact ⟨by simp [go_sem, *], by simp [go_sem, *], by simp [go_sem, *], by simp [go_sem, *], by simp [go_sem, *], by simp [go_sem, *], by simp [go_sem, *], by simp [go_sem, *], by simp [go_sem, *], by simp [go_sem, *]⟩
                have hfz2 : ∀ c, Y2.frozen? ⟨cb, c, none⟩ = false := by intro c; rw [← hY]; simp [go_sem, hfz]
                have T3 : Turned cb (cb + 1) Y Y2 := by
                  rw [← hY]
                  exact ((((Turned.refl _ _ _).setCell (p := ⟨cb, 1, none⟩) (Nat.le_refl _) (Nat.lt_succ_self _) _).setCell (p := ⟨cb, 2, none⟩) (Nat.le_refl _) (Nat.lt_succ_self _) _).setCell (p := ⟨cb, 3, none⟩) (Nat.le_refl _) (Nat.lt_succ_self _) _).setCell (p := ⟨cb, 4, none⟩) (Nat.le_refl _) (Nat.lt_succ_self _) _
                have ho : Y2.ownsRow w1.heap.size 28 10 u7 cs.length (flat chE cs) := ownsRow_turn1 ho T3 (fun h => (hlow _ h).2 rfl)
                have gq : Below w1.heap.size w1 Y2 := gq.trans (T3.toBelow gq.size hcl)
                have hfz := hfz2
                clear hY T3 hfz2 x0 x1 x2 x3 z0 z1 z2 z3 z4 z5 z6 z7 z8 z9 f1 f2 f3 f4
                have C := (HA1.out.below gq (Nat.le_refl _)).rowAt HY2.out
                obtain ⟨x0, x1, x2, x3⟩ := C
                obtain ⟨z0, z1, z2, z3, z4, z5, z6, z7, z8, z9⟩ := Z
                have f6 := hfz 6
                have f7 := hfz 7
                have f8 := hfz 8
                have f9 := hfz 9
                dsimp only at x0 x1 x2 x3 z0 z1 z2 z3 z4 z5 z6 z7 z8 z9
                go_upto_region 19 with (fail)
                generalize hY : World.setCell _ _ _ = Y3
                have Z : ChC Y3 cb 0 ⟨true, ⟨y2t, y2k, y1v, y1s⟩, true, ⟨y2t, y2k, y2v, y2s⟩⟩ := by rw [← hY]; clear hY; exact ⟨by simp [go_sem, *], by simp [go_sem, *], by simp [go_sem, *], by simp [go_sem, *], by simp [go_sem, *], by simp [go_sem, *], by simp [go_sem, *], by simp [go_sem, *], by simp [go_sem, *], by simp [go_sem, *]⟩
                have hfz2 : ∀ c, Y3.frozen? ⟨cb, c, none⟩ = false := by intro c; rw [← hY]; simp [go_sem, hfz]
                have T3 : Turned cb (cb + 1) Y2 Y3 := by
                  rw [← hY]
                  exact ((((Turned.refl _ _ _).setCell (p := ⟨cb, 6, none⟩) (Nat.le_refl _) (Nat.lt_succ_self _) _).setCell (p := ⟨cb, 7, none⟩) (Nat.le_refl _) (Nat.lt_succ_self _) _).setCell (p := ⟨cb, 8, none⟩) (Nat.le_refl _) (Nat.lt_succ_self _) _).setCell (p := ⟨cb, 9, none⟩) (Nat.le_refl _) (Nat.lt_succ_self _) _
                have ho : Y3.ownsRow w1.heap.size 28 10 u7 cs.length (flat chE cs) := ownsRow_turn1 ho T3 (fun h => (hlow _ h).2 rfl)
                have gq : Below w1.heap.size w1 Y3 := gq.trans (T3.toBelow gq.size hcl)
                have hfz := hfz2
                clear hY T3 hfz2 x0 x1 x2 x3 z0 z1 z2 z3 z4 z5 z6 z7 z8 z9 f6 f7 f8 f9
                obtain ⟨z0, z1, z2, z3, z4, z5, z6, z7, z8, z9⟩ := Z
                dsimp only at z0 z1 z2 z3 z4 z5 z6 z7 z8 z9
                have hgs2 := gq.size
                go_wp2_with (at_builtin; refine wpList_append_sl elC _ rfl _ _ rfl w1.heap.size _ cs [⟨true, ⟨y2t, y2k, y1v, y1s⟩, true, ⟨y2t, y2k, y2v, y2s⟩⟩] (some ⟨Y3.heap.size, 0, none⟩) 1 1 rfl rfl rfl (ownsRow_below ho (by go_grown)) (rs_one (enc := chE) Y3 ⟨true, ⟨y2t, y2k, y1v, y1s⟩, true, ⟨y2t, y2k, y2v, y2s⟩⟩ 28) hlen (by simp; omega) ?_)
                intro v' w' ho' hg' _
                have ho2 : w'.ownsRow w1.heap.size 28 10 v' (chL bs az (rs.take (j2 + 1))).length (flat chE (chL bs az (rs.take (j2 + 1)))) := by rw [HT.out, HCh.out, List.length_append]; exact ho'
                have gr2 : Below w1.heap.size w1 w' := Below.grown (gq.trans ((((Below.refl _ Y3).alloc (Nat.le_refl _) _)).mono gq.size)) hg' (by simp; omega) (fun k hk => (hlow k hk).1)
                clear ho' hg' ho z0 z1 z2 z3 z4 z5 z6 z7 z8 z9 gq
                go_wp2_with fail
                go_roundw
                case rel => exact ⟨j2 + 1, by omega, by go_num, gr2, ho2⟩
                case measure => simp [intOf]; omega
        · have hjn2 : ¬ (j2 : Int) < (m : Int) := by omega
          have HO : Hid (LcPost bs az w (.returned u7) wq) := by
            have e : rs.take j2 = rs := List.take_of_length_le (by rw [HM.out]; omega)
            rw [e] at ho
            exact ⟨u7, rs, rfl, gr.trans (gq.mono gr.size), ownsRow_base ho gr.size, HE.out⟩
          clear ho
          go_wp2_with fail
          go_ret
          exact HO.out

end Go.Proofs.Ytmbllmhpnopbdaa
