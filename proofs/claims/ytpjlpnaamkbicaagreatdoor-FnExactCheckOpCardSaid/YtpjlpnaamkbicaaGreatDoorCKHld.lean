/-
  The model's l10Held.
-/
import Derived.Test.YtpjlpnaamkbicaaGreatDoorCKBar

namespace Go.Proofs.YtpjlpnaamkbicaaGreatDoor
open Go.RowKit Go.Maps
set_option linter.unusedVariables false
set_option maxRecDepth 20000

theorem bar_parts (ax ay kx ky : Int) : barB ⟨kx, ky⟩ ⟨ax, ay⟩ = (((decide (ax = kx) && decide (ay = ky)) || ((ax == 0) && (ay == kx))) || ((kx == 0) && (ax == ky))) := by
  unfold barB eqB tlsB
  have e : decide (ky = ax) = (ax == ky) := by
    by_cases h : ax = ky
    · subst h; simp
    · have h2 : ¬ ky = ax := fun e => h e.symm
      rw [decide_eq_false h2]; exact (beq_eq_false_iff_ne.2 h).symm
  rw [e]
  rfl

set_option maxHeartbeats 8000000 in
theorem l10Held_any (a : Option Addr) (xs : List TxV) (n c : Nat) (t kx ky : Int) (w : World) (hn : xs.length = n) (hm : n ≤ 1048576) (hs : ∀ x ∈ xs, TxOk 1048576 x) (hr : TxRd w a xs) :
    Calls Tryz.prog 79 #[.slice a n c, .int .i64 t, .agg #[.int .i64 kx, .int .i64 ky]] w fun e w' => e = .returned (.bool (xs.any (hldB t ⟨kx, ky⟩))) ∧ Below w.heap.size w w' := by
  have HN : Hid (xs.length = n) := hn
  have HS : Hid (∀ x ∈ xs, TxOk 1048576 x) := hs
  have HR : Hid (∀ V, Below w.heap.size w V → TxRd V a xs) := fun V hV => hr.below hV (Nat.le_refl _)
  clear hn hs hr
  go_enter Tryz.func79, Tryz.ntmps79
  go_upto_region 1 with (fail)
  generalize hY : World.alloc _ _ = Y
  have gY : Below w.heap.size w Y := by rw [← hY]; go_grown
  have B0 : Y.cell? ⟨w.heap.size, 0, none⟩ = some (.int .i64 kx) := by rw [← hY]; simp [go_sem]
  have B1 : Y.cell? ⟨w.heap.size, 1, none⟩ = some (.int .i64 ky) := by rw [← hY]; simp [go_sem]
  clear hY
  obtain ⟨bb, hbb⟩ : ∃ bb, w.heap.size = bb := ⟨_, rfl⟩
  rw [hbb] at B0 B1
  simp only [hbb]
  have HBB : Hid (w.heap.size = bb) := hbb
  clear hbb
  have lB := World.block_lt_of_cell? _ _ B0
  have HK : Hid (∀ V, Below Y.heap.size Y V → V.cell? ⟨bb, 0, none⟩ = some (.int .i64 kx) ∧ V.cell? ⟨bb, 1, none⟩ = some (.int .i64 ky)) := fun V hV => ⟨(hV.cell (p := ⟨bb, 0, none⟩) lB).trans B0, (hV.cell (p := ⟨bb, 1, none⟩) lB).trans B1⟩
  clear B0 B1 lB
  go_wp2_with fail
  go_loopw [7] (fun i wr => ∃ j : Nat, j ≤ n ∧ i = .int .i64 j ∧ Below Y.heap.size Y wr ∧ Hid (∀ x ∈ xs.take j, hldB t ⟨kx, ky⟩ x = false)) (fun i _ => n - (intOf i).toNat)
  case atStart => exact ⟨0, Nat.zero_le _, rfl, Below.refl _ _, by intro x hx; simp at hx⟩
  case round =>
    obtain ⟨j, hj, rfl, gr, hA⟩ := hrel
    by_cases hlt : j < n
    case neg =>
      have e : j = n := by omega
      subst e
      have HE : Hid (xs.any (hldB t ⟨kx, ky⟩) = false) := any_none (fun x hx => hA.out x (by rw [List.take_of_length_le (by rw [HN.out]; exact Nat.le_refl _)]; exact hx))
      go_wp2_with fail
      go_ret
      exact ⟨by rw [HE.out]; rfl, gY.trans (gr.mono gY.size)⟩
    obtain ⟨x, hx⟩ := at_ltT (xs := xs) (i := j) (by rw [HN.out]; exact hlt)
    obtain ⟨b, off, ua, ma, la, uc, mc, lc, e0, Z⟩ := (HR.out wr (gY.trans (gr.mono gY.size))).at hx
    obtain rfl := e0
    have hjn : (j : Int) < (n : Int) := by omega
    have HX : Hid (xs[j]? = some x) := hx
    have hlm := (HS.out x (List.mem_of_getElem? hx)).2.2.2
    clear hx
    have lZ := Z.lt
    have HZ : Hid (∀ V, Below wr.heap.size wr V → TxAt V b (off + j * 4) x ua ma la uc mc lc) := fun V hV => Z.below hV
    obtain ⟨id, us, ms, ls⟩ := x
    obtain ⟨c0, c1, c2, c3, -, -, -⟩ := Z
    dsimp only at c0 c1 c2 c3 hlm
    by_cases hid : id = t
    · have d : (id == t) = true := by simpa using hid
      have HA2 : Hid (∀ x ∈ xs.take (j + 1), hldB t ⟨kx, ky⟩ x = false) := take_step hA.out HX.out (by unfold hldB; simp [hid])
      clear hid
      go_wp2_with fail
      go_roundw
      case rel => exact ⟨j + 1, by omega, by go_num, gr, HA2⟩
      case measure => simp [intOf]; omega
    have d : (id == t) = false := by simpa using hid
    have HP : Hid (hldB t ⟨kx, ky⟩ ⟨id, us, ms, ls⟩ = ls.any (barB ⟨kx, ky⟩)) := by show _ = _; unfold hldB; simp [hid]
    obtain ⟨ln, hln⟩ : ∃ ln, ls.length = ln := ⟨_, rfl⟩
    have HLn : Hid (ls.length = ln) := hln
    rw [hln] at c3 hlm
    clear hid hln
    have HC : Hid (∀ V, Below wr.heap.size wr V → V.cell? ⟨b, off + j * 4, none⟩ = some (.int .i64 id) ∧ V.cell? ⟨b, off + j * 4 + 3, none⟩ = some (.slice la ln lc)) := fun V hV => ⟨(HZ.out V hV).c0, by have h := (HZ.out V hV).c3; dsimp only at h; rw [HLn.out] at h; exact h⟩
    have HL : Hid (∀ V, Below wr.heap.size wr V → Rs kyE 2 V la ls) := fun V hV => (HZ.out V hV).l
    obtain ⟨wo, hwo⟩ : ∃ wo, wo = wr := ⟨_, rfl⟩
    subst hwo
    clear HZ lZ
    go_wp2_with fail
    clear c0 c1 c2 c3
    go_loopw [8] (fun i w2 => ∃ q : Nat, q ≤ ln ∧ i = .int .i64 q ∧ Below wo.heap.size wo w2 ∧ Hid (∀ x ∈ ls.take q, barB ⟨kx, ky⟩ x = false)) (fun i _ => ln - (intOf i).toNat)
    case atStart => exact ⟨0, Nat.zero_le _, rfl, Below.refl _ _, by intro x hx; simp at hx⟩
    case round =>
      obtain ⟨q, hq, rfl, g2, hB⟩ := hrel
      obtain ⟨c0, c3⟩ := HC.out wr g2
      have gr2 := gr.trans (g2.mono gr.size)
      by_cases hlt2 : q < ln
      case neg =>
        have e : q = ln := by omega
        subst e
        have HA2 : Hid (∀ x ∈ xs.take (j + 1), hldB t ⟨kx, ky⟩ x = false) := take_step hA.out HX.out (by rw [HP.out]; exact any_none (fun x hx => hB.out x (by rw [List.take_of_length_le (by rw [HLn.out]; exact Nat.le_refl _)]; exact hx)))
        go_wp2_with fail
        go_roundw
        case rel => exact ⟨j + 1, by omega, by go_num, gr2, HA2⟩
        case measure => simp [intOf]; omega
      obtain ⟨y, hy⟩ : ∃ y, ls[q]? = some y := ⟨_, List.getElem?_eq_getElem (by rw [HLn.out]; exact hlt2)⟩
      obtain ⟨b', off', e0, k0, k1⟩ := (HL.out wr g2).key hy
      obtain rfl := e0
      have hqn : (q : Int) < (ln : Int) := by omega
      have HY : Hid (ls[q]? = some y) := hy
      clear hy
      obtain ⟨ax, ay⟩ := y
      dsimp only at k0 k1
      obtain ⟨p, hp⟩ : ∃ p, barB ⟨kx, ky⟩ ⟨ax, ay⟩ = p := ⟨_, rfl⟩
      have HP1 : Hid (barB ⟨kx, ky⟩ ⟨ax, ay⟩ = p) := hp
      have HPB : Hid ((((decide (ax = kx) && decide (ay = ky)) || ((ax == 0) && (ay == kx))) || ((kx == 0) && (ax == ky))) = p) := by show _ = _; rw [← bar_parts]; exact hp
      clear hp
      go_upto_region 9 with (fail)
      generalize hY : World.alloc _ _ = Y9
      have g9 : Below wr.heap.size wr Y9 := by rw [← hY]; go_grown
      have A0 : Y9.cell? ⟨wr.heap.size, 0, none⟩ = some (.int .i64 ax) := by rw [← hY]; simp [go_sem]
      have A1 : Y9.cell? ⟨wr.heap.size, 1, none⟩ = some (.int .i64 ay) := by rw [← hY]; simp [go_sem]
      clear hY c0 c3 k0 k1
      have g29 := g2.trans (g9.mono g2.size)
      have gr9 := gr2.trans (g9.mono gr2.size)
      generalize wr.heap.size = yb at A0 A1 g9 ⊢
      clear g9
      obtain ⟨B0, B1⟩ := HK.out Y9 gr9
      go_cut [67] from 41 (fun s wc => s = .bool p ∧ Below Y9.heap.size Y9 wc)
      case first =>
        clear HK HC HL HX HP HLn HN HS HR hA hB HY HP1
        obtain ⟨b1, hb1⟩ : ∃ b1, (ax == 0) = b1 := ⟨_, rfl⟩
        obtain ⟨b2, hb2⟩ : ∃ b2, (ay == kx) = b2 := ⟨_, rfl⟩
        obtain ⟨b3, hb3⟩ : ∃ b3, (kx == 0) = b3 := ⟨_, rfl⟩
        obtain ⟨b4, hb4⟩ : ∃ b4, (ax == ky) = b4 := ⟨_, rfl⟩
        rw [hb1, hb2, hb3, hb4] at HPB
        by_cases h1 : ax = kx
        · by_cases h2 : ay = ky
          · have HT : Hid (p = true) := by rw [← HPB.out]; show _ = _; simp [h1, h2]
            clear HPB hb1 hb2 hb3 hb4
            subst h1 h2
            go_wp2_with fail
            go_meet
            exact ⟨by rw [HT.out], by go_grown⟩
          · have e1 : (decide (ax = kx) && decide (ay = ky)) = false := by simp [h2]
            rw [e1] at HPB
            have d2 : (ay == ky) = false := by simpa using h2
            clear e1
            subst h1
            cases b1 <;> cases b2 <;> cases b3 <;> cases b4
            all_goals
              first
              | (exfalso; rw [hb1] at hb3; cases hb3; done)
              | (go_wp2_with fail
                 go_meet
                 exact ⟨by rw [← HPB.out]; rfl, by go_grown⟩)
        · have e1 : (decide (ax = kx) && decide (ay = ky)) = false := by simp [h1]
          rw [e1] at HPB
          have d1 : (ax == kx) = false := by simpa using h1
          clear e1
          cases b1 <;> cases b2 <;> cases b3 <;> cases b4
          all_goals
            go_wp2_with fail
            go_meet
            exact ⟨by rw [← HPB.out]; rfl, by go_grown⟩
      case rest =>
        obtain ⟨rfl, g10⟩ := hcut
        have g2 := g29.trans (g10.mono g29.size)
        have gr3 := gr9.trans (g10.mono gr9.size)
        clear A0 A1 B0 B1 g29 gr9 HPB
        cases p
        · have HB2 : Hid (∀ x ∈ ls.take (q + 1), barB ⟨kx, ky⟩ x = false) := take_step hB.out HY.out HP1.out
          go_wp2_with fail
          go_roundw
          case rel => exact ⟨q + 1, by omega, by go_num, g2, HB2⟩
          case measure => simp [intOf]; omega
        · have HE : Hid (xs.any (hldB t ⟨kx, ky⟩) = true) := any_take HX.out (by rw [HP.out]; exact any_take HY.out HP1.out)
          go_wp2_with fail
          go_ret
          exact ⟨by rw [HE.out]; rfl, gY.trans (gr3.mono gY.size)⟩

end Go.Proofs.YtpjlpnaamkbicaaGreatDoor
