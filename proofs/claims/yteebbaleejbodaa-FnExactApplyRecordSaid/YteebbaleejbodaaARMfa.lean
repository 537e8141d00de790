/-
  The model's l6Fault.
-/
import Derived.Test.YteebbaleejbodaaARMsn
import Derived.Test.YteebbaleejbodaaARVie

namespace Go.Proofs.Yteebbaleejbodaa
open Go.RowKit Go.Maps
set_option linter.unusedVariables false

def ky (x : Spt) : Int × Int := (x.c.t, x.c.k)
theorem key_step {xs : List Spt} {i : Nat} {x : Spt} (hx : xs[i]? = some x) (hd : ((xs.take i).map ky).Nodup) : (∀ k y, k < i → xs[k]? = some y → ky x ≠ ky y) ↔ ((xs.take (i + 1)).map ky).Nodup := by
  rw [take_snoc hx, List.map_append, List.map_cons, List.map_nil, nodup_snoc]
  constructor
  · intro h
    refine ⟨hd, fun hm => ?_⟩
    obtain ⟨y, hy, e⟩ := List.mem_map.1 hm
    obtain ⟨k, hk, hk2⟩ := List.getElem_of_mem hy
    rw [List.length_take] at hk
    have hk3 : xs[k]? = some y := by
      have := List.getElem?_eq_getElem (l := xs.take i) (i := k) (by rw [List.length_take]; exact hk)
      rw [List.getElem?_take_of_lt (by omega), hk2] at this
      exact this
    exact h k y (by omega) hk3 e.symm
  · rintro ⟨_, hm⟩ k y hk hy e
    exact hm (List.mem_map.2 ⟨y, List.mem_of_getElem? (i := k) (by rw [List.getElem?_take_of_lt hk]; exact hy), e.symm⟩)
theorem key_mono {xs : List Spt} {i : Nat} (h : ¬ ((xs.take i).map ky).Nodup) : ¬ (xs.map ky).Nodup := by
  intro hd
  apply h
  rw [← List.take_append_drop i xs, List.map_append] at hd
  exact (List.nodup_append.1 hd).1

theorem allL_spots {ps : List (List Int)} (h : allQ ps = 0) : allL ps = spotsOf 0 ps := if_pos h
theorem seen_keys {ps : List (List Int)} (hp : PgOk ps) : (seenKV ps).map (·.1) = (snF (mvF (allL ps)) (allL ps)).map ky := by
  unfold seenKV seenL
  rw [← snF_pl (allL_ok hp).1, List.map_map, List.map_map]
  rfl

set_option maxRecDepth 20000 in
set_option maxHeartbeats 8000000 in
theorem l6Fault_any (a : Option Addr) (ps : List (List Int)) (n c : Nat) (w : World) (hn : ps.length = n) (hm : n ≤ 9223372036854775807) (hp : PgOk ps) (hr : PgRead w a ps) :
    Calls Try.prog 65 #[.slice a n c] w fun e w' => e = .returned (.int .i64 (viewQ ps)) ∧ Below w.heap.size w w' := by
  by_cases h12 : (12 : Int) < n
  · have HQ : Hid (viewQ ps = 2) := by
      have : allQ ps = 2 := by unfold allQ; rw [if_pos (by omega)]
      show _ = _
      unfold viewQ
      rw [if_neg (by rw [this]; decide), this]
    go_enter Try.func65, Try.ntmps65
    go_wp2_with fail
    go_ret
    exact ⟨by rw [HQ.out]; rfl, Below.refl _ _⟩
  have hn12 : n ≤ 12 := by omega
  have d12 : decide ((12 : Int) < n) = false := by simpa using h12
  have hA : allQ ps = pagesQ ps := by unfold allQ; rw [if_neg (by omega)]
  have HR : Hid (∀ W, Below w.heap.size w W → PgRead W a ps) := fun W hW => hr.below hW (Nat.le_refl _)
  have HN : Hid (ps.length = n) := hn
  have HP : Hid (PgOk ps) := hp
  have HA : Hid (allQ ps = pagesQ ps) := hA
  clear h12 hr hA
  go_enter Try.func65, Try.ntmps65
  go_wp2_with fail
  refine (l6Cells_any a ps n c _ HN.out hn12 HP.out (HR.out _ (Below.refl _ _))).mono ?_
  rintro e w1 ⟨rfl, g1⟩
  obtain ⟨q1, hq1⟩ : ∃ q, q = pagesQ ps := ⟨_, rfl⟩
  have HQ1 : Hid (pagesQ ps = q1) := hq1.symm
  rw [← hq1]
  clear hq1 hn hp
  by_cases hq0 : q1 = 0
  · subst hq0
    have hall0 : allQ ps = 0 := by rw [HA.out]; exact HQ1.out
    have hSp := allL_spots hall0
    obtain ⟨hok, h200⟩ := allL_ok HP.out
    have HKeys := seen_keys HP.out
    have HV : Hid (viewQ ps = if stubQ ps = 0 then (if ((seenKV ps).map (·.1)).Nodup then 0 else 8) else stubQ ps) := by show _ = _; unfold viewQ; rw [if_pos hall0]
    have HSt : Hid (stubQ ps = stQ (mvF (spotsOf 0 ps)) (spotsOf 0 ps)) := by show _ = _; unfold stubQ; rw [hSp]
    rw [hSp] at hok h200 HKeys
    have HKeys : Hid ((seenKV ps).map (·.1) = (snF (mvF (spotsOf 0 ps)) (spotsOf 0 ps)).map ky) := HKeys
    have hsnl := snF_len (mvF (spotsOf 0 ps)) (spotsOf 0 ps)
    have HSn : Hid (∀ W, Below w.heap.size w W → stQ (mvF (spotsOf 0 ps)) (spotsOf 0 ps) = 0 → Calls Try.prog 121 #[.slice a n c] W fun e w' => ∃ v, e = .returned v ∧ Below W.heap.size W w' ∧ w'.ownsRow W.heap.size 171 10 v (snF (mvF (spotsOf 0 ps)) (spotsOf 0 ps)).length (flat spE (snF (mvF (spotsOf 0 ps)) (spotsOf 0 ps)))) := fun W hW h0 => l6Seen_any a ps n c W HN.out hn12 HP.out (HR.out W hW) HQ1.out (stQ_zero h0)
    clear hSp hall0
    go_wp2_with fail
    refine (l6Spots_any a ps n c _ HN.out hn12 HP.out (HR.out _ g1) HQ1.out).mono ?_
    rintro e w2 ⟨v2, rfl, g2, o2⟩
    have g := g1.trans (g2.mono g1.size)
    obtain ⟨a2, c2, rfl, _, s2, _⟩ := SlIn.ofRow spE_len o2
    have r2 := s2.reads
    clear s2 o2 g2 g1
    go_wp2_with fail
    refine (l6Stubs_any a2 (spotsOf 0 ps) (spotsOf 0 ps).length c2 a ps n c _ rfl (by omega) hok r2 HN.out hn12 HP.out (HR.out _ g) HQ1.out).mono ?_
    rintro e w3 ⟨rfl, g3⟩
    have g := g.trans (g3.mono g.size)
    clear g3 r2
    obtain ⟨q2, hq2⟩ : ∃ q, q = stQ (mvF (spotsOf 0 ps)) (spotsOf 0 ps) := ⟨_, rfl⟩
    rw [← hq2] at HSt HSn ⊢
    clear hq2
    by_cases hq3 : q2 = 0
    · subst hq3
      have HV2 : Hid (viewQ ps = if ((seenKV ps).map (·.1)).Nodup then 0 else 8) := by show _ = _; rw [HV.out, if_pos HSt.out]
      clear HV HSt
      generalize snF (mvF (spotsOf 0 ps)) (spotsOf 0 ps) = zs at HKeys HSn hsnl
      go_wp2_with fail
      refine (HSn.out _ g (by trivial)).mono ?_
      rintro e w4 ⟨v4, rfl, g4, o4⟩
      have g := g.trans (g4.mono g.size)
      obtain ⟨a4, c4, rfl, _, s4, _⟩ := SlIn.ofRow spE_len o4
      have r4 := s4.reads
      clear s4 o4 g4 HSn hok
      obtain ⟨j, hj⟩ : ∃ j, j = zs.length := ⟨_, rfl⟩
      have HNz : Hid (zs.length = j) := hj.symm
      have hj200 : j ≤ 200 := by omega
      rw [← hj]
      clear hj h200 hsnl
      have HR4 : Hid (Rs spE 10 w4 a4 zs) := r4
      have HG4 : Hid (Below w.heap.size w w4) := g
      clear r4
      go_wp2_with fail
      go_loopw [6] (fun i wr => ∃ i1 : Nat, i1 ≤ j ∧ i = .int .i64 i1 ∧ Hid (((zs.take i1).map ky).Nodup) ∧ Below w4.heap.size w4 wr) (fun i _ => j - (intOf i).toNat)
      case atStart => exact ⟨0, Nat.zero_le _, rfl, by simp [Hid], Below.refl _ _⟩
      case round =>
        clear g
        obtain ⟨i1, hi1, rfl, hNd, g⟩ := hrel
        by_cases hlt1 : i1 < j
        · obtain ⟨x, hx⟩ := at_lt' (rs := zs) (i := i1) (by rw [HNz.out]; exact hlt1)
          obtain ⟨b, off, rfl, X⟩ := HR4.out.spot hx
          have hb0 := X.lt
          have hin : (i1 : Int) < (j : Int) := by omega
          have HSt : Hid ((∀ k y, k < i1 → zs[k]? = some y → ky x ≠ ky y) ↔ ((zs.take (i1 + 1)).map ky).Nodup) := key_step hx hNd.out
          clear hx hNd
          go_wp2_with fail
          go_loopw [7] (fun k wr => ∃ k1 : Nat, k1 ≤ i1 ∧ k = .int .i64 k1 ∧ Hid (∀ k y, k < k1 → zs[k]? = some y → ky x ≠ ky y) ∧ Below w4.heap.size w4 wr) (fun k _ => i1 - (intOf k).toNat)
          case atStart => exact ⟨0, Nat.zero_le _, rfl, fun k y h => absurd h (Nat.not_lt_zero _), g⟩
          case round =>
            clear g
            obtain ⟨k1, hk1, rfl, hAll, g⟩ := hrel
            by_cases hlt2 : k1 < i1
            · obtain ⟨y, hy⟩ := at_lt' (rs := zs) (i := k1) (by rw [HNz.out]; omega)
              have Y := HR4.out.spot hy
              obtain ⟨b', off', hbb, Y⟩ := Y
              simp only [Option.some.injEq, Addr.mk.injEq, and_true] at hbb
              obtain ⟨rfl, rfl⟩ := hbb
              have hki : (k1 : Int) < (i1 : Int) := by omega
              have hkj : (k1 : Int) < (j : Int) := by omega
              have HY : Hid (zs[k1]? = some y) := hy
              have HS : Hid (∀ V, Below w4.heap.size w4 V → V.cell? ⟨b, off + i1 * 10 + 6, none⟩ = some (.int .i64 x.c.t) ∧ V.cell? ⟨b, off + k1 * 10 + 6, none⟩ = some (.int .i64 y.c.t) ∧ V.cell? ⟨b, off + i1 * 10 + 7, none⟩ = some (.int .i64 x.c.k) ∧ V.cell? ⟨b, off + k1 * 10 + 7, none⟩ = some (.int .i64 y.c.k) ∧ Below w4.heap.size w4 V) := fun V hV => ⟨(hV.cell (p := ⟨b, _, none⟩) hb0).trans X.c6, (hV.cell (p := ⟨b, _, none⟩) hb0).trans Y.c6, (hV.cell (p := ⟨b, _, none⟩) hb0).trans X.c7, (hV.cell (p := ⟨b, _, none⟩) hb0).trans Y.c7, hV⟩
              clear hy Y
              have HTt : Hid (ky x = ky y ↔ x.c.t = y.c.t ∧ x.c.k = y.c.k) := by show _ ↔ _; unfold ky; simp
              generalize x.c.t = xt at HS HTt
              generalize y.c.t = yt at HS HTt
              generalize x.c.k = xk at HS HTt
              generalize y.c.k = yk at HS HTt
              go_upto_region 16 with (fail)
              have hS0 := HS.out _ g.drew
              obtain ⟨t, ht⟩ : ∃ t, t = (decide (xt = yt) && decide (xk = yk)) := ⟨_, rfl⟩
              have HTB : Hid (t = (decide (xt = yt) && decide (xk = yk))) := ht
              clear ht
              go_cut [67] from 36 to 67 (fun s wc => s = .bool t ∧ Below w4.heap.size w4 wc)
              case first =>
                by_cases h1 : xt = yt
                · subst h1
                  have HTv : Hid (t = (xk == yk)) := by show _ = _; rw [HTB.out]; simp; rfl
                  refine wp_region_held_drew (S := fun V => V.cell? ⟨b, off + i1 * 10 + 6, none⟩ = some (.int .i64 xt) ∧ V.cell? ⟨b, off + k1 * 10 + 6, none⟩ = some (.int .i64 xt) ∧ V.cell? ⟨b, off + i1 * 10 + 7, none⟩ = some (.int .i64 xk) ∧ V.cell? ⟨b, off + k1 * 10 + 7, none⟩ = some (.int .i64 yk) ∧ Below w4.heap.size w4 V) (by kernel_rfl) hS0 (fun hHeld => ?_)
                  generalize wr.drew = D at hHeld ⊢
                  clear hS0
                  · skip
                    refine wpAnyH_take (i := 0) (v := ?v18) rfl (by kernel_rfl) (by kernel_rfl) (by kernel_rfl) (fun _ _ _ h => h) (Or.inl ⟨by kernel_rfl, ?h18⟩) hHeld ?_
                    case h18 => intro u hSw; (try dsimp only at hSw); go_simp; try with_reducible rfl
                    try simp only [List.getElem_toArray]
                    try simp only [List.getElem_cons_succ]
                    try simp only [List.getElem_cons_zero]
                    try simp only [Act.put]
                    try simp only [List.setIfInBounds_toArray]
                    try simp only [List.set]
                    refine wpAnyH_take (i := 1) (v := ?v19) rfl (by kernel_rfl) (by kernel_rfl) (by kernel_rfl) (fun _ _ _ h => h) (Or.inl ⟨by kernel_rfl, ?h19⟩) hHeld ?_
                    case h19 => intro u hSw; (try dsimp only at hSw); go_simp; try with_reducible rfl
                    try simp only [List.getElem_toArray]
                    try simp only [List.getElem_cons_succ]
                    try simp only [List.getElem_cons_zero]
                    try simp only [Act.put]
                    try simp only [List.setIfInBounds_toArray]
                    try simp only [List.set]
                    refine wpAnyH_take (i := 7) (v := ?v20) rfl (by kernel_rfl) (by kernel_rfl) (by kernel_rfl) (fun _ _ _ h => h) (Or.inl ⟨by kernel_rfl, ?h20⟩) hHeld ?_
                    case h20 => intro u hSw; (try dsimp only at hSw); go_simp; try with_reducible rfl
                    try simp only [List.getElem_toArray]
                    try simp only [List.getElem_cons_succ]
                    try simp only [List.getElem_cons_zero]
                    try simp only [Act.put]
                    try simp only [List.setIfInBounds_toArray]
                    try simp only [List.set]
                    refine wpAnyH_take (i := 8) (v := ?v21) rfl (by kernel_rfl) (by kernel_rfl) (by kernel_rfl) (fun _ _ _ h => h) (Or.inl ⟨by kernel_rfl, ?h21⟩) hHeld ?_
                    case h21 => intro u hSw; (try dsimp only at hSw); go_simp; try with_reducible rfl
                    try simp only [List.getElem_toArray]
                    try simp only [List.getElem_cons_succ]
                    try simp only [List.getElem_cons_zero]
                    try simp only [Act.put]
                    try simp only [List.setIfInBounds_toArray]
                    try simp only [List.set]
                    refine wpAnyH_take (i := 2) (v := ?v22) rfl (by kernel_rfl) (by kernel_rfl) (by kernel_rfl) (fun _ _ _ h => h) (Or.inl ⟨by kernel_rfl, ?h22⟩) hHeld ?_
                    case h22 => intro u hSw; (try dsimp only at hSw); go_simp; try with_reducible rfl
                    try simp only [List.getElem_toArray]
                    try simp only [List.getElem_cons_succ]
                    try simp only [List.getElem_cons_zero]
                    try simp only [Act.put]
                    try simp only [List.setIfInBounds_toArray]
                    try simp only [List.set]
                    refine wpAnyH_take (i := 9) (v := ?v23) rfl (by kernel_rfl) (by kernel_rfl) (by kernel_rfl) (fun _ _ _ h => h) (Or.inl ⟨by kernel_rfl, ?h23⟩) hHeld ?_
                    case h23 => intro u hSw; (try dsimp only at hSw); go_simp; try with_reducible rfl
                    try simp only [List.getElem_toArray]
                    try simp only [List.getElem_cons_succ]
                    try simp only [List.getElem_cons_zero]
                    try simp only [Act.put]
                    try simp only [List.setIfInBounds_toArray]
                    try simp only [List.set]
                    refine wpAnyH_take (i := 3) (v := ?v24) rfl (by kernel_rfl) (by kernel_rfl) (by kernel_rfl) (fun _ _ _ h => h) (Or.inl ⟨by kernel_rfl, ?h24⟩) hHeld ?_
                    case h24 => intro u hSw; (try dsimp only at hSw); go_simp; try with_reducible rfl
                    try simp only [List.getElem_toArray]
                    try simp only [List.getElem_cons_succ]
                    try simp only [List.getElem_cons_zero]
                    try simp only [Act.put]
                    try simp only [List.setIfInBounds_toArray]
                    try simp only [List.set]
                    refine wpAnyH_take (i := 10) (v := ?v25) rfl (by kernel_rfl) (by kernel_rfl) (by kernel_rfl) (fun _ _ _ h => h) (Or.inl ⟨by kernel_rfl, ?h25⟩) hHeld ?_
                    case h25 => intro u hSw; (try dsimp only at hSw); go_simp; try with_reducible rfl
                    try simp only [List.getElem_toArray]
                    try simp only [List.getElem_cons_succ]
                    try simp only [List.getElem_cons_zero]
                    try simp only [Act.put]
                    try simp only [List.setIfInBounds_toArray]
                    try simp only [List.set]
                    refine wpAnyH_take (i := 4) (v := ?v26) rfl (by kernel_rfl) (by kernel_rfl) (by kernel_rfl) (fun _ _ _ h => h) (Or.inl ⟨by kernel_rfl, ?h26⟩) hHeld ?_
                    case h26 => intro u hSw; (try dsimp only at hSw); go_simp; try with_reducible rfl
                    try simp only [List.getElem_toArray]
                    try simp only [List.getElem_cons_succ]
                    try simp only [List.getElem_cons_zero]
                    try simp only [Act.put]
                    try simp only [List.setIfInBounds_toArray]
                    try simp only [List.set]
                    refine wpAnyH_take (i := 11) (v := ?v27) rfl (by kernel_rfl) (by kernel_rfl) (by kernel_rfl) (fun _ _ _ h => h) (Or.inl ⟨by kernel_rfl, ?h27⟩) hHeld ?_
                    case h27 => intro u hSw; (try dsimp only at hSw); go_simp; try with_reducible rfl
                    try simp only [List.getElem_toArray]
                    try simp only [List.getElem_cons_succ]
                    try simp only [List.getElem_cons_zero]
                    try simp only [Act.put]
                    try simp only [List.setIfInBounds_toArray]
                    try simp only [List.set]
                    refine wpAnyH_take (i := 5) (v := ?v28) rfl (by kernel_rfl) (by kernel_rfl) (by kernel_rfl) (fun _ _ _ h => h) (Or.inl ⟨by kernel_rfl, ?h28⟩) hHeld ?_
                    case h28 => intro u hSw; (try dsimp only at hSw); go_simp; try with_reducible rfl
                    try simp only [List.getElem_toArray]
                    try simp only [List.getElem_cons_succ]
                    try simp only [List.getElem_cons_zero]
                    try simp only [Act.put]
                    try simp only [List.setIfInBounds_toArray]
                    try simp only [List.set]
                    refine wpAnyH_take (i := 12) (v := ?v29) rfl (by kernel_rfl) (by kernel_rfl) (by kernel_rfl) (fun _ _ _ h => h) (Or.inl ⟨by kernel_rfl, ?h29⟩) hHeld ?_
                    case h29 => intro u hSw; (try dsimp only at hSw); go_simp; try with_reducible rfl
                    try simp only [List.getElem_toArray]
                    try simp only [List.getElem_cons_succ]
                    try simp only [List.getElem_cons_zero]
                    try simp only [Act.put]
                    try simp only [List.setIfInBounds_toArray]
                    try simp only [List.set]
                    refine wpAnyH_take (i := 6) (v := ?v30) rfl (by kernel_rfl) (by kernel_rfl) (by kernel_rfl) (fun _ _ _ h => h) (Or.inl ⟨by kernel_rfl, ?h30⟩) hHeld ?_
                    case h30 => intro u hSw; obtain ⟨x1, x2, x3, x4, _⟩ := hSw; go_simp; try with_reducible rfl
                    try simp only [List.getElem_toArray]
                    try simp only [List.getElem_cons_succ]
                    try simp only [List.getElem_cons_zero]
                    try simp only [Act.put]
                    try simp only [List.setIfInBounds_toArray]
                    try simp only [List.set]
                    refine wpAnyH_take (i := 13) (v := ?v31) rfl (by kernel_rfl) (by kernel_rfl) (by kernel_rfl) (fun _ _ _ h => h) (Or.inl ⟨by kernel_rfl, ?h31⟩) hHeld ?_
                    case h31 => intro u hSw; obtain ⟨x1, x2, x3, x4, _⟩ := hSw; go_simp; try with_reducible rfl
                    try simp only [List.getElem_toArray]
                    try simp only [List.getElem_cons_succ]
                    try simp only [List.getElem_cons_zero]
                    try simp only [Act.put]
                    try simp only [List.setIfInBounds_toArray]
                    try simp only [List.set]
                    refine wpAnyH_take (i := 14) (v := ?v32) rfl (by kernel_rfl) (by kernel_rfl) (by kernel_rfl) (fun _ _ _ h => h) (Or.inl ⟨by kernel_rfl, ?h32⟩) hHeld ?_
                    case h32 => intro u hSw; (try dsimp only at hSw); go_simp; try with_reducible rfl
                    try simp only [List.getElem_toArray]
                    try simp only [List.getElem_cons_succ]
                    try simp only [List.getElem_cons_zero]
                    try simp only [Act.put]
                    try simp only [List.setIfInBounds_toArray]
                    try simp only [List.set]
                    refine wpAnyH_take (i := 15) (v := ?v33) rfl (by kernel_rfl) (by kernel_rfl) (by kernel_rfl) (fun _ _ _ h => h) (Or.inl ⟨by kernel_rfl, ?h33⟩) hHeld ?_
                    case h33 => intro u hSw; (try dsimp only at hSw); go_simp; try with_reducible rfl
                    try simp only [List.getElem_toArray]
                    try simp only [List.getElem_cons_succ]
                    try simp only [List.getElem_cons_zero]
                    try simp only [Act.put]
                    try simp only [List.setIfInBounds_toArray]
                    try simp only [List.set]
                    refine wpAnyH_take (i := 16) (v := ?v34) rfl (by kernel_rfl) (by kernel_rfl) (by kernel_rfl) (fun _ _ _ h => h) (Or.inl ⟨by kernel_rfl, ?h34⟩) hHeld ?_
                    case h34 => intro u hSw; (try dsimp only at hSw); go_simp; try with_reducible rfl
                    try simp only [List.getElem_toArray]
                    try simp only [List.getElem_cons_succ]
                    try simp only [List.getElem_cons_zero]
                    try simp only [Act.put]
                    try simp only [List.setIfInBounds_toArray]
                    try simp only [List.set]
                    refine wpAnyH_take (i := 17) (v := ?v35) rfl (by kernel_rfl) (by kernel_rfl) (by kernel_rfl) (fun _ _ _ h => h) (Or.inl ⟨by kernel_rfl, ?h35⟩) hHeld ?_
                    case h35 => intro u hSw; (try dsimp only at hSw); go_simp; try with_reducible rfl
                    try simp only [List.getElem_toArray]
                    try simp only [List.getElem_cons_succ]
                    try simp only [List.getElem_cons_zero]
                    try simp only [Act.put]
                    try simp only [List.setIfInBounds_toArray]
                    try simp only [List.set]
                    refine wpAnyH_take (i := 23) (v := ?v36) rfl (by kernel_rfl) (by kernel_rfl) (by kernel_rfl) (fun _ _ _ h => h) (Or.inl ⟨by kernel_rfl, ?h36⟩) hHeld ?_
                    case h36 => intro u hSw; (try dsimp only at hSw); go_simp; try with_reducible rfl
                    try simp only [List.getElem_toArray]
                    try simp only [List.getElem_cons_succ]
                    try simp only [List.getElem_cons_zero]
                    try simp only [Act.put]
                    try simp only [List.setIfInBounds_toArray]
                    try simp only [List.set]
                    refine wpAnyH_take (i := 24) (v := ?v37) rfl (by kernel_rfl) (by kernel_rfl) (by kernel_rfl) (fun _ _ _ h => h) (Or.inl ⟨by kernel_rfl, ?h37⟩) hHeld ?_
                    case h37 => intro u hSw; (try dsimp only at hSw); go_simp; try with_reducible rfl
                    try simp only [List.getElem_toArray]
                    try simp only [List.getElem_cons_succ]
                    try simp only [List.getElem_cons_zero]
                    try simp only [Act.put]
                    try simp only [List.setIfInBounds_toArray]
                    try simp only [List.set]
                    refine wpAnyH_take (i := 18) (v := ?v38) rfl (by kernel_rfl) (by kernel_rfl) (by kernel_rfl) (fun _ _ _ h => h) (Or.inl ⟨by kernel_rfl, ?h38⟩) hHeld ?_
                    case h38 => intro u hSw; (try dsimp only at hSw); go_simp; try with_reducible rfl
                    try simp only [List.getElem_toArray]
                    try simp only [List.getElem_cons_succ]
                    try simp only [List.getElem_cons_zero]
                    try simp only [Act.put]
                    try simp only [List.setIfInBounds_toArray]
                    try simp only [List.set]
                    refine wpAnyH_take (i := 25) (v := ?v39) rfl (by kernel_rfl) (by kernel_rfl) (by kernel_rfl) (fun _ _ _ h => h) (Or.inl ⟨by kernel_rfl, ?h39⟩) hHeld ?_
                    case h39 => intro u hSw; (try dsimp only at hSw); go_simp; try with_reducible rfl
                    try simp only [List.getElem_toArray]
                    try simp only [List.getElem_cons_succ]
                    try simp only [List.getElem_cons_zero]
                    try simp only [Act.put]
                    try simp only [List.setIfInBounds_toArray]
                    try simp only [List.set]
                    refine wpAnyH_take (i := 19) (v := ?v40) rfl (by kernel_rfl) (by kernel_rfl) (by kernel_rfl) (fun _ _ _ h => h) (Or.inl ⟨by kernel_rfl, ?h40⟩) hHeld ?_
                    case h40 => intro u hSw; (try dsimp only at hSw); go_simp; try with_reducible rfl
                    try simp only [List.getElem_toArray]
                    try simp only [List.getElem_cons_succ]
                    try simp only [List.getElem_cons_zero]
                    try simp only [Act.put]
                    try simp only [List.setIfInBounds_toArray]
                    try simp only [List.set]
                    refine wpAnyH_take (i := 26) (v := ?v41) rfl (by kernel_rfl) (by kernel_rfl) (by kernel_rfl) (fun _ _ _ h => h) (Or.inl ⟨by kernel_rfl, ?h41⟩) hHeld ?_
                    case h41 => intro u hSw; (try dsimp only at hSw); go_simp; try with_reducible rfl
                    try simp only [List.getElem_toArray]
                    try simp only [List.getElem_cons_succ]
                    try simp only [List.getElem_cons_zero]
                    try simp only [Act.put]
                    try simp only [List.setIfInBounds_toArray]
                    try simp only [List.set]
                    refine wpAnyH_take (i := 20) (v := ?v42) rfl (by kernel_rfl) (by kernel_rfl) (by kernel_rfl) (fun _ _ _ h => h) (Or.inl ⟨by kernel_rfl, ?h42⟩) hHeld ?_
                    case h42 => intro u hSw; (try dsimp only at hSw); go_simp; try with_reducible rfl
                    try simp only [List.getElem_toArray]
                    try simp only [List.getElem_cons_succ]
                    try simp only [List.getElem_cons_zero]
                    try simp only [Act.put]
                    try simp only [List.setIfInBounds_toArray]
                    try simp only [List.set]
                    refine wpAnyH_take (i := 27) (v := ?v43) rfl (by kernel_rfl) (by kernel_rfl) (by kernel_rfl) (fun _ _ _ h => h) (Or.inl ⟨by kernel_rfl, ?h43⟩) hHeld ?_
                    case h43 => intro u hSw; (try dsimp only at hSw); go_simp; try with_reducible rfl
                    try simp only [List.getElem_toArray]
                    try simp only [List.getElem_cons_succ]
                    try simp only [List.getElem_cons_zero]
                    try simp only [Act.put]
                    try simp only [List.setIfInBounds_toArray]
                    try simp only [List.set]
                    refine wpAnyH_take (i := 21) (v := ?v44) rfl (by kernel_rfl) (by kernel_rfl) (by kernel_rfl) (fun _ _ _ h => h) (Or.inl ⟨by kernel_rfl, ?h44⟩) hHeld ?_
                    case h44 => intro u hSw; (try dsimp only at hSw); go_simp; try with_reducible rfl
                    try simp only [List.getElem_toArray]
                    try simp only [List.getElem_cons_succ]
                    try simp only [List.getElem_cons_zero]
                    try simp only [Act.put]
                    try simp only [List.setIfInBounds_toArray]
                    try simp only [List.set]
                    refine wpAnyH_take (i := 28) (v := ?v45) rfl (by kernel_rfl) (by kernel_rfl) (by kernel_rfl) (fun _ _ _ h => h) (Or.inl ⟨by kernel_rfl, ?h45⟩) hHeld ?_
                    case h45 => intro u hSw; (try dsimp only at hSw); go_simp; try with_reducible rfl
                    try simp only [List.getElem_toArray]
                    try simp only [List.getElem_cons_succ]
                    try simp only [List.getElem_cons_zero]
                    try simp only [Act.put]
                    try simp only [List.setIfInBounds_toArray]
                    try simp only [List.set]
                    refine wpAnyH_take (i := 22) (v := ?v46) rfl (by kernel_rfl) (by kernel_rfl) (by kernel_rfl) (fun _ _ _ h => h) (Or.inl ⟨by kernel_rfl, ?h46⟩) hHeld ?_
                    case h46 => intro u hSw; obtain ⟨x1, x2, x3, x4, _⟩ := hSw; go_simp; try with_reducible rfl
                    try simp only [List.getElem_toArray]
                    try simp only [List.getElem_cons_succ]
                    try simp only [List.getElem_cons_zero]
                    try simp only [Act.put]
                    try simp only [List.setIfInBounds_toArray]
                    try simp only [List.set]
                    refine wpAnyH_take (i := 29) (v := ?v47) rfl (by kernel_rfl) (by kernel_rfl) (by kernel_rfl) (fun _ _ _ h => h) (Or.inl ⟨by kernel_rfl, ?h47⟩) hHeld ?_
                    case h47 => intro u hSw; obtain ⟨x1, x2, x3, x4, _⟩ := hSw; go_simp; try with_reducible rfl
                    try simp only [List.getElem_toArray]
                    try simp only [List.getElem_cons_succ]
                    try simp only [List.getElem_cons_zero]
                    try simp only [Act.put]
                    try simp only [List.setIfInBounds_toArray]
                    try simp only [List.set]
                    refine wpAnyH_take (i := 30) (v := ?v48) rfl (by kernel_rfl) (by kernel_rfl) (by kernel_rfl) (fun _ _ _ h => h) (Or.inl ⟨by kernel_rfl, ?h48⟩) hHeld ?_
                    case h48 => intro u hSw; (try dsimp only at hSw); go_simp; try with_reducible rfl
                    try simp only [List.getElem_toArray]
                    try simp only [List.getElem_cons_succ]
                    try simp only [List.getElem_cons_zero]
                    try simp only [Act.put]
                    try simp only [List.setIfInBounds_toArray]
                    try simp only [List.set]
                    refine wpAnyH_take (i := 31) (v := ?v49) rfl (by kernel_rfl) (by kernel_rfl) (by kernel_rfl) (fun _ _ _ h => h) (Or.inl ⟨by kernel_rfl, ?h49⟩) hHeld ?_
                    case h49 => intro u hSw; (try dsimp only at hSw); go_simp; try with_reducible rfl
                    try simp only [List.getElem_toArray]
                    try simp only [List.getElem_cons_succ]
                    try simp only [List.getElem_cons_zero]
                    try simp only [Act.put]
                    try simp only [List.setIfInBounds_toArray]
                    try simp only [List.set]
                    refine wpAnyH_done (by kernel_rfl) ?_ _
                    have g2 := hHeld.2.2.2.2
                    clear hHeld
                    go_wp2_with fail
                    go_meet
                    case rel => exact ⟨by rw [HTv.out], g2⟩
                · have HTv : Hid (t = false) := by show _ = _; rw [HTB.out]; simp [h1]
                  have d1 : (xt == yt) = false := by simpa using h1
                  refine wp_region_held_drew (S := fun V => V.cell? ⟨b, off + i1 * 10 + 6, none⟩ = some (.int .i64 xt) ∧ V.cell? ⟨b, off + k1 * 10 + 6, none⟩ = some (.int .i64 yt) ∧ V.cell? ⟨b, off + i1 * 10 + 7, none⟩ = some (.int .i64 xk) ∧ V.cell? ⟨b, off + k1 * 10 + 7, none⟩ = some (.int .i64 yk) ∧ Below w4.heap.size w4 V) (by kernel_rfl) hS0 (fun hHeld => ?_)
                  generalize wr.drew = D at hHeld ⊢
                  clear hS0
                  · skip
                    refine wpAnyH_take (i := 0) (v := ?v1) rfl (by kernel_rfl) (by kernel_rfl) (by kernel_rfl) (fun _ _ _ h => h) (Or.inl ⟨by kernel_rfl, ?h1⟩) hHeld ?_
                    case h1 => intro u hSw; (try dsimp only at hSw); go_simp; try with_reducible rfl
                    try simp only [List.getElem_toArray]
                    try simp only [List.getElem_cons_succ]
                    try simp only [List.getElem_cons_zero]
                    try simp only [Act.put]
                    try simp only [List.setIfInBounds_toArray]
                    try simp only [List.set]
                    refine wpAnyH_take (i := 1) (v := ?v2) rfl (by kernel_rfl) (by kernel_rfl) (by kernel_rfl) (fun _ _ _ h => h) (Or.inl ⟨by kernel_rfl, ?h2⟩) hHeld ?_
                    case h2 => intro u hSw; (try dsimp only at hSw); go_simp; try with_reducible rfl
                    try simp only [List.getElem_toArray]
                    try simp only [List.getElem_cons_succ]
                    try simp only [List.getElem_cons_zero]
                    try simp only [Act.put]
                    try simp only [List.setIfInBounds_toArray]
                    try simp only [List.set]
                    refine wpAnyH_take (i := 7) (v := ?v3) rfl (by kernel_rfl) (by kernel_rfl) (by kernel_rfl) (fun _ _ _ h => h) (Or.inl ⟨by kernel_rfl, ?h3⟩) hHeld ?_
                    case h3 => intro u hSw; (try dsimp only at hSw); go_simp; try with_reducible rfl
                    try simp only [List.getElem_toArray]
                    try simp only [List.getElem_cons_succ]
                    try simp only [List.getElem_cons_zero]
                    try simp only [Act.put]
                    try simp only [List.setIfInBounds_toArray]
                    try simp only [List.set]
                    refine wpAnyH_take (i := 8) (v := ?v4) rfl (by kernel_rfl) (by kernel_rfl) (by kernel_rfl) (fun _ _ _ h => h) (Or.inl ⟨by kernel_rfl, ?h4⟩) hHeld ?_
                    case h4 => intro u hSw; (try dsimp only at hSw); go_simp; try with_reducible rfl
                    try simp only [List.getElem_toArray]
                    try simp only [List.getElem_cons_succ]
                    try simp only [List.getElem_cons_zero]
                    try simp only [Act.put]
                    try simp only [List.setIfInBounds_toArray]
                    try simp only [List.set]
                    refine wpAnyH_take (i := 2) (v := ?v5) rfl (by kernel_rfl) (by kernel_rfl) (by kernel_rfl) (fun _ _ _ h => h) (Or.inl ⟨by kernel_rfl, ?h5⟩) hHeld ?_
                    case h5 => intro u hSw; (try dsimp only at hSw); go_simp; try with_reducible rfl
                    try simp only [List.getElem_toArray]
                    try simp only [List.getElem_cons_succ]
                    try simp only [List.getElem_cons_zero]
                    try simp only [Act.put]
                    try simp only [List.setIfInBounds_toArray]
                    try simp only [List.set]
                    refine wpAnyH_take (i := 9) (v := ?v6) rfl (by kernel_rfl) (by kernel_rfl) (by kernel_rfl) (fun _ _ _ h => h) (Or.inl ⟨by kernel_rfl, ?h6⟩) hHeld ?_
                    case h6 => intro u hSw; (try dsimp only at hSw); go_simp; try with_reducible rfl
                    try simp only [List.getElem_toArray]
                    try simp only [List.getElem_cons_succ]
                    try simp only [List.getElem_cons_zero]
                    try simp only [Act.put]
                    try simp only [List.setIfInBounds_toArray]
                    try simp only [List.set]
                    refine wpAnyH_take (i := 3) (v := ?v7) rfl (by kernel_rfl) (by kernel_rfl) (by kernel_rfl) (fun _ _ _ h => h) (Or.inl ⟨by kernel_rfl, ?h7⟩) hHeld ?_
                    case h7 => intro u hSw; (try dsimp only at hSw); go_simp; try with_reducible rfl
                    try simp only [List.getElem_toArray]
                    try simp only [List.getElem_cons_succ]
                    try simp only [List.getElem_cons_zero]
                    try simp only [Act.put]
                    try simp only [List.setIfInBounds_toArray]
                    try simp only [List.set]
                    refine wpAnyH_take (i := 10) (v := ?v8) rfl (by kernel_rfl) (by kernel_rfl) (by kernel_rfl) (fun _ _ _ h => h) (Or.inl ⟨by kernel_rfl, ?h8⟩) hHeld ?_
                    case h8 => intro u hSw; (try dsimp only at hSw); go_simp; try with_reducible rfl
                    try simp only [List.getElem_toArray]
                    try simp only [List.getElem_cons_succ]
                    try simp only [List.getElem_cons_zero]
                    try simp only [Act.put]
                    try simp only [List.setIfInBounds_toArray]
                    try simp only [List.set]
                    refine wpAnyH_take (i := 4) (v := ?v9) rfl (by kernel_rfl) (by kernel_rfl) (by kernel_rfl) (fun _ _ _ h => h) (Or.inl ⟨by kernel_rfl, ?h9⟩) hHeld ?_
                    case h9 => intro u hSw; (try dsimp only at hSw); go_simp; try with_reducible rfl
                    try simp only [List.getElem_toArray]
                    try simp only [List.getElem_cons_succ]
                    try simp only [List.getElem_cons_zero]
                    try simp only [Act.put]
                    try simp only [List.setIfInBounds_toArray]
                    try simp only [List.set]
                    refine wpAnyH_take (i := 11) (v := ?v10) rfl (by kernel_rfl) (by kernel_rfl) (by kernel_rfl) (fun _ _ _ h => h) (Or.inl ⟨by kernel_rfl, ?h10⟩) hHeld ?_
                    case h10 => intro u hSw; (try dsimp only at hSw); go_simp; try with_reducible rfl
                    try simp only [List.getElem_toArray]
                    try simp only [List.getElem_cons_succ]
                    try simp only [List.getElem_cons_zero]
                    try simp only [Act.put]
                    try simp only [List.setIfInBounds_toArray]
                    try simp only [List.set]
                    refine wpAnyH_take (i := 5) (v := ?v11) rfl (by kernel_rfl) (by kernel_rfl) (by kernel_rfl) (fun _ _ _ h => h) (Or.inl ⟨by kernel_rfl, ?h11⟩) hHeld ?_
                    case h11 => intro u hSw; (try dsimp only at hSw); go_simp; try with_reducible rfl
                    try simp only [List.getElem_toArray]
                    try simp only [List.getElem_cons_succ]
                    try simp only [List.getElem_cons_zero]
                    try simp only [Act.put]
                    try simp only [List.setIfInBounds_toArray]
                    try simp only [List.set]
                    refine wpAnyH_take (i := 12) (v := ?v12) rfl (by kernel_rfl) (by kernel_rfl) (by kernel_rfl) (fun _ _ _ h => h) (Or.inl ⟨by kernel_rfl, ?h12⟩) hHeld ?_
                    case h12 => intro u hSw; (try dsimp only at hSw); go_simp; try with_reducible rfl
                    try simp only [List.getElem_toArray]
                    try simp only [List.getElem_cons_succ]
                    try simp only [List.getElem_cons_zero]
                    try simp only [Act.put]
                    try simp only [List.setIfInBounds_toArray]
                    try simp only [List.set]
                    refine wpAnyH_take (i := 6) (v := ?v13) rfl (by kernel_rfl) (by kernel_rfl) (by kernel_rfl) (fun _ _ _ h => h) (Or.inl ⟨by kernel_rfl, ?h13⟩) hHeld ?_
                    case h13 => intro u hSw; obtain ⟨x1, x2, x3, x4, _⟩ := hSw; go_simp; try with_reducible rfl
                    try simp only [List.getElem_toArray]
                    try simp only [List.getElem_cons_succ]
                    try simp only [List.getElem_cons_zero]
                    try simp only [Act.put]
                    try simp only [List.setIfInBounds_toArray]
                    try simp only [List.set]
                    refine wpAnyH_take (i := 13) (v := ?v14) rfl (by kernel_rfl) (by kernel_rfl) (by kernel_rfl) (fun _ _ _ h => h) (Or.inl ⟨by kernel_rfl, ?h14⟩) hHeld ?_
                    case h14 => intro u hSw; obtain ⟨x1, x2, x3, x4, _⟩ := hSw; go_simp; try with_reducible rfl
                    try simp only [List.getElem_toArray]
                    try simp only [List.getElem_cons_succ]
                    try simp only [List.getElem_cons_zero]
                    try simp only [Act.put]
                    try simp only [List.setIfInBounds_toArray]
                    try simp only [List.set]
                    refine wpAnyH_take (i := 14) (v := ?v15) rfl (by kernel_rfl) (by kernel_rfl) (by kernel_rfl) (fun _ _ _ h => h) (Or.inl ⟨by kernel_rfl, ?h15⟩) hHeld ?_
                    case h15 => intro u hSw; (try dsimp only at hSw); go_simp; try with_reducible rfl
                    try simp only [List.getElem_toArray]
                    try simp only [List.getElem_cons_succ]
                    try simp only [List.getElem_cons_zero]
                    try simp only [Act.put]
                    try simp only [List.setIfInBounds_toArray]
                    try simp only [List.set]
                    refine wpAnyH_take (i := 15) (v := ?v16) rfl (by kernel_rfl) (by kernel_rfl) (by kernel_rfl) (fun _ _ _ h => h) (Or.inl ⟨by kernel_rfl, ?h16⟩) hHeld ?_
                    case h16 => intro u hSw; (try dsimp only at hSw); go_simp; try with_reducible rfl
                    try simp only [List.getElem_toArray]
                    try simp only [List.getElem_cons_succ]
                    try simp only [List.getElem_cons_zero]
                    try simp only [Act.put]
                    try simp only [List.setIfInBounds_toArray]
                    try simp only [List.set]
                    refine wpAnyH_take (i := 16) (v := undef) rfl (by kernel_rfl) (by kernel_rfl) (by kernel_rfl) (fun _ _ _ h => h) (Or.inr ⟨by kernel_rfl, rfl⟩) hHeld ?_
                    try simp only [List.getElem_toArray]
                    try simp only [List.getElem_cons_succ]
                    try simp only [List.getElem_cons_zero]
                    try simp only [Act.put]
                    try simp only [List.setIfInBounds_toArray]
                    try simp only [List.set]
                    refine wpAnyH_take (i := 17) (v := undef) rfl (by kernel_rfl) (by kernel_rfl) (by kernel_rfl) (fun _ _ _ h => h) (Or.inr ⟨by kernel_rfl, rfl⟩) hHeld ?_
                    try simp only [List.getElem_toArray]
                    try simp only [List.getElem_cons_succ]
                    try simp only [List.getElem_cons_zero]
                    try simp only [Act.put]
                    try simp only [List.setIfInBounds_toArray]
                    try simp only [List.set]
                    refine wpAnyH_take (i := 23) (v := undef) rfl (by kernel_rfl) (by kernel_rfl) (by kernel_rfl) (fun _ _ _ h => h) (Or.inr ⟨by kernel_rfl, rfl⟩) hHeld ?_
                    try simp only [List.getElem_toArray]
                    try simp only [List.getElem_cons_succ]
                    try simp only [List.getElem_cons_zero]
                    try simp only [Act.put]
                    try simp only [List.setIfInBounds_toArray]
                    try simp only [List.set]
                    refine wpAnyH_take (i := 24) (v := undef) rfl (by kernel_rfl) (by kernel_rfl) (by kernel_rfl) (fun _ _ _ h => h) (Or.inr ⟨by kernel_rfl, rfl⟩) hHeld ?_
                    try simp only [List.getElem_toArray]
                    try simp only [List.getElem_cons_succ]
                    try simp only [List.getElem_cons_zero]
                    try simp only [Act.put]
                    try simp only [List.setIfInBounds_toArray]
                    try simp only [List.set]
                    refine wpAnyH_take (i := 18) (v := undef) rfl (by kernel_rfl) (by kernel_rfl) (by kernel_rfl) (fun _ _ _ h => h) (Or.inr ⟨by kernel_rfl, rfl⟩) hHeld ?_
                    try simp only [List.getElem_toArray]
                    try simp only [List.getElem_cons_succ]
                    try simp only [List.getElem_cons_zero]
                    try simp only [Act.put]
                    try simp only [List.setIfInBounds_toArray]
                    try simp only [List.set]
                    refine wpAnyH_take (i := 25) (v := undef) rfl (by kernel_rfl) (by kernel_rfl) (by kernel_rfl) (fun _ _ _ h => h) (Or.inr ⟨by kernel_rfl, rfl⟩) hHeld ?_
                    try simp only [List.getElem_toArray]
                    try simp only [List.getElem_cons_succ]
                    try simp only [List.getElem_cons_zero]
                    try simp only [Act.put]
                    try simp only [List.setIfInBounds_toArray]
                    try simp only [List.set]
                    refine wpAnyH_take (i := 19) (v := undef) rfl (by kernel_rfl) (by kernel_rfl) (by kernel_rfl) (fun _ _ _ h => h) (Or.inr ⟨by kernel_rfl, rfl⟩) hHeld ?_
                    try simp only [List.getElem_toArray]
                    try simp only [List.getElem_cons_succ]
                    try simp only [List.getElem_cons_zero]
                    try simp only [Act.put]
                    try simp only [List.setIfInBounds_toArray]
                    try simp only [List.set]
                    refine wpAnyH_take (i := 26) (v := undef) rfl (by kernel_rfl) (by kernel_rfl) (by kernel_rfl) (fun _ _ _ h => h) (Or.inr ⟨by kernel_rfl, rfl⟩) hHeld ?_
                    try simp only [List.getElem_toArray]
                    try simp only [List.getElem_cons_succ]
                    try simp only [List.getElem_cons_zero]
                    try simp only [Act.put]
                    try simp only [List.setIfInBounds_toArray]
                    try simp only [List.set]
                    refine wpAnyH_take (i := 20) (v := undef) rfl (by kernel_rfl) (by kernel_rfl) (by kernel_rfl) (fun _ _ _ h => h) (Or.inr ⟨by kernel_rfl, rfl⟩) hHeld ?_
                    try simp only [List.getElem_toArray]
                    try simp only [List.getElem_cons_succ]
                    try simp only [List.getElem_cons_zero]
                    try simp only [Act.put]
                    try simp only [List.setIfInBounds_toArray]
                    try simp only [List.set]
                    refine wpAnyH_take (i := 27) (v := undef) rfl (by kernel_rfl) (by kernel_rfl) (by kernel_rfl) (fun _ _ _ h => h) (Or.inr ⟨by kernel_rfl, rfl⟩) hHeld ?_
                    try simp only [List.getElem_toArray]
                    try simp only [List.getElem_cons_succ]
                    try simp only [List.getElem_cons_zero]
                    try simp only [Act.put]
                    try simp only [List.setIfInBounds_toArray]
                    try simp only [List.set]
                    refine wpAnyH_take (i := 21) (v := undef) rfl (by kernel_rfl) (by kernel_rfl) (by kernel_rfl) (fun _ _ _ h => h) (Or.inr ⟨by kernel_rfl, rfl⟩) hHeld ?_
                    try simp only [List.getElem_toArray]
                    try simp only [List.getElem_cons_succ]
                    try simp only [List.getElem_cons_zero]
                    try simp only [Act.put]
                    try simp only [List.setIfInBounds_toArray]
                    try simp only [List.set]
                    refine wpAnyH_take (i := 28) (v := undef) rfl (by kernel_rfl) (by kernel_rfl) (by kernel_rfl) (fun _ _ _ h => h) (Or.inr ⟨by kernel_rfl, rfl⟩) hHeld ?_
                    try simp only [List.getElem_toArray]
                    try simp only [List.getElem_cons_succ]
                    try simp only [List.getElem_cons_zero]
                    try simp only [Act.put]
                    try simp only [List.setIfInBounds_toArray]
                    try simp only [List.set]
                    refine wpAnyH_take (i := 22) (v := undef) rfl (by kernel_rfl) (by kernel_rfl) (by kernel_rfl) (fun _ _ _ h => h) (Or.inr ⟨by kernel_rfl, rfl⟩) hHeld ?_
                    try simp only [List.getElem_toArray]
                    try simp only [List.getElem_cons_succ]
                    try simp only [List.getElem_cons_zero]
                    try simp only [Act.put]
                    try simp only [List.setIfInBounds_toArray]
                    try simp only [List.set]
                    refine wpAnyH_take (i := 29) (v := undef) rfl (by kernel_rfl) (by kernel_rfl) (by kernel_rfl) (fun _ _ _ h => h) (Or.inr ⟨by kernel_rfl, rfl⟩) hHeld ?_
                    try simp only [List.getElem_toArray]
                    try simp only [List.getElem_cons_succ]
                    try simp only [List.getElem_cons_zero]
                    try simp only [Act.put]
                    try simp only [List.setIfInBounds_toArray]
                    try simp only [List.set]
                    refine wpAnyH_take (i := 30) (v := undef) rfl (by kernel_rfl) (by kernel_rfl) (by kernel_rfl) (fun _ _ _ h => h) (Or.inr ⟨by kernel_rfl, rfl⟩) hHeld ?_
                    try simp only [List.getElem_toArray]
                    try simp only [List.getElem_cons_succ]
                    try simp only [List.getElem_cons_zero]
                    try simp only [Act.put]
                    try simp only [List.setIfInBounds_toArray]
                    try simp only [List.set]
                    refine wpAnyH_take (i := 31) (v := ?v17) rfl (by kernel_rfl) (by kernel_rfl) (by kernel_rfl) (fun _ _ _ h => h) (Or.inl ⟨by kernel_rfl, ?h17⟩) hHeld ?_
                    case h17 => intro u hSw; (try dsimp only at hSw); go_simp; try with_reducible rfl
                    try simp only [List.getElem_toArray]
                    try simp only [List.getElem_cons_succ]
                    try simp only [List.getElem_cons_zero]
                    try simp only [Act.put]
                    try simp only [List.setIfInBounds_toArray]
                    try simp only [List.set]
                    refine wpAnyH_done (by kernel_rfl) ?_ _
                    have g2 := hHeld.2.2.2.2
                    clear hHeld
                    go_wp2_with fail
                    go_meet
                    case rel => exact ⟨by rw [HTv.out], g2⟩
              case rest =>
                clear hS0 g
                obtain ⟨rfl, g⟩ := hcut
                cases t
                · have hAll2 : Hid (∀ k y, k < k1 + 1 → zs[k]? = some y → ky x ≠ ky y) := fun k z hk hz => by
                    by_cases e : k = k1
                    · subst e
                      rw [HY.out] at hz
                      cases hz
                      intro e2
                      have := HTt.out.1 e2
                      have h3 := HTB.out
                      simp [this.1, this.2] at h3
                    · exact hAll.out k z (by omega) hz
                  go_wp2_with fail
                  go_roundw
                  case rel => exact ⟨k1 + 1, by omega, by go_num, hAll2, g⟩
                  case measure => simp [intOf]; omega
                · have HQ : Hid (viewQ ps = 8) := by
                    show _ = _
                    have h3 := HTB.out
                    simp at h3
                    rw [HV2.out, HKeys.out, if_neg (key_mono (i := i1 + 1) (fun hd => HSt.out.2 hd k1 y hlt2 HY.out (HTt.out.2 h3)))]
                  have g := HG4.out.trans (g.mono HG4.out.size)
                  go_wp2_with fail
                  go_ret
                  exact ⟨by rw [HQ.out]; rfl, g⟩
            · have e : k1 = i1 := by omega
              subst e
              have hNd2 : Hid (((zs.take (k1 + 1)).map ky).Nodup) := HSt.out.1 hAll.out
              go_wp2_with fail
              go_roundw
              case rel => exact ⟨k1 + 1, by omega, by go_num, hNd2, g⟩
              case measure => simp [intOf]; omega
        · have e : i1 = j := by omega
          subst e
          rw [List.take_of_length_le (by rw [HNz.out]; exact Nat.le_refl _)] at hNd
          have HQ : Hid (viewQ ps = 0) := by show _ = _; rw [HV2.out, HKeys.out, if_pos hNd.out]
          have g := HG4.out.trans (g.mono HG4.out.size)
          go_wp2_with fail
          go_ret
          exact ⟨by rw [HQ.out]; rfl, g⟩
    · have HQ : Hid (viewQ ps = q2) := by show _ = _; rw [HV.out, if_neg (by rw [HSt.out]; exact hq3), HSt.out]
      have d : (q2 != 0) = true := by simpa using hq3
      go_wp2_with fail
      go_ret
      exact ⟨by rw [HQ.out]; rfl, g⟩
  · have HQ : Hid (viewQ ps = q1) := by
      show _ = _
      have h0 : allQ ps = q1 := by rw [HA.out]; exact HQ1.out
      unfold viewQ
      rw [if_neg (by rw [h0]; exact hq0), h0]
    have d : (q1 != 0) = true := by simpa using hq0
    go_wp2_with fail
    go_ret
    exact ⟨by rw [HQ.out]; rfl, g1⟩

end Go.Proofs.Yteebbaleejbodaa
