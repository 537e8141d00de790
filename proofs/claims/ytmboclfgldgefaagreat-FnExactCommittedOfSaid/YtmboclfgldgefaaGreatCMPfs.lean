/-
  The model's l11Fault and PlainFault.
-/
import Derived.Test.YtmboclfgldgefaaGreatCMUnd
import Derived.Test.YtmboclfgldgefaaGreatCMPlr
import Derived.BigQuiet

namespace Go.Proofs.YtmboclfgldgefaaGreat
open Go.RowKit Go.Maps
set_option linter.unusedVariables false
set_option maxRecDepth 20000

set_option maxHeartbeats 8000000 in
theorem l11Fault_any (pb : Nat) (ra : Option Addr) (rs : List Rw) (rn rc : Nat) (a : Option Addr) (xs : List TxV) (n c : Nat) (nx : Int) (w : World) (hP : P3 w pb (.slice ra rn rc) (.slice a n c) (.int .i64 nx)) (hrn : rs.length = rn) (hrm : rn ≤ 1048576) (hrs : ∀ r ∈ rs, r.s.size ≤ 1048576) (hr : Rs rwE 4 w ra rs) (hn : xs.length = n) (hm : n ≤ 1048576) (hs : ∀ x ∈ xs, TxOk 1048576 x) (hx : TxRd w a xs) :
    Calls Tryz.prog 18 #[.pointer (some ⟨pb, 0, none⟩)] w fun e w' => e = .returned (.int .i64 (pnQ rs xs nx)) ∧ Below w.heap.size w w' := by
  have hlP := hP.lt
  have HP : Hid (∀ V, Below w.heap.size w V → P3 V pb (.slice ra rn rc) (.slice a n c) (.int .i64 nx)) := fun V hV => hP.below hV hlP
  have HRf : Hid (∀ V, Below w.heap.size w V → Calls Tryz.prog 35 #[.slice ra rn rc] V fun e w' => e = .returned (.int .i64 (rowsQ rs)) ∧ Below V.heap.size V w') := fun V hV => l6Rows_any ra rs rn rc V hrn (by omega) (fun r hr => Nat.le_trans (hrs r hr) (by decide)) (hr.below hV (Nat.le_refl _))
  have HF : Hid (∀ V, Below w.heap.size w V → Calls Tryz.prog 36 #[.slice a n c] V fun e w' => e = .returned (.int .i64 (txsQ xs)) ∧ Below V.heap.size V w') := fun V hV => l10Fault_any a xs n c V hn hm hs (hx.below hV (Nat.le_refl _))
  have HRm : Hid (∀ V, Below w.heap.size w V → txsQ xs = 0 → Calls Tryz.prog 38 #[.slice ra rn rc, .slice a n c, .agg #[.int .i64 0, .int .i64 0]] V fun e w' => e = .returned (.int .i64 ((allRK rs xs).length : Nat)) ∧ Below V.heap.size V w') := fun V hV h0 => by
    have h := l10Room_any ra rs rn rc a xs n c 0 0 V hrn hrm (hr.below hV (Nat.le_refl _)) hn (by rw [← hn]; exact (txs_parts h0).1) hs (hx.below hV (Nat.le_refl _))
    rw [rm_fold, if_pos rfl] at h
    exact h
  have HBk : Hid (∀ V, Below w.heap.size w V → rowsQ rs = 0 → txsQ xs = 0 → Calls Tryz.prog 29 #[.slice ra rn rc, .slice a n c] V fun e w' => (∃ v, e = .returned (.tuple #[v, .bool (undR rs (undL xs)).isSome])) ∧ Below V.heap.size V w') := fun V hV h1 h2 => by
    refine (l11Back_any ra rs rn rc a xs n c V hrn (rowsQ_ris h1).1 (hr.below hV (Nat.le_refl _)) hn h2 (hx.below hV (Nat.le_refl _))).mono ?_
    rintro e w' ⟨hb, ⟨h1, h2⟩ | ⟨l, g, z, c, h1, h2, h3, h4⟩⟩
    · exact ⟨⟨_, by rw [h1]; exact h2⟩, hb⟩
    · exact ⟨⟨_, by rw [h1]; exact h2⟩, hb⟩
  have HX : Hid (∀ V, Below w.heap.size w V → TxRd V a xs) := fun V hV => hx.below hV (Nat.le_refl _)
  have HN : Hid (xs.length = n) := hn
  have HNx : Hid (txsQ xs = 0 → nxQ nx xs = if inW nx 1 100 = true ∧ lastB xs nx = false then 0 else 3) := nx_last
  have HE : Hid (pnQ rs xs nx = if rowsQ rs = 0 then (if txsQ xs = 0 then (if nxQ nx xs = 0 then (if 12 < (allRK rs xs).length then 2 else if (undR rs (undL xs)).isSome = true then 0 else 8) else 3) else txsQ xs) else rowsQ rs) := rfl
  obtain ⟨Q, hQ⟩ : ∃ Q, pnQ rs xs nx = Q := ⟨_, rfl⟩
  rw [hQ] at HE ⊢
  have hlen : (allRK rs xs).length ≤ rn + 4 * 1048576 * 4 ∨ True := .inr trivial
  clear hrn hrs hr hn hs hx hQ hP hlen
  generalize rowsQ rs = k1 at HRf HBk HE
  generalize txsQ xs = k2 at HF HBk HRm HE HNx
  generalize (allRK rs xs).length = al at HRm HE
  generalize (undR rs (undL xs)).isSome = ok at HBk HE
  go_enter Tryz.func18, Tryz.ntmps18
  obtain ⟨q0, q1, q2⟩ := HP.out w (Below.refl _ _)
  have hcon := HRf.out w (Below.refl _ _)
  go_wp2_with fail
  refine hcon.mono ?_
  rintro e w1 ⟨rfl, g⟩
  clear hcon q0 q1 q2 HRf
  by_cases h1 : k1 = 0
  case neg =>
    have d1 : (k1 != 0) = true := by simpa using h1
    have HQ : Hid (Q = k1) := by show _ = _; rw [HE.out, if_neg h1]
    clear HE HBk
    go_wp2_with fail
    go_ret
    exact ⟨by rw [HQ.out]; rfl, g⟩
  subst h1
  obtain ⟨q0, q1, q2⟩ := HP.out w1 g
  have hcon := HF.out w1 g
  go_wp2_with fail
  refine hcon.mono ?_
  rintro e w2 ⟨rfl, g2⟩
  have g := g.trans (g2.mono g.size)
  clear hcon q0 q1 q2 HF g2
  by_cases h2 : k2 = 0
  case neg =>
    have d1 : (k2 != 0) = true := by simpa using h2
    have HQ : Hid (Q = k2) := by show _ = _; rw [HE.out]; simp [h2]
    clear HE HBk HRm HNx
    go_wp2_with fail
    go_ret
    exact ⟨by rw [HQ.out]; rfl, g⟩
  subst h2
  have HE2 : Hid (Q = if nxQ nx xs = 0 then (if 12 < al then 2 else if ok = true then 0 else 8) else 3) := by show _ = _; rw [HE.out]; simp
  have HRm2 : Hid (∀ V, Below w.heap.size w V → Calls Tryz.prog 38 #[.slice ra rn rc, .slice a n c, .agg #[.int .i64 0, .int .i64 0]] V fun e w' => e = .returned (.int .i64 (al : Nat)) ∧ Below V.heap.size V w') := fun V hV => HRm.out V hV (by simp)
  have HBk2 : Hid (∀ V, Below w.heap.size w V → Calls Tryz.prog 29 #[.slice ra rn rc, .slice a n c] V fun e w' => (∃ v, e = .returned (.tuple #[v, .bool ok])) ∧ Below V.heap.size V w') := fun V hV => HBk.out V hV (by simp) (by simp)
  have HNx2 : Hid (nxQ nx xs = if inW nx 1 100 = true ∧ lastB xs nx = false then 0 else 3) := HNx.out (by simp)
  clear HE HNx HRm HBk
  obtain ⟨q0, q1, q2⟩ := HP.out w2 g
  go_upto_region 8 with (fail)
  obtain ⟨tb, htb⟩ : ∃ tb, (!(inW nx 1 100) || lastB xs nx) = tb := ⟨_, rfl⟩
  have HNt : Hid (nxQ nx xs = if tb = true then 3 else 0) := by
    show nxQ nx xs = _
    rw [HNx2.out, ← htb]
    generalize inW nx 1 100 = p
    generalize lastB xs nx = q
    clear htb HE2 HNx2
    revert p q
    decide
  clear HNx2
  go_cut [54] from 29 (fun s wc => s = .bool tb ∧ Below w.heap.size w wc)
  case first =>
    clear HRm2 HBk2 HE2 HNt
    obtain ⟨kb, hkb⟩ : ∃ kb, inW nx 1 100 = kb := ⟨_, rfl⟩
    have hl1 : ∀ W, Calls Tryz.prog 37 #[.int .i64 nx, .int .i64 1, .int .i64 100] W fun e w' => e = .returned (.bool kb) ∧ w' = W := fun W => by
      have h := l1InW_any nx 1 100 W
      rw [hkb] at h
      exact h
    rw [hkb] at htb
    clear hkb
    cases kb
    · have HTb : Hid (tb = true) := by rw [← htb]; rfl
      clear htb
      go_quiet (first | (go_at_call 37; refine Calls.quiet_of_same (hl1 _)))
      go_wp2_with fail
      go_meet
      case rel => exact ⟨by rw [HTb.out], g.trans ⟨rfl, rfl, rfl, Nat.le_refl _, fun _ _ => rfl⟩⟩
    · by_cases h0 : n = 0
      · subst h0
        obtain rfl : xs = [] := List.length_eq_zero_iff.1 HN.out
        have HTb : Hid (tb = false) := by rw [← htb]; rfl
        have d0 : decide ((0 : Int) < ((0 : Nat) : Int)) = false := by decide
        clear htb
        go_quiet (first | (go_at_call 37; refine Calls.quiet_of_same (hl1 _)))
        go_wp2_with fail
        go_meet
        case rel => exact ⟨by rw [HTb.out], g.trans ⟨rfl, rfl, rfl, Nat.le_refl _, fun _ _ => rfl⟩⟩
      · obtain ⟨j, hj⟩ : ∃ j, n = j + 1 := ⟨n - 1, by omega⟩
        have hjl : j < xs.length := by have := HN.out; omega
        have hx : xs[j]? = some xs[j] := List.getElem?_eq_getElem hjl
        obtain ⟨b, off, ua, ma, la, uc, mc, lc, e0, Z⟩ := (HX.out w2 g).at hx
        obtain rfl := e0
        obtain ⟨id, hid⟩ : ∃ id, xs[j].id = id := ⟨_, rfl⟩
        have HTb : Hid (tb = decide (id ≥ nx)) := by
          have hne : xs ≠ [] := fun e => by rw [e] at hjl; simp at hjl
          have hl : xs.getLast hne = xs[j] := by
            rw [List.getLast_eq_getElem hne]
            congr 1
            have := HN.out; omega
          rw [← htb]
          show _ = _
          unfold lastB
          rw [List.getLast?_eq_some_getLast hne, hl]
          simp [hid]
        have c0 := Z.c0
        rw [hid] at c0
        have hj1 : (n : Int) - 1 = (j : Int) := by omega
        have hjn : (j : Int) < (n : Int) := by omega
        have d0 : decide (0 < n) = true := by simp; omega
        clear htb hid Z hx hjl h0 hj
        go_quiet (first | (go_at_call 37; refine Calls.quiet_of_same (hl1 _)))
        go_wp2_with fail
        go_meet
        case rel => exact ⟨by rw [HTb.out], g.trans ⟨rfl, rfl, rfl, Nat.le_refl _, fun _ _ => rfl⟩⟩
  case rest =>
    obtain ⟨rfl, g⟩ := hcut
    clear q0 q1 q2
    cases tb
    case true =>
      have HQ : Hid (Q = 3) := by show _ = _; rw [HE2.out, HNt.out]; rfl
      clear HE2 HNt HRm2 HBk2
      go_wp2_with fail
      go_ret
      exact ⟨by rw [HQ.out]; rfl, g⟩
    have HE3 : Hid (Q = if 12 < al then 2 else if ok = true then 0 else 8) := by
      show _ = _
      have h := HNt.out
      rw [HE2.out, h]
      rfl
    clear HE2 HNt
    go_upto_region 10 with (fail)
    obtain ⟨b12, hb12⟩ : ∃ b12, decide (12 < al) = b12 := ⟨_, rfl⟩
    have HB12 : Hid (decide (12 < al) = b12) := hb12
    clear hb12
    go_cut [65] from 55 (fun s wx => s = .bool b12 ∧ Below w.heap.size w wx)
    case first =>
      clear HBk2 HE3
      refine wp_region_held_drew (S := fun V => P3 V pb (.slice ra rn rc) (.slice a n c) (.int .i64 nx) ∧ Below w.heap.size w V) (by kernel_rfl) ⟨HP.out _ g.drew, g.drew⟩ (fun hHeld => ?_)
      generalize World.drew _ = D0 at hHeld ⊢
      refine wpAnyH_take (i := 0) (v := ?v1) rfl (by kernel_rfl) (by kernel_rfl) (by kernel_rfl) (fun _ _ _ h => h) (Or.inl ⟨by kernel_rfl, ?h1⟩) hHeld ?_
      case h1 => intro u hSw; clear hSw; go_simp; try with_reducible rfl
      try simp only [List.getElem_toArray]
      try simp only [List.getElem_cons_succ]
      try simp only [List.getElem_cons_zero]
      try simp only [Act.put]
      try simp only [List.setIfInBounds_toArray]
      try simp only [List.set]
      refine wpAnyH_take (i := 1) (v := ?v2) rfl (by kernel_rfl) (by kernel_rfl) (by kernel_rfl) (fun _ _ _ h => h) (Or.inl ⟨by kernel_rfl, ?h2⟩) hHeld ?_
      case h2 => intro u hSw; clear hSw; go_simp; try with_reducible rfl
      try simp only [List.getElem_toArray]
      try simp only [List.getElem_cons_succ]
      try simp only [List.getElem_cons_zero]
      try simp only [Act.put]
      try simp only [List.setIfInBounds_toArray]
      try simp only [List.set]
      refine wpAnyH_take (i := 2) (v := ?v3) rfl (by kernel_rfl) (by kernel_rfl) (by kernel_rfl) (fun _ _ _ h => h) (Or.inl ⟨by kernel_rfl, ?h3⟩) hHeld ?_
      case h3 => intro u hSw; clear hSw; go_simp; try with_reducible rfl
      try simp only [List.getElem_toArray]
      try simp only [List.getElem_cons_succ]
      try simp only [List.getElem_cons_zero]
      try simp only [Act.put]
      try simp only [List.setIfInBounds_toArray]
      try simp only [List.set]
      refine wpAnyH_take (i := 3) (v := ?v4) rfl (by kernel_rfl) (by kernel_rfl) (by kernel_rfl) (fun _ _ _ h => h) (Or.inl ⟨by kernel_rfl, ?h4⟩) hHeld ?_
      case h4 => intro u hSw; (obtain ⟨q0, q1, q2⟩ := hSw.1); clear hSw; go_simp; try with_reducible rfl
      try simp only [List.getElem_toArray]
      try simp only [List.getElem_cons_succ]
      try simp only [List.getElem_cons_zero]
      try simp only [Act.put]
      try simp only [List.setIfInBounds_toArray]
      try simp only [List.set]
      refine wpAnyH_take (i := 4) (v := ?v5) rfl (by kernel_rfl) (by kernel_rfl) (by kernel_rfl) (fun _ _ _ h => h) (Or.inl ⟨by kernel_rfl, ?h5⟩) hHeld ?_
      case h5 => intro u hSw; clear hSw; go_simp; try with_reducible rfl
      try simp only [List.getElem_toArray]
      try simp only [List.getElem_cons_succ]
      try simp only [List.getElem_cons_zero]
      try simp only [Act.put]
      try simp only [List.setIfInBounds_toArray]
      try simp only [List.set]
      refine wpAnyH_take (i := 5) (v := ?v6) rfl (by kernel_rfl) (by kernel_rfl) (by kernel_rfl) (fun _ _ _ h => h) (Or.inl ⟨by kernel_rfl, ?h6⟩) hHeld ?_
      case h6 => intro u hSw; clear hSw; go_simp; try with_reducible rfl
      try simp only [List.getElem_toArray]
      try simp only [List.getElem_cons_succ]
      try simp only [List.getElem_cons_zero]
      try simp only [Act.put]
      try simp only [List.setIfInBounds_toArray]
      try simp only [List.set]
      refine wpAnyH_take (i := 6) (v := ?v7) rfl (by kernel_rfl) (by kernel_rfl) (by kernel_rfl) (fun _ _ _ h => h) (Or.inl ⟨by kernel_rfl, ?h7⟩) hHeld ?_
      case h7 => intro u hSw; clear hSw; go_simp; try with_reducible rfl
      try simp only [List.getElem_toArray]
      try simp only [List.getElem_cons_succ]
      try simp only [List.getElem_cons_zero]
      try simp only [Act.put]
      try simp only [List.setIfInBounds_toArray]
      try simp only [List.set]
      refine wpAnyH_take (i := 7) (v := ?v8) rfl (by kernel_rfl) (by kernel_rfl) (by kernel_rfl) (fun _ _ _ h => h) (Or.inl ⟨by kernel_rfl, ?h8⟩) hHeld ?_
      case h8 => intro u hSw; (obtain ⟨q0, q1, q2⟩ := hSw.1); clear hSw; go_simp; try with_reducible rfl
      try simp only [List.getElem_toArray]
      try simp only [List.getElem_cons_succ]
      try simp only [List.getElem_cons_zero]
      try simp only [Act.put]
      try simp only [List.setIfInBounds_toArray]
      try simp only [List.set]
      refine wpAnyH_take (i := 8) (v := ?v9) rfl (by kernel_rfl) (by kernel_rfl) (by kernel_rfl) (fun _ _ _ h => h) (Or.inl ⟨by kernel_rfl, ?h9⟩) hHeld ?_
      case h9 => intro u hSw; clear hSw; go_simp; try with_reducible rfl
      try simp only [List.getElem_toArray]
      try simp only [List.getElem_cons_succ]
      try simp only [List.getElem_cons_zero]
      try simp only [Act.put]
      try simp only [List.setIfInBounds_toArray]
      try simp only [List.set]
      refine wpAnyH_ready (rs := [9]) (by kernel_rfl) (by simp) ?_
      refine AllReadyH.cons rfl (fun K hK => ?_) AllReadyH.nil
      go_simp
      go_wp2_with (go_at_call 38; refine (HRm2.out _ hHeld.2).mono ?_; rintro e W1 ⟨rfl, gg⟩)
      refine hK.out _ _ (⟨hHeld.1.below gg hHeld.1.lt, hHeld.2.trans (gg.mono hHeld.2.size)⟩) (fun hHeld => ?_)
      clear hK K
      try simp only [Act.put]
      try simp only [List.setIfInBounds_toArray]
      try simp only [List.set]
      refine wpAnyH_take (i := 10) (v := ?v10) rfl (by kernel_rfl) (by kernel_rfl) (by kernel_rfl) (fun _ _ _ h => h) (Or.inl ⟨by kernel_rfl, ?h10⟩) hHeld ?_
      case h10 => intro u hSw; clear hSw; go_simp; try with_reducible rfl
      try simp only [List.getElem_toArray]
      try simp only [List.getElem_cons_succ]
      try simp only [List.getElem_cons_zero]
      try simp only [Act.put]
      try simp only [List.setIfInBounds_toArray]
      try simp only [List.set]
      refine wpAnyH_done (by kernel_rfl) ?_ _
      go_wp2_with fail
      go_meet
      case rel => exact ⟨by rw [← HB12.out, show decide ((12 : Int) < (al : Int)) = decide (12 < al) from by rw [decide_eq_decide]; omega], hHeld.2⟩
    case rest =>
      obtain ⟨rfl, g⟩ := hcut
      cases b12
      case true =>
        have HQ : Hid (Q = 2) := by show _ = _; rw [HE3.out, if_pos (of_decide_eq_true HB12.out)]
        clear HE3 HBk2 HRm2 HB12
        go_wp2_with fail
        go_ret
        exact ⟨by rw [HQ.out]; rfl, g⟩
      have HE4 : Hid (Q = if ok = true then 0 else 8) := by show _ = _; rw [HE3.out, if_neg (of_decide_eq_false HB12.out)]
      clear HE3 HRm2 HB12
      go_upto_region 12 with (fail)
      go_cut [7] from 66 (fun s wx => s = .bool ok ∧ Below w.heap.size w wx)
      case first =>
        clear HE4
        refine wp_region_held_drew (S := fun V => P3 V pb (.slice ra rn rc) (.slice a n c) (.int .i64 nx) ∧ Below w.heap.size w V) (by kernel_rfl) ⟨HP.out _ g.drew, g.drew⟩ (fun hHeld => ?_)
        generalize World.drew _ = D0 at hHeld ⊢
        refine wpAnyH_take (i := 0) (v := ?v11) rfl (by kernel_rfl) (by kernel_rfl) (by kernel_rfl) (fun _ _ _ h => h) (Or.inl ⟨by kernel_rfl, ?h11⟩) hHeld ?_
        case h11 => intro u hSw; clear hSw; go_simp; try with_reducible rfl
        try simp only [List.getElem_toArray]
        try simp only [List.getElem_cons_succ]
        try simp only [List.getElem_cons_zero]
        try simp only [Act.put]
        try simp only [List.setIfInBounds_toArray]
        try simp only [List.set]
        refine wpAnyH_take (i := 1) (v := ?v12) rfl (by kernel_rfl) (by kernel_rfl) (by kernel_rfl) (fun _ _ _ h => h) (Or.inl ⟨by kernel_rfl, ?h12⟩) hHeld ?_
        case h12 => intro u hSw; clear hSw; go_simp; try with_reducible rfl
        try simp only [List.getElem_toArray]
        try simp only [List.getElem_cons_succ]
        try simp only [List.getElem_cons_zero]
        try simp only [Act.put]
        try simp only [List.setIfInBounds_toArray]
        try simp only [List.set]
        refine wpAnyH_take (i := 2) (v := ?v13) rfl (by kernel_rfl) (by kernel_rfl) (by kernel_rfl) (fun _ _ _ h => h) (Or.inl ⟨by kernel_rfl, ?h13⟩) hHeld ?_
        case h13 => intro u hSw; clear hSw; go_simp; try with_reducible rfl
        try simp only [List.getElem_toArray]
        try simp only [List.getElem_cons_succ]
        try simp only [List.getElem_cons_zero]
        try simp only [Act.put]
        try simp only [List.setIfInBounds_toArray]
        try simp only [List.set]
        refine wpAnyH_take (i := 3) (v := ?v14) rfl (by kernel_rfl) (by kernel_rfl) (by kernel_rfl) (fun _ _ _ h => h) (Or.inl ⟨by kernel_rfl, ?h14⟩) hHeld ?_
        case h14 => intro u hSw; (obtain ⟨q0, q1, q2⟩ := hSw.1); clear hSw; go_simp; try with_reducible rfl
        try simp only [List.getElem_toArray]
        try simp only [List.getElem_cons_succ]
        try simp only [List.getElem_cons_zero]
        try simp only [Act.put]
        try simp only [List.setIfInBounds_toArray]
        try simp only [List.set]
        refine wpAnyH_take (i := 4) (v := ?v15) rfl (by kernel_rfl) (by kernel_rfl) (by kernel_rfl) (fun _ _ _ h => h) (Or.inl ⟨by kernel_rfl, ?h15⟩) hHeld ?_
        case h15 => intro u hSw; clear hSw; go_simp; try with_reducible rfl
        try simp only [List.getElem_toArray]
        try simp only [List.getElem_cons_succ]
        try simp only [List.getElem_cons_zero]
        try simp only [Act.put]
        try simp only [List.setIfInBounds_toArray]
        try simp only [List.set]
        refine wpAnyH_take (i := 5) (v := ?v16) rfl (by kernel_rfl) (by kernel_rfl) (by kernel_rfl) (fun _ _ _ h => h) (Or.inl ⟨by kernel_rfl, ?h16⟩) hHeld ?_
        case h16 => intro u hSw; clear hSw; go_simp; try with_reducible rfl
        try simp only [List.getElem_toArray]
        try simp only [List.getElem_cons_succ]
        try simp only [List.getElem_cons_zero]
        try simp only [Act.put]
        try simp only [List.setIfInBounds_toArray]
        try simp only [List.set]
        refine wpAnyH_take (i := 6) (v := ?v17) rfl (by kernel_rfl) (by kernel_rfl) (by kernel_rfl) (fun _ _ _ h => h) (Or.inl ⟨by kernel_rfl, ?h17⟩) hHeld ?_
        case h17 => intro u hSw; clear hSw; go_simp; try with_reducible rfl
        try simp only [List.getElem_toArray]
        try simp only [List.getElem_cons_succ]
        try simp only [List.getElem_cons_zero]
        try simp only [Act.put]
        try simp only [List.setIfInBounds_toArray]
        try simp only [List.set]
        refine wpAnyH_take (i := 7) (v := ?v18) rfl (by kernel_rfl) (by kernel_rfl) (by kernel_rfl) (fun _ _ _ h => h) (Or.inl ⟨by kernel_rfl, ?h18⟩) hHeld ?_
        case h18 => intro u hSw; (obtain ⟨q0, q1, q2⟩ := hSw.1); clear hSw; go_simp; try with_reducible rfl
        try simp only [List.getElem_toArray]
        try simp only [List.getElem_cons_succ]
        try simp only [List.getElem_cons_zero]
        try simp only [Act.put]
        try simp only [List.setIfInBounds_toArray]
        try simp only [List.set]
        refine wpAnyH_ready (rs := [8]) (by kernel_rfl) (by simp) ?_
        refine AllReadyH.cons rfl (fun K hK => ?_) AllReadyH.nil
        go_simp
        go_wp2_with (go_at_call 29; refine (HBk2.out _ hHeld.2).mono ?_; rintro e W1 ⟨⟨v, rfl⟩, gg⟩)
        refine hK.out _ _ (⟨hHeld.1.below gg hHeld.1.lt, hHeld.2.trans (gg.mono hHeld.2.size)⟩) (fun hHeld => ?_)
        clear hK K
        try simp only [Act.put]
        try simp only [List.setIfInBounds_toArray]
        try simp only [List.set]
        refine wpAnyH_take (i := 9) (v := ?v19) rfl (by kernel_rfl) (by kernel_rfl) (by kernel_rfl) (fun _ _ _ h => h) (Or.inl ⟨by kernel_rfl, ?h19⟩) hHeld ?_
        case h19 => intro u hSw; clear hSw; go_simp; try with_reducible rfl
        try simp only [List.getElem_toArray]
        try simp only [List.getElem_cons_succ]
        try simp only [List.getElem_cons_zero]
        try simp only [Act.put]
        try simp only [List.setIfInBounds_toArray]
        try simp only [List.set]
        refine wpAnyH_take (i := 10) (v := ?v20) rfl (by kernel_rfl) (by kernel_rfl) (by kernel_rfl) (fun _ _ _ h => h) (Or.inl ⟨by kernel_rfl, ?h20⟩) hHeld ?_
        case h20 => intro u hSw; clear hSw; go_simp; try with_reducible rfl
        try simp only [List.getElem_toArray]
        try simp only [List.getElem_cons_succ]
        try simp only [List.getElem_cons_zero]
        try simp only [Act.put]
        try simp only [List.setIfInBounds_toArray]
        try simp only [List.set]
        refine wpAnyH_take (i := 11) (v := ?v21) rfl (by kernel_rfl) (by kernel_rfl) (by kernel_rfl) (fun _ _ _ h => h) (Or.inl ⟨by kernel_rfl, ?h21⟩) hHeld ?_
        case h21 => intro u hSw; clear hSw; go_simp; try with_reducible rfl
        try simp only [List.getElem_toArray]
        try simp only [List.getElem_cons_succ]
        try simp only [List.getElem_cons_zero]
        try simp only [Act.put]
        try simp only [List.setIfInBounds_toArray]
        try simp only [List.set]
        refine wpAnyH_take (i := 12) (v := ?v22) rfl (by kernel_rfl) (by kernel_rfl) (by kernel_rfl) (fun _ _ _ h => h) (Or.inl ⟨by kernel_rfl, ?h22⟩) hHeld ?_
        case h22 => intro u hSw; clear hSw; go_simp; try with_reducible rfl
        try simp only [List.getElem_toArray]
        try simp only [List.getElem_cons_succ]
        try simp only [List.getElem_cons_zero]
        try simp only [Act.put]
        try simp only [List.setIfInBounds_toArray]
        try simp only [List.set]
        refine wpAnyH_take (i := 13) (v := ?v23) rfl (by kernel_rfl) (by kernel_rfl) (by kernel_rfl) (fun _ _ _ h => h) (Or.inl ⟨by kernel_rfl, ?h23⟩) hHeld ?_
        case h23 => intro u hSw; clear hSw; go_simp; try with_reducible rfl
        try simp only [List.getElem_toArray]
        try simp only [List.getElem_cons_succ]
        try simp only [List.getElem_cons_zero]
        try simp only [Act.put]
        try simp only [List.setIfInBounds_toArray]
        try simp only [List.set]
        refine wpAnyH_done (by kernel_rfl) ?_ _
        go_wp2_with fail
        go_meet
        case rel => exact ⟨rfl, hHeld.2⟩
      case rest =>
        obtain ⟨rfl, g⟩ := hcut
        cases ok
        · have HQ : Hid (Q = 8) := HE4.out
          clear HE4 HBk2
          go_wp2_with fail
          go_ret
          exact ⟨by rw [HQ.out]; rfl, g⟩
        · have HQ : Hid (Q = 0) := HE4.out
          clear HE4 HBk2
          go_wp2_with fail
          go_ret
          exact ⟨by rw [HQ.out]; rfl, g⟩

set_option maxHeartbeats 4000000 in
theorem specPlainFault_any (ra : Option Addr) (rs : List Rw) (rn rc : Nat) (a : Option Addr) (xs : List TxV) (n c : Nat) (nx : Int) (w : World) (hrn : rs.length = rn) (hrm : rn ≤ 1048576) (hrs : ∀ r ∈ rs, r.s.size ≤ 1048576) (hr : Rs rwE 4 w ra rs) (hn : xs.length = n) (hm : n ≤ 1048576) (hs : ∀ x ∈ xs, TxOk 1048576 x) (hx : TxRd w a xs) :
    Calls Tryz.prog 6 #[.agg #[.slice ra rn rc, .slice a n c, .int .i64 nx]] w fun e w' => e = .returned (.int .i64 (pnQ rs xs nx)) ∧ Below w.heap.size w w' := by
  have HL : Hid (∀ V pb, Below w.heap.size w V → P3 V pb (.slice ra rn rc) (.slice a n c) (.int .i64 nx) → Calls Tryz.prog 18 #[.pointer (some ⟨pb, 0, none⟩)] V fun e w' => e = .returned (.int .i64 (pnQ rs xs nx)) ∧ Below V.heap.size V w') := fun V pb hV hP => l11Fault_any pb ra rs rn rc a xs n c nx V hP hrn hrm hrs (hr.below hV (Nat.le_refl _)) hn hm hs (hx.below hV (Nat.le_refl _))
  clear hrn hrs hr hn hs hx
  go_enter Tryz.func6, Tryz.ntmps6
  go_upto_region 1 with (fail)
  generalize hY : World.alloc _ _ = Y
  have g : Below w.heap.size w Y := by rw [← hY]; go_grown
  have A : P3 Y w.heap.size (.slice ra rn rc) (.slice a n c) (.int .i64 nx) := by rw [← hY]; exact ⟨by simp [go_sem], by simp [go_sem], by simp [go_sem]⟩
  clear hY
  obtain ⟨ab, hab⟩ : ∃ ab, w.heap.size = ab := ⟨_, rfl⟩
  rw [hab] at A
  simp only [hab]
  have HAB : Hid (w.heap.size = ab) := hab
  clear hab
  have hcon := HL.out Y ab g A
  go_wp2_with fail
  refine hcon.mono ?_
  rintro e w1 ⟨rfl, g1⟩
  have g := g.trans (g1.mono g.size)
  clear hcon g1 A
  go_wp2_with fail
  go_ret
  exact ⟨rfl, g⟩

end Go.Proofs.YtmboclfgldgefaaGreat
