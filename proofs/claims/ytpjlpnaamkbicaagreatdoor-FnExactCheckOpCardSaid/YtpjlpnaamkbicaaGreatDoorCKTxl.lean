/-
  The program's TxsFault.
-/
import Derived.Test.YtpjlpnaamkbicaaGreatDoorCKTxk

namespace Go.Proofs.YtpjlpnaamkbicaaGreatDoor
open Go.RowKit Go.Maps
set_option linter.unusedVariables false
set_option maxRecDepth 20000

set_option maxHeartbeats 400000 in
theorem txFault_any (t : Int) (w : World) : Calls Tryz.prog 54 #[.int .i64 t] w fun e w' => e = .returned (.int .i64 (if inW t 1 99 = true then 0 else 3)) ∧ Below w.heap.size w w' := by
  have hcon := fun W => isWithinW_any t 1 99 W
  generalize inW t 1 99 = f at hcon ⊢
  cases f
  · go_enter Tryz.func54, Tryz.ntmps54
    go_wp2_with fail
    refine (hcon _).mono ?_
    rintro e w' ⟨rfl, hw⟩
    subst w'
    go_wp2_with fail
    go_ret
    exact ⟨rfl, Below.refl _ _⟩
  · go_enter Tryz.func54, Tryz.ntmps54
    go_wp2_with fail
    refine (hcon _).mono ?_
    rintro e w' ⟨rfl, hw⟩
    subst w'
    go_wp2_with fail
    go_ret
    exact ⟨rfl, Below.refl _ _⟩
def txsI (xs : List TxV) : Int :=
  if 4 < xs.length then 2 else if fstQ (txAt xs) (List.range xs.length) = 0 then tgQ xs else fstQ (txAt xs) (List.range xs.length)

set_option maxHeartbeats 16000000 in
theorem implTxsFault_any (a : Option Addr) (xs : List TxV) (n c : Nat) (w : World) (hn : xs.length = n) (hm : n ≤ 1048576) (hs : ∀ x ∈ xs, TxOk 1048576 x) (hr : TxRc w a xs) :
    Calls Tryz.prog 26 #[.slice a n c] w fun e w' => e = .returned (.int .i64 (txsI xs)) ∧ Below w.heap.size w w' := by
  have HN : Hid (xs.length = n) := hn
  have HR : Hid (∀ V, Below w.heap.size w V → TxRc V a xs) := fun V hV => hr.below hV (Nat.le_refl _)
  have HS : Hid (∀ x ∈ xs, TxOk 1048576 x) := hs
  have HTg : Hid (n ≤ 4 → ∀ V, Below w.heap.size w V → Calls Tryz.prog 56 #[.slice a n c] V fun e w' => e = .returned (.int .i64 (tgQ xs)) ∧ Below V.heap.size V w') := fun h4 V hV => togetherFault_any a xs n c V hn h4 hs (hr.below hV (Nat.le_refl _)).rd
  obtain ⟨Q, hQ⟩ : ∃ Q, txsI xs = Q := ⟨_, rfl⟩
  have HQ : Hid (txsI xs = Q) := hQ
  rw [hQ]
  clear hn hr hs hQ
  go_enter Tryz.func26, Tryz.ntmps26
  by_cases h4 : 4 < n
  · have d : (4 : Int) < (n : Int) := by omega
    have HX : Hid (Q = 2) := by show _ = _; rw [← HQ.out]; unfold txsI; rw [if_pos (by rw [HN.out]; exact h4)]
    clear HQ
    go_wp2_with fail
    go_ret
    exact ⟨by rw [HX.out]; rfl, Below.refl _ _⟩
  have d : ¬ (4 : Int) < (n : Int) := by omega
  have hn4 : n ≤ 4 := by omega
  have HQ2 : Hid ((if fstQ (txAt xs) (List.range xs.length) = 0 then tgQ xs else fstQ (txAt xs) (List.range xs.length)) = Q) := by
    have h := HQ.out
    unfold txsI at h
    rw [if_neg (by rw [HN.out]; exact h4)] at h
    exact h
  clear HQ h4
  go_upto_region 4 with (fail)
  go_loopw [12] (fun i wr => ∃ j : Nat, j ≤ n ∧ i = .int .i64 j ∧ Hid (∀ i, i < j → txAt xs i = 0) ∧ Below w.heap.size w wr) (fun i _ => n - (intOf i).toNat)
  case atStart => exact ⟨0, Nat.zero_le _, rfl, fun i hi => absurd hi (Nat.not_lt_zero _), Below.refl _ _⟩
  case round =>
    obtain ⟨j, hj, rfl, hA, g⟩ := hrel
    by_cases hlt : j < n
    · have hjn : (j : Int) < (n : Int) := by omega
      obtain ⟨t, ht⟩ := at_ltT (xs := xs) (i := j) (by rw [HN.out]; exact hlt)
      have hok := HS.out t (List.mem_of_getElem? ht)
      have hgd : xs.getD j ⟨0, [], [], []⟩ = t := by rw [List.getD_eq_getElem?_getD, ht]; rfl
      have HXq : Hid (txAt xs j ≠ 0 → Q = txAt xs j) := fun h => by
        have h1 := rng_at (n := xs.length) hA.out (by rw [HN.out]; exact hlt) h
        rw [← HQ2.out, if_neg (by rw [h1]; exact h), h1]
      have HA2 : Hid (txAt xs j = 0 → ∀ i, i < j + 1 → txAt xs i = 0) := fun h => step_all hA.out h
      have HE : Hid (txAt xs j = if inW t.id 1 99 = true then (if j ≠ 0 ∧ t.id ≤ prvT xs j then 1 else alnQ t) else 3) := by show _ = _; unfold txAt; rw [hgd]
      obtain ⟨b, off, ua, ma, la, uc, mc, lc, rfl, Z, hlc⟩ := (HR.out wr g).at ht
      have HPv : Hid (j ≠ 0 → ∀ V, Below w.heap.size w V → V.cell? ⟨b, off + (j - 1) * 4, none⟩ = some (.int .i64 (prvT xs j))) := fun h0 V hV => by
        obtain ⟨t', ht'⟩ := at_ltT (xs := xs) (i := j - 1) (by rw [HN.out]; omega)
        obtain ⟨b', off', _, _, _, _, _, _, e, Z'⟩ := (HR.out V hV).rd.at ht'
        cases e
        unfold prvT
        rw [if_neg h0, List.getD_eq_getElem?_getD, ht']
        exact Z'.c0
      clear hgd hA ht
      generalize txAt xs j = tq at HXq HA2 HE
      obtain ⟨id, us, ms, ls⟩ := t
      have HAl : Hid (∀ V, Below wr.heap.size wr V → Calls Tryz.prog 55 #[.agg #[.int .i64 id, .slice ua us.length uc, .slice ma ms.length mc, .slice la ls.length lc]] V fun e w' => e = .returned (.int .i64 (alnQ ⟨id, us, ms, ls⟩)) ∧ Below V.heap.size V w') := fun V hV => by
        have Z' := Z.below hV
        exact aloneTxFault_any id ua us _ uc ma ms _ mc la ls _ lc V rfl hok.1 (fun x hx => by have := hok.2.1 x hx; unfold maxLen; omega) Z'.u rfl hok.2.2.1 Z'.m rfl hok.2.2.2 hlc Z'.l
      obtain ⟨c0, c1, c2, c3, -, -, -⟩ := Z
      dsimp only at c0 c1 c2 c3 HE
      clear hok hlc
      generalize alnQ ⟨id, us, ms, ls⟩ = aq at HAl HE
      generalize prvT xs j = pv at HE HPv
      generalize us.length = un at c1 HAl
      generalize ms.length = mn at c2 HAl
      generalize ls.length = ln at c3 HAl
      go_upto_region 6 with (fail)
      generalize hY : World.alloc _ _ = Y7
      have g7 : Below wr.heap.size wr Y7 := by rw [← hY]; go_grown
      have Z : T4 Y7 wr.heap.size id ua un uc ma mn mc la ln lc := by rw [← hY]; exact ⟨by simp [go_sem], by simp [go_sem], by simp [go_sem], by simp [go_sem]⟩
      have HAl : Hid (∀ V, Below Y7.heap.size Y7 V → Calls Tryz.prog 55 #[.agg #[.int .i64 id, .slice ua un uc, .slice ma mn mc, .slice la ln lc]] V fun e w' => e = .returned (.int .i64 aq) ∧ Below V.heap.size V w') := fun V hV => HAl.out V (g7.trans (hV.mono g7.size))
      have g := g.trans (g7.mono g.size)
      clear hY c0 c1 c2 c3 g7
      generalize wr.heap.size = tb at Z ⊢
      have HZ : Hid (∀ V, Below Y7.heap.size Y7 V → T4 V tb id ua un uc ma mn mc la ln lc) := fun V hV => Z.below hV Z.lt
      obtain ⟨z0, z1, z2, z3⟩ := Z
      have hcon := fun W => txFault_any id W
      generalize inW id 1 99 = f at hcon HE
      go_wp2_with fail
      refine (hcon _).mono ?_
      rintro e w1 ⟨rfl, g1⟩
      clear hcon z0 z1 z2 z3
      have g := g.trans (g1.mono g.size)
      cases f
      · have HX : Hid (Q = 3) := by
          have h : tq = 3 := by have h := HE.out; simpa using h
          rw [h] at HXq
          exact HXq.out (by decide)
        clear HE HXq HA2 HAl HZ HPv
        have e3 : (if false = true then (0 : Int) else 3) = 3 := rfl
        rw [e3]
        go_wp2_with fail
        go_ret
        exact ⟨by rw [HX.out]; rfl, g⟩
      have e3 : (if true = true then (0 : Int) else 3) = 0 := rfl
      rw [e3]
      have HE2 : Hid (tq = if j ≠ 0 ∧ id ≤ pv then 1 else aq) := by have h := HE.out; show _ = _; simpa using h
      clear HE
      obtain ⟨bb, hbb⟩ : ∃ bb, decide (j ≠ 0 ∧ id ≤ pv) = bb := ⟨_, rfl⟩
      go_upto_region 9 with (fail)
      go_cut [35] from 13 to 41 (fun s wc => s = .bool bb ∧ Below w1.heap.size w1 wc)
      case first =>
        clear HXq HA2 HAl HE2
        obtain ⟨c0, -, -, -⟩ := HZ.out w1 g1
        have lt := World.block_lt_of_cell? _ _ c0
        by_cases h0 : j = 0
        · have hb : bb = false := by rw [← hbb]; simp [h0]
          subst hb
          have dj : ¬ (0 : Int) < (j : Int) := by omega
          clear hbb HPv h0 HZ
          refine wp_region_held_drew (S := fun V => Below w1.heap.size w1 V) (by kernel_rfl) (Below.refl _ w1).drew (fun hHeld => ?_)
          generalize w1.drew = D0 at hHeld ⊢
          refine wpAnyH_take (i := 0) (v := ?v1) rfl (by kernel_rfl) (by kernel_rfl) (by kernel_rfl) (fun _ _ _ h => h) (Or.inl ⟨by kernel_rfl, ?h1⟩) hHeld ?_
          case h1 => intro u hSw; clear hSw; go_simp; try with_reducible rfl
          try simp only [List.getElem_toArray]
          try simp only [List.getElem_cons_succ]
          try simp only [List.getElem_cons_zero]
          try simp only [Act.put]
          try simp only [List.setIfInBounds_toArray]
          try simp only [List.set]
          refine wpAnyH_take (i := 1) (v := .bool false) rfl (by kernel_rfl) (by kernel_rfl) (by kernel_rfl) (fun _ _ _ h => h) (Or.inl ⟨by kernel_rfl, ?hv1⟩) hHeld ?_
          case hv1 =>
            intro u hSw
            clear hSw hHeld
            go_simp
            try omega
          try simp only [List.getElem_toArray]
          try simp only [List.getElem_cons_succ]
          try simp only [List.getElem_cons_zero]
          try simp only [Act.put]
          try simp only [List.setIfInBounds_toArray]
          try simp only [List.set]
          refine wpAnyH_take (i := 2) (v := ?v2) rfl (by kernel_rfl) (by kernel_rfl) (by kernel_rfl) (fun _ _ _ h => h) (Or.inl ⟨by kernel_rfl, ?h2⟩) hHeld ?_
          case h2 => intro u hSw; clear hSw; go_simp; try with_reducible rfl
          try simp only [List.getElem_toArray]
          try simp only [List.getElem_cons_succ]
          try simp only [List.getElem_cons_zero]
          try simp only [Act.put]
          try simp only [List.setIfInBounds_toArray]
          try simp only [List.set]
          refine wpAnyH_take (i := 3) (v := undef) rfl (by kernel_rfl) (by kernel_rfl) (by kernel_rfl) (fun _ _ _ h => h) (Or.inr ⟨by kernel_rfl, rfl⟩) hHeld ?_
          try simp only [List.getElem_toArray]
          try simp only [List.getElem_cons_succ]
          try simp only [List.getElem_cons_zero]
          try simp only [Act.put]
          try simp only [List.setIfInBounds_toArray]
          try simp only [List.set]
          refine wpAnyH_take (i := 4) (v := undef) rfl (by kernel_rfl) (by kernel_rfl) (by kernel_rfl) (fun _ _ _ h => h) (Or.inr ⟨by kernel_rfl, rfl⟩) hHeld ?_
          try simp only [List.getElem_toArray]
          try simp only [List.getElem_cons_succ]
          try simp only [List.getElem_cons_zero]
          try simp only [Act.put]
          try simp only [List.setIfInBounds_toArray]
          try simp only [List.set]
          refine wpAnyH_take (i := 5) (v := undef) rfl (by kernel_rfl) (by kernel_rfl) (by kernel_rfl) (fun _ _ _ h => h) (Or.inr ⟨by kernel_rfl, rfl⟩) hHeld ?_
          try simp only [List.getElem_toArray]
          try simp only [List.getElem_cons_succ]
          try simp only [List.getElem_cons_zero]
          try simp only [Act.put]
          try simp only [List.setIfInBounds_toArray]
          try simp only [List.set]
          refine wpAnyH_take (i := 6) (v := undef) rfl (by kernel_rfl) (by kernel_rfl) (by kernel_rfl) (fun _ _ _ h => h) (Or.inr ⟨by kernel_rfl, rfl⟩) hHeld ?_
          try simp only [List.getElem_toArray]
          try simp only [List.getElem_cons_succ]
          try simp only [List.getElem_cons_zero]
          try simp only [Act.put]
          try simp only [List.setIfInBounds_toArray]
          try simp only [List.set]
          refine wpAnyH_take (i := 7) (v := undef) rfl (by kernel_rfl) (by kernel_rfl) (by kernel_rfl) (fun _ _ _ h => h) (Or.inr ⟨by kernel_rfl, rfl⟩) hHeld ?_
          try simp only [List.getElem_toArray]
          try simp only [List.getElem_cons_succ]
          try simp only [List.getElem_cons_zero]
          try simp only [Act.put]
          try simp only [List.setIfInBounds_toArray]
          try simp only [List.set]
          refine wpAnyH_take (i := 8) (v := undef) rfl (by kernel_rfl) (by kernel_rfl) (by kernel_rfl) (fun _ _ _ h => h) (Or.inr ⟨by kernel_rfl, rfl⟩) hHeld ?_
          try simp only [List.getElem_toArray]
          try simp only [List.getElem_cons_succ]
          try simp only [List.getElem_cons_zero]
          try simp only [Act.put]
          try simp only [List.setIfInBounds_toArray]
          try simp only [List.set]
          refine wpAnyH_take (i := 9) (v := undef) rfl (by kernel_rfl) (by kernel_rfl) (by kernel_rfl) (fun _ _ _ h => h) (Or.inr ⟨by kernel_rfl, rfl⟩) hHeld ?_
          try simp only [List.getElem_toArray]
          try simp only [List.getElem_cons_succ]
          try simp only [List.getElem_cons_zero]
          try simp only [Act.put]
          try simp only [List.setIfInBounds_toArray]
          try simp only [List.set]
          refine wpAnyH_take (i := 10) (v := undef) rfl (by kernel_rfl) (by kernel_rfl) (by kernel_rfl) (fun _ _ _ h => h) (Or.inr ⟨by kernel_rfl, rfl⟩) hHeld ?_
          try simp only [List.getElem_toArray]
          try simp only [List.getElem_cons_succ]
          try simp only [List.getElem_cons_zero]
          try simp only [Act.put]
          try simp only [List.setIfInBounds_toArray]
          try simp only [List.set]
          refine wpAnyH_take (i := 11) (v := undef) rfl (by kernel_rfl) (by kernel_rfl) (by kernel_rfl) (fun _ _ _ h => h) (Or.inr ⟨by kernel_rfl, rfl⟩) hHeld ?_
          try simp only [List.getElem_toArray]
          try simp only [List.getElem_cons_succ]
          try simp only [List.getElem_cons_zero]
          try simp only [Act.put]
          try simp only [List.setIfInBounds_toArray]
          try simp only [List.set]
          refine wpAnyH_take (i := 12) (v := ?v3) rfl (by kernel_rfl) (by kernel_rfl) (by kernel_rfl) (fun _ _ _ h => h) (Or.inl ⟨by kernel_rfl, ?h3⟩) hHeld ?_
          case h3 => intro u hSw; clear hSw; go_simp; try with_reducible rfl
          try simp only [List.getElem_toArray]
          try simp only [List.getElem_cons_succ]
          try simp only [List.getElem_cons_zero]
          try simp only [Act.put]
          try simp only [List.setIfInBounds_toArray]
          try simp only [List.set]
          refine wpAnyH_done (by kernel_rfl) ?_ _
          go_wp2_with fail
          go_meet
          case rel => exact ⟨rfl, hHeld⟩
        · obtain ⟨i, hi⟩ : ∃ i, j = i + 1 := ⟨j - 1, by omega⟩
          have p0 := HPv.out h0 w1 g
          rw [show j - 1 = i by omega] at p0
          have lp := World.block_lt_of_cell? _ _ p0
          have ei : ((j : Int) - 1) = (i : Nat) := by omega
          have hin : (i : Int) < (n : Int) := by omega
          have wi : IntKind.i64.wrap ((i : Nat) : Int) = (i : Nat) := wrapI' (by omega) (by omega)
          have dj : (0 : Int) < (j : Int) := by omega
          by_cases hle : id ≤ pv
          · have hb : bb = true := by rw [← hbb]; simp [h0, hle]
            subst hb
            clear hbb HPv h0 HZ hi
            refine wp_region_held_drew (S := fun V => Below w1.heap.size w1 V) (by kernel_rfl) (Below.refl _ w1).drew (fun hHeld => ?_)
            generalize w1.drew = D0 at hHeld ⊢
            refine wpAnyH_take (i := 0) (v := ?v4) rfl (by kernel_rfl) (by kernel_rfl) (by kernel_rfl) (fun _ _ _ h => h) (Or.inl ⟨by kernel_rfl, ?h4⟩) hHeld ?_
            case h4 => intro u hSw; clear hSw; go_simp; try with_reducible rfl
            try simp only [List.getElem_toArray]
            try simp only [List.getElem_cons_succ]
            try simp only [List.getElem_cons_zero]
            try simp only [Act.put]
            try simp only [List.setIfInBounds_toArray]
            try simp only [List.set]
            refine wpAnyH_take (i := 1) (v := .bool true) rfl (by kernel_rfl) (by kernel_rfl) (by kernel_rfl) (fun _ _ _ h => h) (Or.inl ⟨by kernel_rfl, ?hv2⟩) hHeld ?_
            case hv2 =>
              intro u hSw
              clear hSw hHeld
              go_simp
              try omega
            try simp only [List.getElem_toArray]
            try simp only [List.getElem_cons_succ]
            try simp only [List.getElem_cons_zero]
            try simp only [Act.put]
            try simp only [List.setIfInBounds_toArray]
            try simp only [List.set]
            refine wpAnyH_take (i := 2) (v := ?v5) rfl (by kernel_rfl) (by kernel_rfl) (by kernel_rfl) (fun _ _ _ h => h) (Or.inl ⟨by kernel_rfl, ?h5⟩) hHeld ?_
            case h5 => intro u hSw; clear hSw; go_simp; try with_reducible rfl
            try simp only [List.getElem_toArray]
            try simp only [List.getElem_cons_succ]
            try simp only [List.getElem_cons_zero]
            try simp only [Act.put]
            try simp only [List.setIfInBounds_toArray]
            try simp only [List.set]
            refine wpAnyH_take (i := 3) (v := ?v6) rfl (by kernel_rfl) (by kernel_rfl) (by kernel_rfl) (fun _ _ _ h => h) (Or.inl ⟨by kernel_rfl, ?h6⟩) hHeld ?_
            case h6 => intro u hSw; clear hSw; go_simp; try with_reducible rfl
            try simp only [List.getElem_toArray]
            try simp only [List.getElem_cons_succ]
            try simp only [List.getElem_cons_zero]
            try simp only [Act.put]
            try simp only [List.setIfInBounds_toArray]
            try simp only [List.set]
            refine wpAnyH_take (i := 4) (v := ?v7) rfl (by kernel_rfl) (by kernel_rfl) (by kernel_rfl) (fun _ _ _ h => h) (Or.inl ⟨by kernel_rfl, ?h7⟩) hHeld ?_
            case h7 => intro u hSw; clear hSw; go_simp; try with_reducible rfl
            try simp only [List.getElem_toArray]
            try simp only [List.getElem_cons_succ]
            try simp only [List.getElem_cons_zero]
            try simp only [Act.put]
            try simp only [List.setIfInBounds_toArray]
            try simp only [List.set]
            refine wpAnyH_take (i := 5) (v := ?v8) rfl (by kernel_rfl) (by kernel_rfl) (by kernel_rfl) (fun _ _ _ h => h) (Or.inl ⟨by kernel_rfl, ?h8⟩) hHeld ?_
            case h8 => intro u hSw; clear hSw; go_simp; try with_reducible rfl
            try simp only [List.getElem_toArray]
            try simp only [List.getElem_cons_succ]
            try simp only [List.getElem_cons_zero]
            try simp only [Act.put]
            try simp only [List.setIfInBounds_toArray]
            try simp only [List.set]
            refine wpAnyH_take (i := 6) (v := ?v9) rfl (by kernel_rfl) (by kernel_rfl) (by kernel_rfl) (fun _ _ _ h => h) (Or.inl ⟨by kernel_rfl, ?h9⟩) hHeld ?_
            case h9 => intro u hSw; clear hSw; go_simp; try with_reducible rfl
            try simp only [List.getElem_toArray]
            try simp only [List.getElem_cons_succ]
            try simp only [List.getElem_cons_zero]
            try simp only [Act.put]
            try simp only [List.setIfInBounds_toArray]
            try simp only [List.set]
            refine wpAnyH_take (i := 7) (v := ?v10) rfl (by kernel_rfl) (by kernel_rfl) (by kernel_rfl) (fun _ _ _ h => h) (Or.inl ⟨by kernel_rfl, ?h10⟩) hHeld ?_
            case h10 => intro u hSw; clear hSw; go_simp; try with_reducible rfl
            try simp only [List.getElem_toArray]
            try simp only [List.getElem_cons_succ]
            try simp only [List.getElem_cons_zero]
            try simp only [Act.put]
            try simp only [List.setIfInBounds_toArray]
            try simp only [List.set]
            refine wpAnyH_take (i := 8) (v := ?v11) rfl (by kernel_rfl) (by kernel_rfl) (by kernel_rfl) (fun _ _ _ h => h) (Or.inl ⟨by kernel_rfl, ?h11⟩) hHeld ?_
            case h11 => intro u hSw; (have p0 := (hSw.cell (p := ⟨b, off + i * 4, none⟩) lp).trans p0); clear hSw; go_simp; try with_reducible rfl
            try simp only [List.getElem_toArray]
            try simp only [List.getElem_cons_succ]
            try simp only [List.getElem_cons_zero]
            try simp only [Act.put]
            try simp only [List.setIfInBounds_toArray]
            try simp only [List.set]
            refine wpAnyH_take (i := 9) (v := ?v12) rfl (by kernel_rfl) (by kernel_rfl) (by kernel_rfl) (fun _ _ _ h => h) (Or.inl ⟨by kernel_rfl, ?h12⟩) hHeld ?_
            case h12 => intro u hSw; clear hSw; go_simp; try with_reducible rfl
            try simp only [List.getElem_toArray]
            try simp only [List.getElem_cons_succ]
            try simp only [List.getElem_cons_zero]
            try simp only [Act.put]
            try simp only [List.setIfInBounds_toArray]
            try simp only [List.set]
            refine wpAnyH_take (i := 10) (v := ?v13) rfl (by kernel_rfl) (by kernel_rfl) (by kernel_rfl) (fun _ _ _ h => h) (Or.inl ⟨by kernel_rfl, ?h13⟩) hHeld ?_
            case h13 => intro u hSw; (have c0 := (hSw.cell (p := ⟨tb, 0, none⟩) lt).trans c0); clear hSw; go_simp; try with_reducible rfl
            try simp only [List.getElem_toArray]
            try simp only [List.getElem_cons_succ]
            try simp only [List.getElem_cons_zero]
            try simp only [Act.put]
            try simp only [List.setIfInBounds_toArray]
            try simp only [List.set]
            refine wpAnyH_take (i := 11) (v := .bool true) rfl (by kernel_rfl) (by kernel_rfl) (by kernel_rfl) (fun _ _ _ h => h) (Or.inl ⟨by kernel_rfl, ?hv3⟩) hHeld ?_
            case hv3 =>
              intro u hSw
              clear hSw hHeld
              go_simp
              try omega
            try simp only [List.getElem_toArray]
            try simp only [List.getElem_cons_succ]
            try simp only [List.getElem_cons_zero]
            try simp only [Act.put]
            try simp only [List.setIfInBounds_toArray]
            try simp only [List.set]
            refine wpAnyH_take (i := 12) (v := ?v14) rfl (by kernel_rfl) (by kernel_rfl) (by kernel_rfl) (fun _ _ _ h => h) (Or.inl ⟨by kernel_rfl, ?h14⟩) hHeld ?_
            case h14 => intro u hSw; clear hSw; go_simp; try with_reducible rfl
            try simp only [List.getElem_toArray]
            try simp only [List.getElem_cons_succ]
            try simp only [List.getElem_cons_zero]
            try simp only [Act.put]
            try simp only [List.setIfInBounds_toArray]
            try simp only [List.set]
            refine wpAnyH_done (by kernel_rfl) ?_ _
            go_wp2_with fail
            go_meet
            case rel => exact ⟨rfl, hHeld⟩
          · have hb : bb = false := by rw [← hbb]; simp [hle]
            subst hb
            clear hbb HPv h0 HZ hi
            refine wp_region_held_drew (S := fun V => Below w1.heap.size w1 V) (by kernel_rfl) (Below.refl _ w1).drew (fun hHeld => ?_)
            generalize w1.drew = D0 at hHeld ⊢
            refine wpAnyH_take (i := 0) (v := ?v15) rfl (by kernel_rfl) (by kernel_rfl) (by kernel_rfl) (fun _ _ _ h => h) (Or.inl ⟨by kernel_rfl, ?h15⟩) hHeld ?_
            case h15 => intro u hSw; clear hSw; go_simp; try with_reducible rfl
            try simp only [List.getElem_toArray]
            try simp only [List.getElem_cons_succ]
            try simp only [List.getElem_cons_zero]
            try simp only [Act.put]
            try simp only [List.setIfInBounds_toArray]
            try simp only [List.set]
            refine wpAnyH_take (i := 1) (v := .bool true) rfl (by kernel_rfl) (by kernel_rfl) (by kernel_rfl) (fun _ _ _ h => h) (Or.inl ⟨by kernel_rfl, ?hv4⟩) hHeld ?_
            case hv4 =>
              intro u hSw
              clear hSw hHeld
              go_simp
              try omega
            try simp only [List.getElem_toArray]
            try simp only [List.getElem_cons_succ]
            try simp only [List.getElem_cons_zero]
            try simp only [Act.put]
            try simp only [List.setIfInBounds_toArray]
            try simp only [List.set]
            refine wpAnyH_take (i := 2) (v := ?v16) rfl (by kernel_rfl) (by kernel_rfl) (by kernel_rfl) (fun _ _ _ h => h) (Or.inl ⟨by kernel_rfl, ?h16⟩) hHeld ?_
            case h16 => intro u hSw; clear hSw; go_simp; try with_reducible rfl
            try simp only [List.getElem_toArray]
            try simp only [List.getElem_cons_succ]
            try simp only [List.getElem_cons_zero]
            try simp only [Act.put]
            try simp only [List.setIfInBounds_toArray]
            try simp only [List.set]
            refine wpAnyH_take (i := 3) (v := ?v17) rfl (by kernel_rfl) (by kernel_rfl) (by kernel_rfl) (fun _ _ _ h => h) (Or.inl ⟨by kernel_rfl, ?h17⟩) hHeld ?_
            case h17 => intro u hSw; clear hSw; go_simp; try with_reducible rfl
            try simp only [List.getElem_toArray]
            try simp only [List.getElem_cons_succ]
            try simp only [List.getElem_cons_zero]
            try simp only [Act.put]
            try simp only [List.setIfInBounds_toArray]
            try simp only [List.set]
            refine wpAnyH_take (i := 4) (v := ?v18) rfl (by kernel_rfl) (by kernel_rfl) (by kernel_rfl) (fun _ _ _ h => h) (Or.inl ⟨by kernel_rfl, ?h18⟩) hHeld ?_
            case h18 => intro u hSw; clear hSw; go_simp; try with_reducible rfl
            try simp only [List.getElem_toArray]
            try simp only [List.getElem_cons_succ]
            try simp only [List.getElem_cons_zero]
            try simp only [Act.put]
            try simp only [List.setIfInBounds_toArray]
            try simp only [List.set]
            refine wpAnyH_take (i := 5) (v := ?v19) rfl (by kernel_rfl) (by kernel_rfl) (by kernel_rfl) (fun _ _ _ h => h) (Or.inl ⟨by kernel_rfl, ?h19⟩) hHeld ?_
            case h19 => intro u hSw; clear hSw; go_simp; try with_reducible rfl
            try simp only [List.getElem_toArray]
            try simp only [List.getElem_cons_succ]
            try simp only [List.getElem_cons_zero]
            try simp only [Act.put]
            try simp only [List.setIfInBounds_toArray]
            try simp only [List.set]
            refine wpAnyH_take (i := 6) (v := ?v20) rfl (by kernel_rfl) (by kernel_rfl) (by kernel_rfl) (fun _ _ _ h => h) (Or.inl ⟨by kernel_rfl, ?h20⟩) hHeld ?_
            case h20 => intro u hSw; clear hSw; go_simp; try with_reducible rfl
            try simp only [List.getElem_toArray]
            try simp only [List.getElem_cons_succ]
            try simp only [List.getElem_cons_zero]
            try simp only [Act.put]
            try simp only [List.setIfInBounds_toArray]
            try simp only [List.set]
            refine wpAnyH_take (i := 7) (v := ?v21) rfl (by kernel_rfl) (by kernel_rfl) (by kernel_rfl) (fun _ _ _ h => h) (Or.inl ⟨by kernel_rfl, ?h21⟩) hHeld ?_
            case h21 => intro u hSw; clear hSw; go_simp; try with_reducible rfl
            try simp only [List.getElem_toArray]
            try simp only [List.getElem_cons_succ]
            try simp only [List.getElem_cons_zero]
            try simp only [Act.put]
            try simp only [List.setIfInBounds_toArray]
            try simp only [List.set]
            refine wpAnyH_take (i := 8) (v := ?v22) rfl (by kernel_rfl) (by kernel_rfl) (by kernel_rfl) (fun _ _ _ h => h) (Or.inl ⟨by kernel_rfl, ?h22⟩) hHeld ?_
            case h22 => intro u hSw; (have p0 := (hSw.cell (p := ⟨b, off + i * 4, none⟩) lp).trans p0); clear hSw; go_simp; try with_reducible rfl
            try simp only [List.getElem_toArray]
            try simp only [List.getElem_cons_succ]
            try simp only [List.getElem_cons_zero]
            try simp only [Act.put]
            try simp only [List.setIfInBounds_toArray]
            try simp only [List.set]
            refine wpAnyH_take (i := 9) (v := ?v23) rfl (by kernel_rfl) (by kernel_rfl) (by kernel_rfl) (fun _ _ _ h => h) (Or.inl ⟨by kernel_rfl, ?h23⟩) hHeld ?_
            case h23 => intro u hSw; clear hSw; go_simp; try with_reducible rfl
            try simp only [List.getElem_toArray]
            try simp only [List.getElem_cons_succ]
            try simp only [List.getElem_cons_zero]
            try simp only [Act.put]
            try simp only [List.setIfInBounds_toArray]
            try simp only [List.set]
            refine wpAnyH_take (i := 10) (v := ?v24) rfl (by kernel_rfl) (by kernel_rfl) (by kernel_rfl) (fun _ _ _ h => h) (Or.inl ⟨by kernel_rfl, ?h24⟩) hHeld ?_
            case h24 => intro u hSw; (have c0 := (hSw.cell (p := ⟨tb, 0, none⟩) lt).trans c0); clear hSw; go_simp; try with_reducible rfl
            try simp only [List.getElem_toArray]
            try simp only [List.getElem_cons_succ]
            try simp only [List.getElem_cons_zero]
            try simp only [Act.put]
            try simp only [List.setIfInBounds_toArray]
            try simp only [List.set]
            refine wpAnyH_take (i := 11) (v := .bool false) rfl (by kernel_rfl) (by kernel_rfl) (by kernel_rfl) (fun _ _ _ h => h) (Or.inl ⟨by kernel_rfl, ?hv5⟩) hHeld ?_
            case hv5 =>
              intro u hSw
              clear hSw hHeld
              go_simp
              try omega
            try simp only [List.getElem_toArray]
            try simp only [List.getElem_cons_succ]
            try simp only [List.getElem_cons_zero]
            try simp only [Act.put]
            try simp only [List.setIfInBounds_toArray]
            try simp only [List.set]
            refine wpAnyH_take (i := 12) (v := ?v25) rfl (by kernel_rfl) (by kernel_rfl) (by kernel_rfl) (fun _ _ _ h => h) (Or.inl ⟨by kernel_rfl, ?h25⟩) hHeld ?_
            case h25 => intro u hSw; clear hSw; go_simp; try with_reducible rfl
            try simp only [List.getElem_toArray]
            try simp only [List.getElem_cons_succ]
            try simp only [List.getElem_cons_zero]
            try simp only [Act.put]
            try simp only [List.setIfInBounds_toArray]
            try simp only [List.set]
            refine wpAnyH_done (by kernel_rfl) ?_ _
            go_wp2_with fail
            go_meet
            case rel => exact ⟨rfl, hHeld⟩
      case rest =>
        obtain ⟨rfl, gH⟩ := hcut
        have g := g.trans (gH.mono g.size)
        have gH := g1.trans (gH.mono g1.size)
        clear HPv
        cases bb
        · have HE3 : Hid (tq = aq) := by
            have h := HE2.out
            rw [if_neg (by simpa using hbb)] at h
            exact h
          clear HE2 hbb
          have hun := HAl.out wc gH
          obtain ⟨z0, z1, z2, z3⟩ := HZ.out wc gH
          go_wp2_with fail
          refine hun.mono ?_
          rintro e w2 ⟨rfl, g2⟩
          have g := g.trans (g2.mono g.size)
          clear hun g2 HAl z0 z1 z2 z3 HZ gH
          by_cases h1 : aq = 0
          · have HA3 : Hid (∀ i, i < j + 1 → txAt xs i = 0) := HA2.out (by rw [HE3.out]; exact h1)
            subst h1
            clear HE3 HXq HA2
            go_wp2_with fail
            go_roundw
            case rel => exact ⟨j + 1, by omega, by go_num, HA3, g⟩
            case measure => simp [intOf]; omega
          · have d1 : (aq != 0) = true := by simpa using h1
            have HX : Hid (Q = aq) := by
              have h := HXq.out (by rw [HE3.out]; exact h1)
              rw [HE3.out] at h
              exact h
            clear HE3 HXq HA2 h1
            go_wp2_with fail
            go_ret
            exact ⟨by rw [HX.out]; rfl, g⟩
        · have HX : Hid (Q = 1) := by
            have h := HE2.out
            rw [if_pos (by simpa using hbb)] at h
            have h2 := HXq.out (by rw [h]; decide)
            rw [h] at h2
            exact h2
          clear HE2 hbb HXq HA2 HAl HZ gH
          go_wp2_with fail
          go_ret
          exact ⟨by rw [HX.out]; rfl, g⟩
    · have e : j = n := by omega
      subst e
      have HX : Hid (tgQ xs = Q) := by
        have h := HQ2.out
        rw [if_pos (by rw [HN.out]; exact rng_all hA.out)] at h
        exact h
      have htg := HTg.out hn4 wr g
      rw [HX.out] at htg
      clear hA HQ2
      go_wp2_with fail
      refine htg.mono ?_
      rintro e w1 ⟨rfl, g1⟩
      have g := g.trans (g1.mono g.size)
      clear htg g1
      go_wp2_with fail
      go_ret
      exact ⟨rfl, g⟩

end Go.Proofs.YtpjlpnaamkbicaaGreatDoor
