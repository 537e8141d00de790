/-
  The program's changeFault.
-/
import Derived.Test.YtmbllmhpnopbdaaFFLky

namespace Go.Proofs.Ytmbllmhpnopbdaa
open Go.RowKit Go.Maps
set_option linter.unusedVariables false

set_option maxRecDepth 20000 in
set_option maxHeartbeats 4000000 in
theorem changeFault_any (x0 : Bool) (bt bk bv : Int) (bs : ByteArray) (x5 : Bool) (at' ak av : Int) (sa : ByteArray) (w : World) (hb : bs.size ≤ maxLen) (ha : sa.size ≤ maxLen) :
    Calls Try.prog 38 #[.agg #[.bool x0, .int .i64 bt, .int .i64 bk, .int .i64 bv, .string bs, .bool x5, .int .i64 at', .int .i64 ak, .int .i64 av, .string sa]] w fun e w' => e = .returned (.int .i64 (chQ ⟨x0, ⟨bt, bk, bv, bs⟩, x5, ⟨at', ak, av, sa⟩⟩)) ∧ Below w.heap.size w w' := by
  have HF1 : Hid (∀ W, Calls Try.prog 43 #[.agg #[.int .i64 bt, .int .i64 bk, .int .i64 bv, .string bs]] W fun e w' => e = .returned (.int .i64 (rwF ⟨bt, bk, bv, bs⟩)) ∧ Below W.heap.size W w') := fun W => implRowFault_any bt bk bv bs W hb
  have HF2 : Hid (∀ W, Calls Try.prog 43 #[.agg #[.int .i64 at', .int .i64 ak, .int .i64 av, .string sa]] W fun e w' => e = .returned (.int .i64 (rwF ⟨at', ak, av, sa⟩)) ∧ Below W.heap.size W w') := fun W => implRowFault_any at' ak av sa W ha
  obtain ⟨q1, hq1⟩ : ∃ q, q = rwF ⟨bt, bk, bv, bs⟩ := ⟨_, rfl⟩
  obtain ⟨q2, hq2⟩ : ∃ q, q = rwF ⟨at', ak, av, sa⟩ := ⟨_, rfl⟩
  have HQ1 : Hid (rwF ⟨bt, bk, bv, bs⟩ = q1) := hq1.symm
  have HQ2 : Hid (rwF ⟨at', ak, av, sa⟩ = q2) := hq2.symm
  rw [← hq1] at HF1
  rw [← hq2] at HF2
  clear hq1 hq2 hb ha
  obtain ⟨Y, hY⟩ : ∃ Y, w.alloc (.cells #[.bool x0, .int .i64 bt, .int .i64 bk, .int .i64 bv, .string bs, .bool x5, .int .i64 at', .int .i64 ak, .int .i64 av, .string sa] 28) = Y := ⟨_, rfl⟩
  have gY : Below w.heap.size w Y := by rw [← hY]; go_grown
  have Z : ChC Y w.heap.size 0 ⟨x0, ⟨bt, bk, bv, bs⟩, x5, ⟨at', ak, av, sa⟩⟩ := by rw [← hY]; exact ⟨by simp [go_sem], by simp [go_sem], by simp [go_sem], by simp [go_sem], by simp [go_sem], by simp [go_sem], by simp [go_sem], by simp [go_sem], by simp [go_sem], by simp [go_sem]⟩
  cases x0
  · cases x5
    · have HE : Hid (chQ ⟨false, ⟨bt, bk, bv, bs⟩, false, ⟨at', ak, av, sa⟩⟩ = 1) := by show _ = _; simp [chQ]
      obtain ⟨c0, c1, c2, c3, c4, c5, c6, c7, c8, c9⟩ := Z
      dsimp only at c0 c1 c2 c3 c4 c5 c6 c7 c8 c9
      go_enter Try.func38, Try.ntmps38
      go_upto_region 1 with (fail)
      clear hY
      go_quiet (fail)
      have g : Below w.heap.size w (Y.drewN nq) := gY.trans ⟨rfl, rfl, rfl, Nat.le_refl _, fun _ _ => rfl⟩
      have Z : ChC (Y.drewN nq) w.heap.size 0 ⟨false, ⟨bt, bk, bv, bs⟩, false, ⟨at', ak, av, sa⟩⟩ := ⟨c0, c1, c2, c3, c4, c5, c6, c7, c8, c9⟩
      clear c0 c1 c2 c3 c4 c5 c6 c7 c8 c9 gY
      generalize Y.drewN nq = D at g Z ⊢
      go_wp2_with fail
      go_ret
      exact ⟨by rw [HE.out]; rfl, g⟩
    · have HE : Hid (chQ ⟨false, ⟨bt, bk, bv, bs⟩, true, ⟨at', ak, av, sa⟩⟩ = q2) := by show _ = _; rw [← HQ2.out]; simp [chQ]
      obtain ⟨c0, c1, c2, c3, c4, c5, c6, c7, c8, c9⟩ := Z
      dsimp only at c0 c1 c2 c3 c4 c5 c6 c7 c8 c9
      go_enter Try.func38, Try.ntmps38
      go_upto_region 1 with (fail)
      clear hY
      go_quiet (fail)
      have g : Below w.heap.size w (Y.drewN nq) := gY.trans ⟨rfl, rfl, rfl, Nat.le_refl _, fun _ _ => rfl⟩
      have Z : ChC (Y.drewN nq) w.heap.size 0 ⟨false, ⟨bt, bk, bv, bs⟩, true, ⟨at', ak, av, sa⟩⟩ := ⟨c0, c1, c2, c3, c4, c5, c6, c7, c8, c9⟩
      clear c0 c1 c2 c3 c4 c5 c6 c7 c8 c9 gY
      generalize Y.drewN nq = D at g Z ⊢
      obtain ⟨c0, c1, c2, c3, c4, c5, c6, c7, c8, c9⟩ := Z
      dsimp only at c0 c1 c2 c3 c4 c5 c6 c7 c8 c9
      go_wp2_with (go_at_call 43; refine (HF2.out _).mono ?_)
      rintro e w' ⟨rfl, g'⟩
      have g := g.trans (g'.mono g.size)
      go_wp2_with fail
      go_ret
      exact ⟨by rw [HE.out]; rfl, g⟩
  · cases x5
    · by_cases hq : q1 = 0
      · have HE : Hid (chQ ⟨true, ⟨bt, bk, bv, bs⟩, false, ⟨at', ak, av, sa⟩⟩ = 0) := by show _ = _; simp [chQ, HQ1.out, hq]
        subst hq
        obtain ⟨c0, c1, c2, c3, c4, c5, c6, c7, c8, c9⟩ := Z
        dsimp only at c0 c1 c2 c3 c4 c5 c6 c7 c8 c9
        go_enter Try.func38, Try.ntmps38
        go_upto_region 1 with (fail)
        clear hY
        go_quiet (fail)
        have g : Below w.heap.size w (Y.drewN nq) := gY.trans ⟨rfl, rfl, rfl, Nat.le_refl _, fun _ _ => rfl⟩
        have Z : ChC (Y.drewN nq) w.heap.size 0 ⟨true, ⟨bt, bk, bv, bs⟩, false, ⟨at', ak, av, sa⟩⟩ := ⟨c0, c1, c2, c3, c4, c5, c6, c7, c8, c9⟩
        clear c0 c1 c2 c3 c4 c5 c6 c7 c8 c9 gY
        generalize Y.drewN nq = D at g Z ⊢
        obtain ⟨c0, c1, c2, c3, c4, c5, c6, c7, c8, c9⟩ := Z
        dsimp only at c0 c1 c2 c3 c4 c5 c6 c7 c8 c9
        go_wp2_with (go_at_call 43; refine (HF1.out _).mono ?_)
        rintro e w' ⟨rfl, g'⟩
        have c5 := (g'.cell (p := ⟨w.heap.size, 5, none⟩) (World.block_lt_of_cell? _ _ c5)).trans c5
        have g := g.trans (g'.mono g.size)
        go_wp2_with fail
        go_ret
        exact ⟨by rw [HE.out]; rfl, g⟩
      · have HE : Hid (chQ ⟨true, ⟨bt, bk, bv, bs⟩, false, ⟨at', ak, av, sa⟩⟩ = q1) := by show _ = _; simp [chQ, HQ1.out, hq]
        have d : (q1 != 0) = true := by simpa using hq
        obtain ⟨c0, c1, c2, c3, c4, c5, c6, c7, c8, c9⟩ := Z
        dsimp only at c0 c1 c2 c3 c4 c5 c6 c7 c8 c9
        go_enter Try.func38, Try.ntmps38
        go_upto_region 1 with (fail)
        clear hY
        go_quiet (fail)
        have g : Below w.heap.size w (Y.drewN nq) := gY.trans ⟨rfl, rfl, rfl, Nat.le_refl _, fun _ _ => rfl⟩
        have Z : ChC (Y.drewN nq) w.heap.size 0 ⟨true, ⟨bt, bk, bv, bs⟩, false, ⟨at', ak, av, sa⟩⟩ := ⟨c0, c1, c2, c3, c4, c5, c6, c7, c8, c9⟩
        clear c0 c1 c2 c3 c4 c5 c6 c7 c8 c9 gY
        generalize Y.drewN nq = D at g Z ⊢
        obtain ⟨c0, c1, c2, c3, c4, c5, c6, c7, c8, c9⟩ := Z
        dsimp only at c0 c1 c2 c3 c4 c5 c6 c7 c8 c9
        go_wp2_with (go_at_call 43; refine (HF1.out _).mono ?_)
        rintro e w' ⟨rfl, g'⟩
        have g := g.trans (g'.mono g.size)
        go_wp2_with fail
        go_ret
        exact ⟨by rw [HE.out]; rfl, g⟩
    · by_cases ht : bt = at'
      · subst ht
        by_cases hk : bk = ak
        · subst hk
          by_cases hq : q1 = 0
          · have HE : Hid (chQ ⟨true, ⟨bt, bk, bv, bs⟩, true, ⟨bt, bk, av, sa⟩⟩ = q2) := by show _ = _; simp [chQ, HQ1.out, hq, HQ2.out]
            subst hq
            go_enter Try.func38, Try.ntmps38
            go_upto_region 1 with (fail)
            refine wp_region_held_drew (S := fun V => ChC V w.heap.size 0 ⟨true, ⟨bt, bk, bv, bs⟩, true, ⟨bt, bk, av, sa⟩⟩ ∧ Below w.heap.size w V) (by kernel_rfl) ⟨Z.below (Below.refl _ _).drew Z.lt, gY.trans (Below.refl _ _).drew⟩ (fun hHeld => ?_)
            clear hY Z gY
            generalize Y.drew = D at hHeld ⊢
            refine wpAnyH_take (i := 0) (v := ?v1) rfl (by kernel_rfl) (by kernel_rfl) (by kernel_rfl) (fun _ _ _ h => h) (Or.inl ⟨by kernel_rfl, ?h1⟩) hHeld ?_
            case h1 => intro u hSw; obtain ⟨v0, v1, v2, v3, v4, v5, v6, v7, v8, v9⟩ := hSw.1; dsimp only at v0 v1 v2 v3 v4 v5 v6 v7 v8 v9; clear hSw; go_simp; try with_reducible rfl
            try simp only [List.getElem_toArray]
            try simp only [List.getElem_cons_succ]
            try simp only [List.getElem_cons_zero]
            try simp only [Act.put]
            try simp only [List.setIfInBounds_toArray]
            try simp only [List.set]
            refine wpAnyH_take (i := 1) (v := ?v2) rfl (by kernel_rfl) (by kernel_rfl) (by kernel_rfl) (fun _ _ _ h => h) (Or.inl ⟨by kernel_rfl, ?h2⟩) hHeld ?_
            case h2 => intro u hSw; obtain ⟨v0, v1, v2, v3, v4, v5, v6, v7, v8, v9⟩ := hSw.1; dsimp only at v0 v1 v2 v3 v4 v5 v6 v7 v8 v9; clear hSw; go_simp; try with_reducible rfl
            try simp only [List.getElem_toArray]
            try simp only [List.getElem_cons_succ]
            try simp only [List.getElem_cons_zero]
            try simp only [Act.put]
            try simp only [List.setIfInBounds_toArray]
            try simp only [List.set]
            refine wpAnyH_take (i := 2) (v := ?v3) rfl (by kernel_rfl) (by kernel_rfl) (by kernel_rfl) (fun _ _ _ h => h) (Or.inl ⟨by kernel_rfl, ?h3⟩) hHeld ?_
            case h3 => intro u hSw; obtain ⟨v0, v1, v2, v3, v4, v5, v6, v7, v8, v9⟩ := hSw.1; dsimp only at v0 v1 v2 v3 v4 v5 v6 v7 v8 v9; clear hSw; go_simp; try with_reducible rfl
            try simp only [List.getElem_toArray]
            try simp only [List.getElem_cons_succ]
            try simp only [List.getElem_cons_zero]
            try simp only [Act.put]
            try simp only [List.setIfInBounds_toArray]
            try simp only [List.set]
            refine wpAnyH_take (i := 3) (v := ?v4) rfl (by kernel_rfl) (by kernel_rfl) (by kernel_rfl) (fun _ _ _ h => h) (Or.inl ⟨by kernel_rfl, ?h4⟩) hHeld ?_
            case h4 => intro u hSw; obtain ⟨v0, v1, v2, v3, v4, v5, v6, v7, v8, v9⟩ := hSw.1; dsimp only at v0 v1 v2 v3 v4 v5 v6 v7 v8 v9; clear hSw; go_simp; try with_reducible rfl
            try simp only [List.getElem_toArray]
            try simp only [List.getElem_cons_succ]
            try simp only [List.getElem_cons_zero]
            try simp only [Act.put]
            try simp only [List.setIfInBounds_toArray]
            try simp only [List.set]
            refine wpAnyH_take (i := 4) (v := undef) rfl (by kernel_rfl) (by kernel_rfl) (by kernel_rfl) (fun _ _ _ h => h) (Or.inr ⟨by kernel_rfl, rfl⟩) hHeld ?_
            try simp only [List.getElem_toArray]
            try simp only [List.getElem_cons_succ]
            try simp only [List.getElem_cons_zero]
            try simp only [Act.put]
            try simp only [List.setIfInBounds_toArray]
            try simp only [List.set]
            refine wpAnyH_take (i := 5) (v := undef) rfl (by kernel_rfl) (by kernel_rfl) (by kernel_rfl) (fun _ _ _ h => h) (Or.inr ⟨by kernel_rfl, rfl⟩) hHeld ?_
            try simp only [List.getElem_toArray]
            try simp only [List.getElem_cons_succ]
            try simp only [List.getElem_cons_zero]
            try simp only [Act.put]
            try simp only [List.setIfInBounds_toArray]
            try simp only [List.set]
            refine wpAnyH_take (i := 6) (v := undef) rfl (by kernel_rfl) (by kernel_rfl) (by kernel_rfl) (fun _ _ _ h => h) (Or.inr ⟨by kernel_rfl, rfl⟩) hHeld ?_
            try simp only [List.getElem_toArray]
            try simp only [List.getElem_cons_succ]
            try simp only [List.getElem_cons_zero]
            try simp only [Act.put]
            try simp only [List.setIfInBounds_toArray]
            try simp only [List.set]
            refine wpAnyH_take (i := 7) (v := ?v5) rfl (by kernel_rfl) (by kernel_rfl) (by kernel_rfl) (fun _ _ _ h => h) (Or.inl ⟨by kernel_rfl, ?h5⟩) hHeld ?_
            case h5 => intro u hSw; obtain ⟨v0, v1, v2, v3, v4, v5, v6, v7, v8, v9⟩ := hSw.1; dsimp only at v0 v1 v2 v3 v4 v5 v6 v7 v8 v9; clear hSw; go_simp; try with_reducible rfl
            try simp only [List.getElem_toArray]
            try simp only [List.getElem_cons_succ]
            try simp only [List.getElem_cons_zero]
            try simp only [Act.put]
            try simp only [List.setIfInBounds_toArray]
            try simp only [List.set]
            refine wpAnyH_take (i := 8) (v := ?v6) rfl (by kernel_rfl) (by kernel_rfl) (by kernel_rfl) (fun _ _ _ h => h) (Or.inl ⟨by kernel_rfl, ?h6⟩) hHeld ?_
            case h6 => intro u hSw; obtain ⟨v0, v1, v2, v3, v4, v5, v6, v7, v8, v9⟩ := hSw.1; dsimp only at v0 v1 v2 v3 v4 v5 v6 v7 v8 v9; clear hSw; go_simp; try with_reducible rfl
            try simp only [List.getElem_toArray]
            try simp only [List.getElem_cons_succ]
            try simp only [List.getElem_cons_zero]
            try simp only [Act.put]
            try simp only [List.setIfInBounds_toArray]
            try simp only [List.set]
            refine wpAnyH_take (i := 9) (v := ?v7) rfl (by kernel_rfl) (by kernel_rfl) (by kernel_rfl) (fun _ _ _ h => h) (Or.inl ⟨by kernel_rfl, ?h7⟩) hHeld ?_
            case h7 => intro u hSw; obtain ⟨v0, v1, v2, v3, v4, v5, v6, v7, v8, v9⟩ := hSw.1; dsimp only at v0 v1 v2 v3 v4 v5 v6 v7 v8 v9; clear hSw; go_simp; try with_reducible rfl
            try simp only [List.getElem_toArray]
            try simp only [List.getElem_cons_succ]
            try simp only [List.getElem_cons_zero]
            try simp only [Act.put]
            try simp only [List.setIfInBounds_toArray]
            try simp only [List.set]
            refine wpAnyH_take (i := 10) (v := ?v8) rfl (by kernel_rfl) (by kernel_rfl) (by kernel_rfl) (fun _ _ _ h => h) (Or.inl ⟨by kernel_rfl, ?h8⟩) hHeld ?_
            case h8 => intro u hSw; obtain ⟨v0, v1, v2, v3, v4, v5, v6, v7, v8, v9⟩ := hSw.1; dsimp only at v0 v1 v2 v3 v4 v5 v6 v7 v8 v9; clear hSw; go_simp; try with_reducible rfl
            try simp only [List.getElem_toArray]
            try simp only [List.getElem_cons_succ]
            try simp only [List.getElem_cons_zero]
            try simp only [Act.put]
            try simp only [List.setIfInBounds_toArray]
            try simp only [List.set]
            refine wpAnyH_take (i := 11) (v := ?v9) rfl (by kernel_rfl) (by kernel_rfl) (by kernel_rfl) (fun _ _ _ h => h) (Or.inl ⟨by kernel_rfl, ?h9⟩) hHeld ?_
            case h9 => intro u hSw; obtain ⟨v0, v1, v2, v3, v4, v5, v6, v7, v8, v9⟩ := hSw.1; dsimp only at v0 v1 v2 v3 v4 v5 v6 v7 v8 v9; clear hSw; go_simp; try with_reducible rfl
            try simp only [List.getElem_toArray]
            try simp only [List.getElem_cons_succ]
            try simp only [List.getElem_cons_zero]
            try simp only [Act.put]
            try simp only [List.setIfInBounds_toArray]
            try simp only [List.set]
            refine wpAnyH_take (i := 12) (v := ?v10) rfl (by kernel_rfl) (by kernel_rfl) (by kernel_rfl) (fun _ _ _ h => h) (Or.inl ⟨by kernel_rfl, ?h10⟩) hHeld ?_
            case h10 => intro u hSw; obtain ⟨v0, v1, v2, v3, v4, v5, v6, v7, v8, v9⟩ := hSw.1; dsimp only at v0 v1 v2 v3 v4 v5 v6 v7 v8 v9; clear hSw; go_simp; try with_reducible rfl
            try simp only [List.getElem_toArray]
            try simp only [List.getElem_cons_succ]
            try simp only [List.getElem_cons_zero]
            try simp only [Act.put]
            try simp only [List.setIfInBounds_toArray]
            try simp only [List.set]
            refine wpAnyH_take (i := 13) (v := ?v11) rfl (by kernel_rfl) (by kernel_rfl) (by kernel_rfl) (fun _ _ _ h => h) (Or.inl ⟨by kernel_rfl, ?h11⟩) hHeld ?_
            case h11 => intro u hSw; obtain ⟨v0, v1, v2, v3, v4, v5, v6, v7, v8, v9⟩ := hSw.1; dsimp only at v0 v1 v2 v3 v4 v5 v6 v7 v8 v9; clear hSw; go_simp; try with_reducible rfl
            try simp only [List.getElem_toArray]
            try simp only [List.getElem_cons_succ]
            try simp only [List.getElem_cons_zero]
            try simp only [Act.put]
            try simp only [List.setIfInBounds_toArray]
            try simp only [List.set]
            refine wpAnyH_take (i := 14) (v := ?v12) rfl (by kernel_rfl) (by kernel_rfl) (by kernel_rfl) (fun _ _ _ h => h) (Or.inl ⟨by kernel_rfl, ?h12⟩) hHeld ?_
            case h12 => intro u hSw; obtain ⟨v0, v1, v2, v3, v4, v5, v6, v7, v8, v9⟩ := hSw.1; dsimp only at v0 v1 v2 v3 v4 v5 v6 v7 v8 v9; clear hSw; go_simp; try with_reducible rfl
            try simp only [List.getElem_toArray]
            try simp only [List.getElem_cons_succ]
            try simp only [List.getElem_cons_zero]
            try simp only [Act.put]
            try simp only [List.setIfInBounds_toArray]
            try simp only [List.set]
            refine wpAnyH_take (i := 15) (v := ?v13) rfl (by kernel_rfl) (by kernel_rfl) (by kernel_rfl) (fun _ _ _ h => h) (Or.inl ⟨by kernel_rfl, ?h13⟩) hHeld ?_
            case h13 => intro u hSw; obtain ⟨v0, v1, v2, v3, v4, v5, v6, v7, v8, v9⟩ := hSw.1; dsimp only at v0 v1 v2 v3 v4 v5 v6 v7 v8 v9; clear hSw; go_simp; try with_reducible rfl
            try simp only [List.getElem_toArray]
            try simp only [List.getElem_cons_succ]
            try simp only [List.getElem_cons_zero]
            try simp only [Act.put]
            try simp only [List.setIfInBounds_toArray]
            try simp only [List.set]
            refine wpAnyH_take (i := 16) (v := ?v14) rfl (by kernel_rfl) (by kernel_rfl) (by kernel_rfl) (fun _ _ _ h => h) (Or.inl ⟨by kernel_rfl, ?h14⟩) hHeld ?_
            case h14 => intro u hSw; obtain ⟨v0, v1, v2, v3, v4, v5, v6, v7, v8, v9⟩ := hSw.1; dsimp only at v0 v1 v2 v3 v4 v5 v6 v7 v8 v9; clear hSw; go_simp; try with_reducible rfl
            try simp only [List.getElem_toArray]
            try simp only [List.getElem_cons_succ]
            try simp only [List.getElem_cons_zero]
            try simp only [Act.put]
            try simp only [List.setIfInBounds_toArray]
            try simp only [List.set]
            refine wpAnyH_take (i := 19) (v := ?v15) rfl (by kernel_rfl) (by kernel_rfl) (by kernel_rfl) (fun _ _ _ h => h) (Or.inl ⟨by kernel_rfl, ?h15⟩) hHeld ?_
            case h15 => intro u hSw; obtain ⟨v0, v1, v2, v3, v4, v5, v6, v7, v8, v9⟩ := hSw.1; dsimp only at v0 v1 v2 v3 v4 v5 v6 v7 v8 v9; clear hSw; go_simp; try with_reducible rfl
            try simp only [List.getElem_toArray]
            try simp only [List.getElem_cons_succ]
            try simp only [List.getElem_cons_zero]
            try simp only [Act.put]
            try simp only [List.setIfInBounds_toArray]
            try simp only [List.set]
            refine wpAnyH_take (i := 17) (v := ?v16) rfl (by kernel_rfl) (by kernel_rfl) (by kernel_rfl) (fun _ _ _ h => h) (Or.inl ⟨by kernel_rfl, ?h16⟩) hHeld ?_
            case h16 => intro u hSw; obtain ⟨v0, v1, v2, v3, v4, v5, v6, v7, v8, v9⟩ := hSw.1; dsimp only at v0 v1 v2 v3 v4 v5 v6 v7 v8 v9; clear hSw; go_simp; try with_reducible rfl
            try simp only [List.getElem_toArray]
            try simp only [List.getElem_cons_succ]
            try simp only [List.getElem_cons_zero]
            try simp only [Act.put]
            try simp only [List.setIfInBounds_toArray]
            try simp only [List.set]
            refine wpAnyH_take (i := 20) (v := ?v17) rfl (by kernel_rfl) (by kernel_rfl) (by kernel_rfl) (fun _ _ _ h => h) (Or.inl ⟨by kernel_rfl, ?h17⟩) hHeld ?_
            case h17 => intro u hSw; obtain ⟨v0, v1, v2, v3, v4, v5, v6, v7, v8, v9⟩ := hSw.1; dsimp only at v0 v1 v2 v3 v4 v5 v6 v7 v8 v9; clear hSw; go_simp; try with_reducible rfl
            try simp only [List.getElem_toArray]
            try simp only [List.getElem_cons_succ]
            try simp only [List.getElem_cons_zero]
            try simp only [Act.put]
            try simp only [List.setIfInBounds_toArray]
            try simp only [List.set]
            refine wpAnyH_ready (rs := [18]) (by kernel_rfl) (by simp) ?_
            refine AllReadyH.cons rfl (fun K hK => ?_) AllReadyH.nil
            go_simp
            go_wp2_with (go_at_call 45; refine (keyOf_any _ _ _ _ _).mono ?_; rintro e W7 ⟨rfl, gg⟩)
            refine hK.out _ _ (⟨hHeld.1.below gg hHeld.1.lt, hHeld.2.trans (gg.mono hHeld.2.size)⟩) (fun hHeld => ?_)
            clear hK K
            clear gg
            try simp only [Act.put]
            try simp only [List.setIfInBounds_toArray]
            try simp only [List.set]
            refine wpAnyH_ready (rs := [21]) (by kernel_rfl) (by simp) ?_
            refine AllReadyH.cons rfl (fun K hK => ?_) AllReadyH.nil
            go_simp
            go_wp2_with (go_at_call 45; refine (keyOf_any _ _ _ _ _).mono ?_; rintro e W8 ⟨rfl, gg⟩)
            refine hK.out _ _ (⟨hHeld.1.below gg hHeld.1.lt, hHeld.2.trans (gg.mono hHeld.2.size)⟩) (fun hHeld => ?_)
            clear hK K
            clear gg
            try simp only [Act.put]
            try simp only [List.setIfInBounds_toArray]
            try simp only [List.set]
            refine wpAnyH_take (i := 22) (v := ?v18) rfl (by kernel_rfl) (by kernel_rfl) (by kernel_rfl) (fun _ _ _ h => h) (Or.inl ⟨by kernel_rfl, ?h18⟩) hHeld ?_
            case h18 => intro u hSw; obtain ⟨v0, v1, v2, v3, v4, v5, v6, v7, v8, v9⟩ := hSw.1; dsimp only at v0 v1 v2 v3 v4 v5 v6 v7 v8 v9; clear hSw; go_simp; try with_reducible rfl
            try simp only [List.getElem_toArray]
            try simp only [List.getElem_cons_succ]
            try simp only [List.getElem_cons_zero]
            try simp only [Act.put]
            try simp only [List.setIfInBounds_toArray]
            try simp only [List.set]
            refine wpAnyH_take (i := 23) (v := ?v19) rfl (by kernel_rfl) (by kernel_rfl) (by kernel_rfl) (fun _ _ _ h => h) (Or.inl ⟨by kernel_rfl, ?h19⟩) hHeld ?_
            case h19 => intro u hSw; obtain ⟨v0, v1, v2, v3, v4, v5, v6, v7, v8, v9⟩ := hSw.1; dsimp only at v0 v1 v2 v3 v4 v5 v6 v7 v8 v9; clear hSw; go_simp; try with_reducible rfl
            try simp only [List.getElem_toArray]
            try simp only [List.getElem_cons_succ]
            try simp only [List.getElem_cons_zero]
            try simp only [Act.put]
            try simp only [List.setIfInBounds_toArray]
            try simp only [List.set]
            refine wpAnyH_take (i := 24) (v := ?v20) rfl (by kernel_rfl) (by kernel_rfl) (by kernel_rfl) (fun _ _ _ h => h) (Or.inl ⟨by kernel_rfl, ?h20⟩) hHeld ?_
            case h20 => intro u hSw; obtain ⟨v0, v1, v2, v3, v4, v5, v6, v7, v8, v9⟩ := hSw.1; dsimp only at v0 v1 v2 v3 v4 v5 v6 v7 v8 v9; clear hSw; go_simp; try with_reducible rfl
            try simp only [List.getElem_toArray]
            try simp only [List.getElem_cons_succ]
            try simp only [List.getElem_cons_zero]
            try simp only [Act.put]
            try simp only [List.setIfInBounds_toArray]
            try simp only [List.set]
            refine wpAnyH_done (by kernel_rfl) ?_ _
            obtain ⟨Z, g⟩ := hHeld
            obtain ⟨c0, c1, c2, c3, c4, c5, c6, c7, c8, c9⟩ := Z
            dsimp only at c0 c1 c2 c3 c4 c5 c6 c7 c8 c9
            go_wp2_with (go_at_call 43; refine (HF1.out _).mono ?_)
            rintro e w' ⟨rfl, g'⟩
            have Z : ChC w' w.heap.size 0 ⟨true, ⟨bt, bk, bv, bs⟩, true, ⟨bt, bk, av, sa⟩⟩ := ChC.below ⟨c0, c1, c2, c3, c4, c5, c6, c7, c8, c9⟩ g' (World.block_lt_of_cell? _ _ c0)
            have g := g.trans (g'.mono g.size)
            clear c0 c1 c2 c3 c4 c5 c6 c7 c8 c9 g'
            obtain ⟨c0, c1, c2, c3, c4, c5, c6, c7, c8, c9⟩ := Z
            dsimp only at c0 c1 c2 c3 c4 c5 c6 c7 c8 c9
            go_wp2_with (go_at_call 43; refine (HF2.out _).mono ?_)
            rintro e w' ⟨rfl, g'⟩
            have g := g.trans (g'.mono g.size)
            go_wp2_with fail
            go_ret
            exact ⟨by rw [HE.out]; rfl, g⟩
          · have HE : Hid (chQ ⟨true, ⟨bt, bk, bv, bs⟩, true, ⟨bt, bk, av, sa⟩⟩ = q1) := by show _ = _; simp [chQ, HQ1.out, hq]
            have d : (q1 != 0) = true := by simpa using hq
            go_enter Try.func38, Try.ntmps38
            go_upto_region 1 with (fail)
            refine wp_region_held_drew (S := fun V => ChC V w.heap.size 0 ⟨true, ⟨bt, bk, bv, bs⟩, true, ⟨bt, bk, av, sa⟩⟩ ∧ Below w.heap.size w V) (by kernel_rfl) ⟨Z.below (Below.refl _ _).drew Z.lt, gY.trans (Below.refl _ _).drew⟩ (fun hHeld => ?_)
            clear hY Z gY
            generalize Y.drew = D at hHeld ⊢
            refine wpAnyH_take (i := 0) (v := ?v21) rfl (by kernel_rfl) (by kernel_rfl) (by kernel_rfl) (fun _ _ _ h => h) (Or.inl ⟨by kernel_rfl, ?h21⟩) hHeld ?_
            case h21 => intro u hSw; obtain ⟨v0, v1, v2, v3, v4, v5, v6, v7, v8, v9⟩ := hSw.1; dsimp only at v0 v1 v2 v3 v4 v5 v6 v7 v8 v9; clear hSw; go_simp; try with_reducible rfl
            try simp only [List.getElem_toArray]
            try simp only [List.getElem_cons_succ]
            try simp only [List.getElem_cons_zero]
            try simp only [Act.put]
            try simp only [List.setIfInBounds_toArray]
            try simp only [List.set]
            refine wpAnyH_take (i := 1) (v := ?v22) rfl (by kernel_rfl) (by kernel_rfl) (by kernel_rfl) (fun _ _ _ h => h) (Or.inl ⟨by kernel_rfl, ?h22⟩) hHeld ?_
            case h22 => intro u hSw; obtain ⟨v0, v1, v2, v3, v4, v5, v6, v7, v8, v9⟩ := hSw.1; dsimp only at v0 v1 v2 v3 v4 v5 v6 v7 v8 v9; clear hSw; go_simp; try with_reducible rfl
            try simp only [List.getElem_toArray]
            try simp only [List.getElem_cons_succ]
            try simp only [List.getElem_cons_zero]
            try simp only [Act.put]
            try simp only [List.setIfInBounds_toArray]
            try simp only [List.set]
            refine wpAnyH_take (i := 2) (v := ?v23) rfl (by kernel_rfl) (by kernel_rfl) (by kernel_rfl) (fun _ _ _ h => h) (Or.inl ⟨by kernel_rfl, ?h23⟩) hHeld ?_
            case h23 => intro u hSw; obtain ⟨v0, v1, v2, v3, v4, v5, v6, v7, v8, v9⟩ := hSw.1; dsimp only at v0 v1 v2 v3 v4 v5 v6 v7 v8 v9; clear hSw; go_simp; try with_reducible rfl
            try simp only [List.getElem_toArray]
            try simp only [List.getElem_cons_succ]
            try simp only [List.getElem_cons_zero]
            try simp only [Act.put]
            try simp only [List.setIfInBounds_toArray]
            try simp only [List.set]
            refine wpAnyH_take (i := 3) (v := ?v24) rfl (by kernel_rfl) (by kernel_rfl) (by kernel_rfl) (fun _ _ _ h => h) (Or.inl ⟨by kernel_rfl, ?h24⟩) hHeld ?_
            case h24 => intro u hSw; obtain ⟨v0, v1, v2, v3, v4, v5, v6, v7, v8, v9⟩ := hSw.1; dsimp only at v0 v1 v2 v3 v4 v5 v6 v7 v8 v9; clear hSw; go_simp; try with_reducible rfl
            try simp only [List.getElem_toArray]
            try simp only [List.getElem_cons_succ]
            try simp only [List.getElem_cons_zero]
            try simp only [Act.put]
            try simp only [List.setIfInBounds_toArray]
            try simp only [List.set]
            refine wpAnyH_take (i := 4) (v := undef) rfl (by kernel_rfl) (by kernel_rfl) (by kernel_rfl) (fun _ _ _ h => h) (Or.inr ⟨by kernel_rfl, rfl⟩) hHeld ?_
            try simp only [List.getElem_toArray]
            try simp only [List.getElem_cons_succ]
            try simp only [List.getElem_cons_zero]
            try simp only [Act.put]
            try simp only [List.setIfInBounds_toArray]
            try simp only [List.set]
            refine wpAnyH_take (i := 5) (v := undef) rfl (by kernel_rfl) (by kernel_rfl) (by kernel_rfl) (fun _ _ _ h => h) (Or.inr ⟨by kernel_rfl, rfl⟩) hHeld ?_
            try simp only [List.getElem_toArray]
            try simp only [List.getElem_cons_succ]
            try simp only [List.getElem_cons_zero]
            try simp only [Act.put]
            try simp only [List.setIfInBounds_toArray]
            try simp only [List.set]
            refine wpAnyH_take (i := 6) (v := undef) rfl (by kernel_rfl) (by kernel_rfl) (by kernel_rfl) (fun _ _ _ h => h) (Or.inr ⟨by kernel_rfl, rfl⟩) hHeld ?_
            try simp only [List.getElem_toArray]
            try simp only [List.getElem_cons_succ]
            try simp only [List.getElem_cons_zero]
            try simp only [Act.put]
            try simp only [List.setIfInBounds_toArray]
            try simp only [List.set]
            refine wpAnyH_take (i := 7) (v := ?v25) rfl (by kernel_rfl) (by kernel_rfl) (by kernel_rfl) (fun _ _ _ h => h) (Or.inl ⟨by kernel_rfl, ?h25⟩) hHeld ?_
            case h25 => intro u hSw; obtain ⟨v0, v1, v2, v3, v4, v5, v6, v7, v8, v9⟩ := hSw.1; dsimp only at v0 v1 v2 v3 v4 v5 v6 v7 v8 v9; clear hSw; go_simp; try with_reducible rfl
            try simp only [List.getElem_toArray]
            try simp only [List.getElem_cons_succ]
            try simp only [List.getElem_cons_zero]
            try simp only [Act.put]
            try simp only [List.setIfInBounds_toArray]
            try simp only [List.set]
            refine wpAnyH_take (i := 8) (v := ?v26) rfl (by kernel_rfl) (by kernel_rfl) (by kernel_rfl) (fun _ _ _ h => h) (Or.inl ⟨by kernel_rfl, ?h26⟩) hHeld ?_
            case h26 => intro u hSw; obtain ⟨v0, v1, v2, v3, v4, v5, v6, v7, v8, v9⟩ := hSw.1; dsimp only at v0 v1 v2 v3 v4 v5 v6 v7 v8 v9; clear hSw; go_simp; try with_reducible rfl
            try simp only [List.getElem_toArray]
            try simp only [List.getElem_cons_succ]
            try simp only [List.getElem_cons_zero]
            try simp only [Act.put]
            try simp only [List.setIfInBounds_toArray]
            try simp only [List.set]
            refine wpAnyH_take (i := 9) (v := ?v27) rfl (by kernel_rfl) (by kernel_rfl) (by kernel_rfl) (fun _ _ _ h => h) (Or.inl ⟨by kernel_rfl, ?h27⟩) hHeld ?_
            case h27 => intro u hSw; obtain ⟨v0, v1, v2, v3, v4, v5, v6, v7, v8, v9⟩ := hSw.1; dsimp only at v0 v1 v2 v3 v4 v5 v6 v7 v8 v9; clear hSw; go_simp; try with_reducible rfl
            try simp only [List.getElem_toArray]
            try simp only [List.getElem_cons_succ]
            try simp only [List.getElem_cons_zero]
            try simp only [Act.put]
            try simp only [List.setIfInBounds_toArray]
            try simp only [List.set]
            refine wpAnyH_take (i := 10) (v := ?v28) rfl (by kernel_rfl) (by kernel_rfl) (by kernel_rfl) (fun _ _ _ h => h) (Or.inl ⟨by kernel_rfl, ?h28⟩) hHeld ?_
            case h28 => intro u hSw; obtain ⟨v0, v1, v2, v3, v4, v5, v6, v7, v8, v9⟩ := hSw.1; dsimp only at v0 v1 v2 v3 v4 v5 v6 v7 v8 v9; clear hSw; go_simp; try with_reducible rfl
            try simp only [List.getElem_toArray]
            try simp only [List.getElem_cons_succ]
            try simp only [List.getElem_cons_zero]
            try simp only [Act.put]
            try simp only [List.setIfInBounds_toArray]
            try simp only [List.set]
            refine wpAnyH_take (i := 11) (v := ?v29) rfl (by kernel_rfl) (by kernel_rfl) (by kernel_rfl) (fun _ _ _ h => h) (Or.inl ⟨by kernel_rfl, ?h29⟩) hHeld ?_
            case h29 => intro u hSw; obtain ⟨v0, v1, v2, v3, v4, v5, v6, v7, v8, v9⟩ := hSw.1; dsimp only at v0 v1 v2 v3 v4 v5 v6 v7 v8 v9; clear hSw; go_simp; try with_reducible rfl
            try simp only [List.getElem_toArray]
            try simp only [List.getElem_cons_succ]
            try simp only [List.getElem_cons_zero]
            try simp only [Act.put]
            try simp only [List.setIfInBounds_toArray]
            try simp only [List.set]
            refine wpAnyH_take (i := 12) (v := ?v30) rfl (by kernel_rfl) (by kernel_rfl) (by kernel_rfl) (fun _ _ _ h => h) (Or.inl ⟨by kernel_rfl, ?h30⟩) hHeld ?_
            case h30 => intro u hSw; obtain ⟨v0, v1, v2, v3, v4, v5, v6, v7, v8, v9⟩ := hSw.1; dsimp only at v0 v1 v2 v3 v4 v5 v6 v7 v8 v9; clear hSw; go_simp; try with_reducible rfl
            try simp only [List.getElem_toArray]
            try simp only [List.getElem_cons_succ]
            try simp only [List.getElem_cons_zero]
            try simp only [Act.put]
            try simp only [List.setIfInBounds_toArray]
            try simp only [List.set]
            refine wpAnyH_take (i := 13) (v := ?v31) rfl (by kernel_rfl) (by kernel_rfl) (by kernel_rfl) (fun _ _ _ h => h) (Or.inl ⟨by kernel_rfl, ?h31⟩) hHeld ?_
            case h31 => intro u hSw; obtain ⟨v0, v1, v2, v3, v4, v5, v6, v7, v8, v9⟩ := hSw.1; dsimp only at v0 v1 v2 v3 v4 v5 v6 v7 v8 v9; clear hSw; go_simp; try with_reducible rfl
            try simp only [List.getElem_toArray]
            try simp only [List.getElem_cons_succ]
            try simp only [List.getElem_cons_zero]
            try simp only [Act.put]
            try simp only [List.setIfInBounds_toArray]
            try simp only [List.set]
            refine wpAnyH_take (i := 14) (v := ?v32) rfl (by kernel_rfl) (by kernel_rfl) (by kernel_rfl) (fun _ _ _ h => h) (Or.inl ⟨by kernel_rfl, ?h32⟩) hHeld ?_
            case h32 => intro u hSw; obtain ⟨v0, v1, v2, v3, v4, v5, v6, v7, v8, v9⟩ := hSw.1; dsimp only at v0 v1 v2 v3 v4 v5 v6 v7 v8 v9; clear hSw; go_simp; try with_reducible rfl
            try simp only [List.getElem_toArray]
            try simp only [List.getElem_cons_succ]
            try simp only [List.getElem_cons_zero]
            try simp only [Act.put]
            try simp only [List.setIfInBounds_toArray]
            try simp only [List.set]
            refine wpAnyH_take (i := 15) (v := ?v33) rfl (by kernel_rfl) (by kernel_rfl) (by kernel_rfl) (fun _ _ _ h => h) (Or.inl ⟨by kernel_rfl, ?h33⟩) hHeld ?_
            case h33 => intro u hSw; obtain ⟨v0, v1, v2, v3, v4, v5, v6, v7, v8, v9⟩ := hSw.1; dsimp only at v0 v1 v2 v3 v4 v5 v6 v7 v8 v9; clear hSw; go_simp; try with_reducible rfl
            try simp only [List.getElem_toArray]
            try simp only [List.getElem_cons_succ]
            try simp only [List.getElem_cons_zero]
            try simp only [Act.put]
            try simp only [List.setIfInBounds_toArray]
            try simp only [List.set]
            refine wpAnyH_take (i := 16) (v := ?v34) rfl (by kernel_rfl) (by kernel_rfl) (by kernel_rfl) (fun _ _ _ h => h) (Or.inl ⟨by kernel_rfl, ?h34⟩) hHeld ?_
            case h34 => intro u hSw; obtain ⟨v0, v1, v2, v3, v4, v5, v6, v7, v8, v9⟩ := hSw.1; dsimp only at v0 v1 v2 v3 v4 v5 v6 v7 v8 v9; clear hSw; go_simp; try with_reducible rfl
            try simp only [List.getElem_toArray]
            try simp only [List.getElem_cons_succ]
            try simp only [List.getElem_cons_zero]
            try simp only [Act.put]
            try simp only [List.setIfInBounds_toArray]
            try simp only [List.set]
            refine wpAnyH_take (i := 19) (v := ?v35) rfl (by kernel_rfl) (by kernel_rfl) (by kernel_rfl) (fun _ _ _ h => h) (Or.inl ⟨by kernel_rfl, ?h35⟩) hHeld ?_
            case h35 => intro u hSw; obtain ⟨v0, v1, v2, v3, v4, v5, v6, v7, v8, v9⟩ := hSw.1; dsimp only at v0 v1 v2 v3 v4 v5 v6 v7 v8 v9; clear hSw; go_simp; try with_reducible rfl
            try simp only [List.getElem_toArray]
            try simp only [List.getElem_cons_succ]
            try simp only [List.getElem_cons_zero]
            try simp only [Act.put]
            try simp only [List.setIfInBounds_toArray]
            try simp only [List.set]
            refine wpAnyH_take (i := 17) (v := ?v36) rfl (by kernel_rfl) (by kernel_rfl) (by kernel_rfl) (fun _ _ _ h => h) (Or.inl ⟨by kernel_rfl, ?h36⟩) hHeld ?_
            case h36 => intro u hSw; obtain ⟨v0, v1, v2, v3, v4, v5, v6, v7, v8, v9⟩ := hSw.1; dsimp only at v0 v1 v2 v3 v4 v5 v6 v7 v8 v9; clear hSw; go_simp; try with_reducible rfl
            try simp only [List.getElem_toArray]
            try simp only [List.getElem_cons_succ]
            try simp only [List.getElem_cons_zero]
            try simp only [Act.put]
            try simp only [List.setIfInBounds_toArray]
            try simp only [List.set]
            refine wpAnyH_take (i := 20) (v := ?v37) rfl (by kernel_rfl) (by kernel_rfl) (by kernel_rfl) (fun _ _ _ h => h) (Or.inl ⟨by kernel_rfl, ?h37⟩) hHeld ?_
            case h37 => intro u hSw; obtain ⟨v0, v1, v2, v3, v4, v5, v6, v7, v8, v9⟩ := hSw.1; dsimp only at v0 v1 v2 v3 v4 v5 v6 v7 v8 v9; clear hSw; go_simp; try with_reducible rfl
            try simp only [List.getElem_toArray]
            try simp only [List.getElem_cons_succ]
            try simp only [List.getElem_cons_zero]
            try simp only [Act.put]
            try simp only [List.setIfInBounds_toArray]
            try simp only [List.set]
            refine wpAnyH_ready (rs := [18]) (by kernel_rfl) (by simp) ?_
            refine AllReadyH.cons rfl (fun K hK => ?_) AllReadyH.nil
            go_simp
            go_wp2_with (go_at_call 45; refine (keyOf_any _ _ _ _ _).mono ?_; rintro e W7 ⟨rfl, gg⟩)
            refine hK.out _ _ (⟨hHeld.1.below gg hHeld.1.lt, hHeld.2.trans (gg.mono hHeld.2.size)⟩) (fun hHeld => ?_)
            clear hK K
            clear gg
            try simp only [Act.put]
            try simp only [List.setIfInBounds_toArray]
            try simp only [List.set]
            refine wpAnyH_ready (rs := [21]) (by kernel_rfl) (by simp) ?_
            refine AllReadyH.cons rfl (fun K hK => ?_) AllReadyH.nil
            go_simp
            go_wp2_with (go_at_call 45; refine (keyOf_any _ _ _ _ _).mono ?_; rintro e W8 ⟨rfl, gg⟩)
            refine hK.out _ _ (⟨hHeld.1.below gg hHeld.1.lt, hHeld.2.trans (gg.mono hHeld.2.size)⟩) (fun hHeld => ?_)
            clear hK K
            clear gg
            try simp only [Act.put]
            try simp only [List.setIfInBounds_toArray]
            try simp only [List.set]
            refine wpAnyH_take (i := 22) (v := ?v38) rfl (by kernel_rfl) (by kernel_rfl) (by kernel_rfl) (fun _ _ _ h => h) (Or.inl ⟨by kernel_rfl, ?h38⟩) hHeld ?_
            case h38 => intro u hSw; obtain ⟨v0, v1, v2, v3, v4, v5, v6, v7, v8, v9⟩ := hSw.1; dsimp only at v0 v1 v2 v3 v4 v5 v6 v7 v8 v9; clear hSw; go_simp; try with_reducible rfl
            try simp only [List.getElem_toArray]
            try simp only [List.getElem_cons_succ]
            try simp only [List.getElem_cons_zero]
            try simp only [Act.put]
            try simp only [List.setIfInBounds_toArray]
            try simp only [List.set]
            refine wpAnyH_take (i := 23) (v := ?v39) rfl (by kernel_rfl) (by kernel_rfl) (by kernel_rfl) (fun _ _ _ h => h) (Or.inl ⟨by kernel_rfl, ?h39⟩) hHeld ?_
            case h39 => intro u hSw; obtain ⟨v0, v1, v2, v3, v4, v5, v6, v7, v8, v9⟩ := hSw.1; dsimp only at v0 v1 v2 v3 v4 v5 v6 v7 v8 v9; clear hSw; go_simp; try with_reducible rfl
            try simp only [List.getElem_toArray]
            try simp only [List.getElem_cons_succ]
            try simp only [List.getElem_cons_zero]
            try simp only [Act.put]
            try simp only [List.setIfInBounds_toArray]
            try simp only [List.set]
            refine wpAnyH_take (i := 24) (v := ?v40) rfl (by kernel_rfl) (by kernel_rfl) (by kernel_rfl) (fun _ _ _ h => h) (Or.inl ⟨by kernel_rfl, ?h40⟩) hHeld ?_
            case h40 => intro u hSw; obtain ⟨v0, v1, v2, v3, v4, v5, v6, v7, v8, v9⟩ := hSw.1; dsimp only at v0 v1 v2 v3 v4 v5 v6 v7 v8 v9; clear hSw; go_simp; try with_reducible rfl
            try simp only [List.getElem_toArray]
            try simp only [List.getElem_cons_succ]
            try simp only [List.getElem_cons_zero]
            try simp only [Act.put]
            try simp only [List.setIfInBounds_toArray]
            try simp only [List.set]
            refine wpAnyH_done (by kernel_rfl) ?_ _
            obtain ⟨Z, g⟩ := hHeld
            obtain ⟨c0, c1, c2, c3, c4, c5, c6, c7, c8, c9⟩ := Z
            dsimp only at c0 c1 c2 c3 c4 c5 c6 c7 c8 c9
            go_wp2_with (go_at_call 43; refine (HF1.out _).mono ?_)
            rintro e w' ⟨rfl, g'⟩
            have g := g.trans (g'.mono g.size)
            go_wp2_with fail
            go_ret
            exact ⟨by rw [HE.out]; rfl, g⟩
        · have HE : Hid (chQ ⟨true, ⟨bt, bk, bv, bs⟩, true, ⟨bt, ak, av, sa⟩⟩ = 1) := by show _ = _; simp [chQ, hk]
          have d : (bk == ak) = false := by simpa using hk
          go_enter Try.func38, Try.ntmps38
          go_upto_region 1 with (fail)
          refine wp_region_held_drew (S := fun V => ChC V w.heap.size 0 ⟨true, ⟨bt, bk, bv, bs⟩, true, ⟨bt, ak, av, sa⟩⟩ ∧ Below w.heap.size w V) (by kernel_rfl) ⟨Z.below (Below.refl _ _).drew Z.lt, gY.trans (Below.refl _ _).drew⟩ (fun hHeld => ?_)
          clear hY Z gY
          generalize Y.drew = D at hHeld ⊢
          refine wpAnyH_take (i := 0) (v := ?v41) rfl (by kernel_rfl) (by kernel_rfl) (by kernel_rfl) (fun _ _ _ h => h) (Or.inl ⟨by kernel_rfl, ?h41⟩) hHeld ?_
          case h41 => intro u hSw; obtain ⟨v0, v1, v2, v3, v4, v5, v6, v7, v8, v9⟩ := hSw.1; dsimp only at v0 v1 v2 v3 v4 v5 v6 v7 v8 v9; clear hSw; go_simp; try with_reducible rfl
          try simp only [List.getElem_toArray]
          try simp only [List.getElem_cons_succ]
          try simp only [List.getElem_cons_zero]
          try simp only [Act.put]
          try simp only [List.setIfInBounds_toArray]
          try simp only [List.set]
          refine wpAnyH_take (i := 1) (v := ?v42) rfl (by kernel_rfl) (by kernel_rfl) (by kernel_rfl) (fun _ _ _ h => h) (Or.inl ⟨by kernel_rfl, ?h42⟩) hHeld ?_
          case h42 => intro u hSw; obtain ⟨v0, v1, v2, v3, v4, v5, v6, v7, v8, v9⟩ := hSw.1; dsimp only at v0 v1 v2 v3 v4 v5 v6 v7 v8 v9; clear hSw; go_simp; try with_reducible rfl
          try simp only [List.getElem_toArray]
          try simp only [List.getElem_cons_succ]
          try simp only [List.getElem_cons_zero]
          try simp only [Act.put]
          try simp only [List.setIfInBounds_toArray]
          try simp only [List.set]
          refine wpAnyH_take (i := 2) (v := ?v43) rfl (by kernel_rfl) (by kernel_rfl) (by kernel_rfl) (fun _ _ _ h => h) (Or.inl ⟨by kernel_rfl, ?h43⟩) hHeld ?_
          case h43 => intro u hSw; obtain ⟨v0, v1, v2, v3, v4, v5, v6, v7, v8, v9⟩ := hSw.1; dsimp only at v0 v1 v2 v3 v4 v5 v6 v7 v8 v9; clear hSw; go_simp; try with_reducible rfl
          try simp only [List.getElem_toArray]
          try simp only [List.getElem_cons_succ]
          try simp only [List.getElem_cons_zero]
          try simp only [Act.put]
          try simp only [List.setIfInBounds_toArray]
          try simp only [List.set]
          refine wpAnyH_take (i := 3) (v := ?v44) rfl (by kernel_rfl) (by kernel_rfl) (by kernel_rfl) (fun _ _ _ h => h) (Or.inl ⟨by kernel_rfl, ?h44⟩) hHeld ?_
          case h44 => intro u hSw; obtain ⟨v0, v1, v2, v3, v4, v5, v6, v7, v8, v9⟩ := hSw.1; dsimp only at v0 v1 v2 v3 v4 v5 v6 v7 v8 v9; clear hSw; go_simp; try with_reducible rfl
          try simp only [List.getElem_toArray]
          try simp only [List.getElem_cons_succ]
          try simp only [List.getElem_cons_zero]
          try simp only [Act.put]
          try simp only [List.setIfInBounds_toArray]
          try simp only [List.set]
          refine wpAnyH_take (i := 4) (v := undef) rfl (by kernel_rfl) (by kernel_rfl) (by kernel_rfl) (fun _ _ _ h => h) (Or.inr ⟨by kernel_rfl, rfl⟩) hHeld ?_
          try simp only [List.getElem_toArray]
          try simp only [List.getElem_cons_succ]
          try simp only [List.getElem_cons_zero]
          try simp only [Act.put]
          try simp only [List.setIfInBounds_toArray]
          try simp only [List.set]
          refine wpAnyH_take (i := 5) (v := undef) rfl (by kernel_rfl) (by kernel_rfl) (by kernel_rfl) (fun _ _ _ h => h) (Or.inr ⟨by kernel_rfl, rfl⟩) hHeld ?_
          try simp only [List.getElem_toArray]
          try simp only [List.getElem_cons_succ]
          try simp only [List.getElem_cons_zero]
          try simp only [Act.put]
          try simp only [List.setIfInBounds_toArray]
          try simp only [List.set]
          refine wpAnyH_take (i := 6) (v := undef) rfl (by kernel_rfl) (by kernel_rfl) (by kernel_rfl) (fun _ _ _ h => h) (Or.inr ⟨by kernel_rfl, rfl⟩) hHeld ?_
          try simp only [List.getElem_toArray]
          try simp only [List.getElem_cons_succ]
          try simp only [List.getElem_cons_zero]
          try simp only [Act.put]
          try simp only [List.setIfInBounds_toArray]
          try simp only [List.set]
          refine wpAnyH_take (i := 7) (v := ?v45) rfl (by kernel_rfl) (by kernel_rfl) (by kernel_rfl) (fun _ _ _ h => h) (Or.inl ⟨by kernel_rfl, ?h45⟩) hHeld ?_
          case h45 => intro u hSw; obtain ⟨v0, v1, v2, v3, v4, v5, v6, v7, v8, v9⟩ := hSw.1; dsimp only at v0 v1 v2 v3 v4 v5 v6 v7 v8 v9; clear hSw; go_simp; try with_reducible rfl
          try simp only [List.getElem_toArray]
          try simp only [List.getElem_cons_succ]
          try simp only [List.getElem_cons_zero]
          try simp only [Act.put]
          try simp only [List.setIfInBounds_toArray]
          try simp only [List.set]
          refine wpAnyH_take (i := 8) (v := ?v46) rfl (by kernel_rfl) (by kernel_rfl) (by kernel_rfl) (fun _ _ _ h => h) (Or.inl ⟨by kernel_rfl, ?h46⟩) hHeld ?_
          case h46 => intro u hSw; obtain ⟨v0, v1, v2, v3, v4, v5, v6, v7, v8, v9⟩ := hSw.1; dsimp only at v0 v1 v2 v3 v4 v5 v6 v7 v8 v9; clear hSw; go_simp; try with_reducible rfl
          try simp only [List.getElem_toArray]
          try simp only [List.getElem_cons_succ]
          try simp only [List.getElem_cons_zero]
          try simp only [Act.put]
          try simp only [List.setIfInBounds_toArray]
          try simp only [List.set]
          refine wpAnyH_take (i := 9) (v := ?v47) rfl (by kernel_rfl) (by kernel_rfl) (by kernel_rfl) (fun _ _ _ h => h) (Or.inl ⟨by kernel_rfl, ?h47⟩) hHeld ?_
          case h47 => intro u hSw; obtain ⟨v0, v1, v2, v3, v4, v5, v6, v7, v8, v9⟩ := hSw.1; dsimp only at v0 v1 v2 v3 v4 v5 v6 v7 v8 v9; clear hSw; go_simp; try with_reducible rfl
          try simp only [List.getElem_toArray]
          try simp only [List.getElem_cons_succ]
          try simp only [List.getElem_cons_zero]
          try simp only [Act.put]
          try simp only [List.setIfInBounds_toArray]
          try simp only [List.set]
          refine wpAnyH_take (i := 10) (v := ?v48) rfl (by kernel_rfl) (by kernel_rfl) (by kernel_rfl) (fun _ _ _ h => h) (Or.inl ⟨by kernel_rfl, ?h48⟩) hHeld ?_
          case h48 => intro u hSw; obtain ⟨v0, v1, v2, v3, v4, v5, v6, v7, v8, v9⟩ := hSw.1; dsimp only at v0 v1 v2 v3 v4 v5 v6 v7 v8 v9; clear hSw; go_simp; try with_reducible rfl
          try simp only [List.getElem_toArray]
          try simp only [List.getElem_cons_succ]
          try simp only [List.getElem_cons_zero]
          try simp only [Act.put]
          try simp only [List.setIfInBounds_toArray]
          try simp only [List.set]
          refine wpAnyH_take (i := 11) (v := ?v49) rfl (by kernel_rfl) (by kernel_rfl) (by kernel_rfl) (fun _ _ _ h => h) (Or.inl ⟨by kernel_rfl, ?h49⟩) hHeld ?_
          case h49 => intro u hSw; obtain ⟨v0, v1, v2, v3, v4, v5, v6, v7, v8, v9⟩ := hSw.1; dsimp only at v0 v1 v2 v3 v4 v5 v6 v7 v8 v9; clear hSw; go_simp; try with_reducible rfl
          try simp only [List.getElem_toArray]
          try simp only [List.getElem_cons_succ]
          try simp only [List.getElem_cons_zero]
          try simp only [Act.put]
          try simp only [List.setIfInBounds_toArray]
          try simp only [List.set]
          refine wpAnyH_take (i := 12) (v := ?v50) rfl (by kernel_rfl) (by kernel_rfl) (by kernel_rfl) (fun _ _ _ h => h) (Or.inl ⟨by kernel_rfl, ?h50⟩) hHeld ?_
          case h50 => intro u hSw; obtain ⟨v0, v1, v2, v3, v4, v5, v6, v7, v8, v9⟩ := hSw.1; dsimp only at v0 v1 v2 v3 v4 v5 v6 v7 v8 v9; clear hSw; go_simp; try with_reducible rfl
          try simp only [List.getElem_toArray]
          try simp only [List.getElem_cons_succ]
          try simp only [List.getElem_cons_zero]
          try simp only [Act.put]
          try simp only [List.setIfInBounds_toArray]
          try simp only [List.set]
          refine wpAnyH_take (i := 13) (v := ?v51) rfl (by kernel_rfl) (by kernel_rfl) (by kernel_rfl) (fun _ _ _ h => h) (Or.inl ⟨by kernel_rfl, ?h51⟩) hHeld ?_
          case h51 => intro u hSw; obtain ⟨v0, v1, v2, v3, v4, v5, v6, v7, v8, v9⟩ := hSw.1; dsimp only at v0 v1 v2 v3 v4 v5 v6 v7 v8 v9; clear hSw; go_simp; try with_reducible rfl
          try simp only [List.getElem_toArray]
          try simp only [List.getElem_cons_succ]
          try simp only [List.getElem_cons_zero]
          try simp only [Act.put]
          try simp only [List.setIfInBounds_toArray]
          try simp only [List.set]
          refine wpAnyH_take (i := 14) (v := ?v52) rfl (by kernel_rfl) (by kernel_rfl) (by kernel_rfl) (fun _ _ _ h => h) (Or.inl ⟨by kernel_rfl, ?h52⟩) hHeld ?_
          case h52 => intro u hSw; obtain ⟨v0, v1, v2, v3, v4, v5, v6, v7, v8, v9⟩ := hSw.1; dsimp only at v0 v1 v2 v3 v4 v5 v6 v7 v8 v9; clear hSw; go_simp; try with_reducible rfl
          try simp only [List.getElem_toArray]
          try simp only [List.getElem_cons_succ]
          try simp only [List.getElem_cons_zero]
          try simp only [Act.put]
          try simp only [List.setIfInBounds_toArray]
          try simp only [List.set]
          refine wpAnyH_take (i := 15) (v := ?v53) rfl (by kernel_rfl) (by kernel_rfl) (by kernel_rfl) (fun _ _ _ h => h) (Or.inl ⟨by kernel_rfl, ?h53⟩) hHeld ?_
          case h53 => intro u hSw; obtain ⟨v0, v1, v2, v3, v4, v5, v6, v7, v8, v9⟩ := hSw.1; dsimp only at v0 v1 v2 v3 v4 v5 v6 v7 v8 v9; clear hSw; go_simp; try with_reducible rfl
          try simp only [List.getElem_toArray]
          try simp only [List.getElem_cons_succ]
          try simp only [List.getElem_cons_zero]
          try simp only [Act.put]
          try simp only [List.setIfInBounds_toArray]
          try simp only [List.set]
          refine wpAnyH_take (i := 16) (v := ?v54) rfl (by kernel_rfl) (by kernel_rfl) (by kernel_rfl) (fun _ _ _ h => h) (Or.inl ⟨by kernel_rfl, ?h54⟩) hHeld ?_
          case h54 => intro u hSw; obtain ⟨v0, v1, v2, v3, v4, v5, v6, v7, v8, v9⟩ := hSw.1; dsimp only at v0 v1 v2 v3 v4 v5 v6 v7 v8 v9; clear hSw; go_simp; try with_reducible rfl
          try simp only [List.getElem_toArray]
          try simp only [List.getElem_cons_succ]
          try simp only [List.getElem_cons_zero]
          try simp only [Act.put]
          try simp only [List.setIfInBounds_toArray]
          try simp only [List.set]
          refine wpAnyH_take (i := 19) (v := ?v55) rfl (by kernel_rfl) (by kernel_rfl) (by kernel_rfl) (fun _ _ _ h => h) (Or.inl ⟨by kernel_rfl, ?h55⟩) hHeld ?_
          case h55 => intro u hSw; obtain ⟨v0, v1, v2, v3, v4, v5, v6, v7, v8, v9⟩ := hSw.1; dsimp only at v0 v1 v2 v3 v4 v5 v6 v7 v8 v9; clear hSw; go_simp; try with_reducible rfl
          try simp only [List.getElem_toArray]
          try simp only [List.getElem_cons_succ]
          try simp only [List.getElem_cons_zero]
          try simp only [Act.put]
          try simp only [List.setIfInBounds_toArray]
          try simp only [List.set]
          refine wpAnyH_take (i := 17) (v := ?v56) rfl (by kernel_rfl) (by kernel_rfl) (by kernel_rfl) (fun _ _ _ h => h) (Or.inl ⟨by kernel_rfl, ?h56⟩) hHeld ?_
          case h56 => intro u hSw; obtain ⟨v0, v1, v2, v3, v4, v5, v6, v7, v8, v9⟩ := hSw.1; dsimp only at v0 v1 v2 v3 v4 v5 v6 v7 v8 v9; clear hSw; go_simp; try with_reducible rfl
          try simp only [List.getElem_toArray]
          try simp only [List.getElem_cons_succ]
          try simp only [List.getElem_cons_zero]
          try simp only [Act.put]
          try simp only [List.setIfInBounds_toArray]
          try simp only [List.set]
          refine wpAnyH_take (i := 20) (v := ?v57) rfl (by kernel_rfl) (by kernel_rfl) (by kernel_rfl) (fun _ _ _ h => h) (Or.inl ⟨by kernel_rfl, ?h57⟩) hHeld ?_
          case h57 => intro u hSw; obtain ⟨v0, v1, v2, v3, v4, v5, v6, v7, v8, v9⟩ := hSw.1; dsimp only at v0 v1 v2 v3 v4 v5 v6 v7 v8 v9; clear hSw; go_simp; try with_reducible rfl
          try simp only [List.getElem_toArray]
          try simp only [List.getElem_cons_succ]
          try simp only [List.getElem_cons_zero]
          try simp only [Act.put]
          try simp only [List.setIfInBounds_toArray]
          try simp only [List.set]
          refine wpAnyH_ready (rs := [18]) (by kernel_rfl) (by simp) ?_
          refine AllReadyH.cons rfl (fun K hK => ?_) AllReadyH.nil
          go_simp
          go_wp2_with (go_at_call 45; refine (keyOf_any _ _ _ _ _).mono ?_; rintro e W7 ⟨rfl, gg⟩)
          refine hK.out _ _ (⟨hHeld.1.below gg hHeld.1.lt, hHeld.2.trans (gg.mono hHeld.2.size)⟩) (fun hHeld => ?_)
          clear hK K
          clear gg
          try simp only [Act.put]
          try simp only [List.setIfInBounds_toArray]
          try simp only [List.set]
          refine wpAnyH_ready (rs := [21]) (by kernel_rfl) (by simp) ?_
          refine AllReadyH.cons rfl (fun K hK => ?_) AllReadyH.nil
          go_simp
          go_wp2_with (go_at_call 45; refine (keyOf_any _ _ _ _ _).mono ?_; rintro e W8 ⟨rfl, gg⟩)
          refine hK.out _ _ (⟨hHeld.1.below gg hHeld.1.lt, hHeld.2.trans (gg.mono hHeld.2.size)⟩) (fun hHeld => ?_)
          clear hK K
          clear gg
          try simp only [Act.put]
          try simp only [List.setIfInBounds_toArray]
          try simp only [List.set]
          refine wpAnyH_take (i := 22) (v := ?v58) rfl (by kernel_rfl) (by kernel_rfl) (by kernel_rfl) (fun _ _ _ h => h) (Or.inl ⟨by kernel_rfl, ?h58⟩) hHeld ?_
          case h58 => intro u hSw; obtain ⟨v0, v1, v2, v3, v4, v5, v6, v7, v8, v9⟩ := hSw.1; dsimp only at v0 v1 v2 v3 v4 v5 v6 v7 v8 v9; clear hSw; go_simp; try with_reducible rfl
          try simp only [List.getElem_toArray]
          try simp only [List.getElem_cons_succ]
          try simp only [List.getElem_cons_zero]
          try simp only [Act.put]
          try simp only [List.setIfInBounds_toArray]
          try simp only [List.set]
          refine wpAnyH_take (i := 23) (v := ?v59) rfl (by kernel_rfl) (by kernel_rfl) (by kernel_rfl) (fun _ _ _ h => h) (Or.inl ⟨by kernel_rfl, ?h59⟩) hHeld ?_
          case h59 => intro u hSw; obtain ⟨v0, v1, v2, v3, v4, v5, v6, v7, v8, v9⟩ := hSw.1; dsimp only at v0 v1 v2 v3 v4 v5 v6 v7 v8 v9; clear hSw; go_simp; try with_reducible rfl
          try simp only [List.getElem_toArray]
          try simp only [List.getElem_cons_succ]
          try simp only [List.getElem_cons_zero]
          try simp only [Act.put]
          try simp only [List.setIfInBounds_toArray]
          try simp only [List.set]
          refine wpAnyH_take (i := 24) (v := ?v60) rfl (by kernel_rfl) (by kernel_rfl) (by kernel_rfl) (fun _ _ _ h => h) (Or.inl ⟨by kernel_rfl, ?h60⟩) hHeld ?_
          case h60 => intro u hSw; obtain ⟨v0, v1, v2, v3, v4, v5, v6, v7, v8, v9⟩ := hSw.1; dsimp only at v0 v1 v2 v3 v4 v5 v6 v7 v8 v9; clear hSw; go_simp; try with_reducible rfl
          try simp only [List.getElem_toArray]
          try simp only [List.getElem_cons_succ]
          try simp only [List.getElem_cons_zero]
          try simp only [Act.put]
          try simp only [List.setIfInBounds_toArray]
          try simp only [List.set]
          refine wpAnyH_done (by kernel_rfl) ?_ _
          obtain ⟨Z, g⟩ := hHeld
          go_wp2_with fail
          go_ret
          exact ⟨by rw [HE.out]; rfl, g⟩
      · have HE : Hid (chQ ⟨true, ⟨bt, bk, bv, bs⟩, true, ⟨at', ak, av, sa⟩⟩ = 1) := by show _ = _; simp [chQ, ht]
        have d : (bt == at') = false := by simpa using ht
        go_enter Try.func38, Try.ntmps38
        go_upto_region 1 with (fail)
        refine wp_region_held_drew (S := fun V => ChC V w.heap.size 0 ⟨true, ⟨bt, bk, bv, bs⟩, true, ⟨at', ak, av, sa⟩⟩ ∧ Below w.heap.size w V) (by kernel_rfl) ⟨Z.below (Below.refl _ _).drew Z.lt, gY.trans (Below.refl _ _).drew⟩ (fun hHeld => ?_)
        clear hY Z gY
        generalize Y.drew = D at hHeld ⊢
        refine wpAnyH_take (i := 0) (v := ?v61) rfl (by kernel_rfl) (by kernel_rfl) (by kernel_rfl) (fun _ _ _ h => h) (Or.inl ⟨by kernel_rfl, ?h61⟩) hHeld ?_
        case h61 => intro u hSw; obtain ⟨v0, v1, v2, v3, v4, v5, v6, v7, v8, v9⟩ := hSw.1; dsimp only at v0 v1 v2 v3 v4 v5 v6 v7 v8 v9; clear hSw; go_simp; try with_reducible rfl
        try simp only [List.getElem_toArray]
        try simp only [List.getElem_cons_succ]
        try simp only [List.getElem_cons_zero]
        try simp only [Act.put]
        try simp only [List.setIfInBounds_toArray]
        try simp only [List.set]
        refine wpAnyH_take (i := 1) (v := ?v62) rfl (by kernel_rfl) (by kernel_rfl) (by kernel_rfl) (fun _ _ _ h => h) (Or.inl ⟨by kernel_rfl, ?h62⟩) hHeld ?_
        case h62 => intro u hSw; obtain ⟨v0, v1, v2, v3, v4, v5, v6, v7, v8, v9⟩ := hSw.1; dsimp only at v0 v1 v2 v3 v4 v5 v6 v7 v8 v9; clear hSw; go_simp; try with_reducible rfl
        try simp only [List.getElem_toArray]
        try simp only [List.getElem_cons_succ]
        try simp only [List.getElem_cons_zero]
        try simp only [Act.put]
        try simp only [List.setIfInBounds_toArray]
        try simp only [List.set]
        refine wpAnyH_take (i := 2) (v := ?v63) rfl (by kernel_rfl) (by kernel_rfl) (by kernel_rfl) (fun _ _ _ h => h) (Or.inl ⟨by kernel_rfl, ?h63⟩) hHeld ?_
        case h63 => intro u hSw; obtain ⟨v0, v1, v2, v3, v4, v5, v6, v7, v8, v9⟩ := hSw.1; dsimp only at v0 v1 v2 v3 v4 v5 v6 v7 v8 v9; clear hSw; go_simp; try with_reducible rfl
        try simp only [List.getElem_toArray]
        try simp only [List.getElem_cons_succ]
        try simp only [List.getElem_cons_zero]
        try simp only [Act.put]
        try simp only [List.setIfInBounds_toArray]
        try simp only [List.set]
        refine wpAnyH_take (i := 3) (v := ?v64) rfl (by kernel_rfl) (by kernel_rfl) (by kernel_rfl) (fun _ _ _ h => h) (Or.inl ⟨by kernel_rfl, ?h64⟩) hHeld ?_
        case h64 => intro u hSw; obtain ⟨v0, v1, v2, v3, v4, v5, v6, v7, v8, v9⟩ := hSw.1; dsimp only at v0 v1 v2 v3 v4 v5 v6 v7 v8 v9; clear hSw; go_simp; try with_reducible rfl
        try simp only [List.getElem_toArray]
        try simp only [List.getElem_cons_succ]
        try simp only [List.getElem_cons_zero]
        try simp only [Act.put]
        try simp only [List.setIfInBounds_toArray]
        try simp only [List.set]
        refine wpAnyH_take (i := 4) (v := undef) rfl (by kernel_rfl) (by kernel_rfl) (by kernel_rfl) (fun _ _ _ h => h) (Or.inr ⟨by kernel_rfl, rfl⟩) hHeld ?_
        try simp only [List.getElem_toArray]
        try simp only [List.getElem_cons_succ]
        try simp only [List.getElem_cons_zero]
        try simp only [Act.put]
        try simp only [List.setIfInBounds_toArray]
        try simp only [List.set]
        refine wpAnyH_take (i := 5) (v := undef) rfl (by kernel_rfl) (by kernel_rfl) (by kernel_rfl) (fun _ _ _ h => h) (Or.inr ⟨by kernel_rfl, rfl⟩) hHeld ?_
        try simp only [List.getElem_toArray]
        try simp only [List.getElem_cons_succ]
        try simp only [List.getElem_cons_zero]
        try simp only [Act.put]
        try simp only [List.setIfInBounds_toArray]
        try simp only [List.set]
        refine wpAnyH_take (i := 6) (v := undef) rfl (by kernel_rfl) (by kernel_rfl) (by kernel_rfl) (fun _ _ _ h => h) (Or.inr ⟨by kernel_rfl, rfl⟩) hHeld ?_
        try simp only [List.getElem_toArray]
        try simp only [List.getElem_cons_succ]
        try simp only [List.getElem_cons_zero]
        try simp only [Act.put]
        try simp only [List.setIfInBounds_toArray]
        try simp only [List.set]
        refine wpAnyH_take (i := 7) (v := ?v65) rfl (by kernel_rfl) (by kernel_rfl) (by kernel_rfl) (fun _ _ _ h => h) (Or.inl ⟨by kernel_rfl, ?h65⟩) hHeld ?_
        case h65 => intro u hSw; obtain ⟨v0, v1, v2, v3, v4, v5, v6, v7, v8, v9⟩ := hSw.1; dsimp only at v0 v1 v2 v3 v4 v5 v6 v7 v8 v9; clear hSw; go_simp; try with_reducible rfl
        try simp only [List.getElem_toArray]
        try simp only [List.getElem_cons_succ]
        try simp only [List.getElem_cons_zero]
        try simp only [Act.put]
        try simp only [List.setIfInBounds_toArray]
        try simp only [List.set]
        refine wpAnyH_take (i := 8) (v := ?v66) rfl (by kernel_rfl) (by kernel_rfl) (by kernel_rfl) (fun _ _ _ h => h) (Or.inl ⟨by kernel_rfl, ?h66⟩) hHeld ?_
        case h66 => intro u hSw; obtain ⟨v0, v1, v2, v3, v4, v5, v6, v7, v8, v9⟩ := hSw.1; dsimp only at v0 v1 v2 v3 v4 v5 v6 v7 v8 v9; clear hSw; go_simp; try with_reducible rfl
        try simp only [List.getElem_toArray]
        try simp only [List.getElem_cons_succ]
        try simp only [List.getElem_cons_zero]
        try simp only [Act.put]
        try simp only [List.setIfInBounds_toArray]
        try simp only [List.set]
        refine wpAnyH_take (i := 9) (v := ?v67) rfl (by kernel_rfl) (by kernel_rfl) (by kernel_rfl) (fun _ _ _ h => h) (Or.inl ⟨by kernel_rfl, ?h67⟩) hHeld ?_
        case h67 => intro u hSw; obtain ⟨v0, v1, v2, v3, v4, v5, v6, v7, v8, v9⟩ := hSw.1; dsimp only at v0 v1 v2 v3 v4 v5 v6 v7 v8 v9; clear hSw; go_simp; try with_reducible rfl
        try simp only [List.getElem_toArray]
        try simp only [List.getElem_cons_succ]
        try simp only [List.getElem_cons_zero]
        try simp only [Act.put]
        try simp only [List.setIfInBounds_toArray]
        try simp only [List.set]
        refine wpAnyH_take (i := 10) (v := ?v68) rfl (by kernel_rfl) (by kernel_rfl) (by kernel_rfl) (fun _ _ _ h => h) (Or.inl ⟨by kernel_rfl, ?h68⟩) hHeld ?_
        case h68 => intro u hSw; obtain ⟨v0, v1, v2, v3, v4, v5, v6, v7, v8, v9⟩ := hSw.1; dsimp only at v0 v1 v2 v3 v4 v5 v6 v7 v8 v9; clear hSw; go_simp; try with_reducible rfl
        try simp only [List.getElem_toArray]
        try simp only [List.getElem_cons_succ]
        try simp only [List.getElem_cons_zero]
        try simp only [Act.put]
        try simp only [List.setIfInBounds_toArray]
        try simp only [List.set]
        refine wpAnyH_take (i := 11) (v := ?v69) rfl (by kernel_rfl) (by kernel_rfl) (by kernel_rfl) (fun _ _ _ h => h) (Or.inl ⟨by kernel_rfl, ?h69⟩) hHeld ?_
        case h69 => intro u hSw; obtain ⟨v0, v1, v2, v3, v4, v5, v6, v7, v8, v9⟩ := hSw.1; dsimp only at v0 v1 v2 v3 v4 v5 v6 v7 v8 v9; clear hSw; go_simp; try with_reducible rfl
        try simp only [List.getElem_toArray]
        try simp only [List.getElem_cons_succ]
        try simp only [List.getElem_cons_zero]
        try simp only [Act.put]
        try simp only [List.setIfInBounds_toArray]
        try simp only [List.set]
        refine wpAnyH_take (i := 12) (v := ?v70) rfl (by kernel_rfl) (by kernel_rfl) (by kernel_rfl) (fun _ _ _ h => h) (Or.inl ⟨by kernel_rfl, ?h70⟩) hHeld ?_
        case h70 => intro u hSw; obtain ⟨v0, v1, v2, v3, v4, v5, v6, v7, v8, v9⟩ := hSw.1; dsimp only at v0 v1 v2 v3 v4 v5 v6 v7 v8 v9; clear hSw; go_simp; try with_reducible rfl
        try simp only [List.getElem_toArray]
        try simp only [List.getElem_cons_succ]
        try simp only [List.getElem_cons_zero]
        try simp only [Act.put]
        try simp only [List.setIfInBounds_toArray]
        try simp only [List.set]
        refine wpAnyH_take (i := 13) (v := ?v71) rfl (by kernel_rfl) (by kernel_rfl) (by kernel_rfl) (fun _ _ _ h => h) (Or.inl ⟨by kernel_rfl, ?h71⟩) hHeld ?_
        case h71 => intro u hSw; obtain ⟨v0, v1, v2, v3, v4, v5, v6, v7, v8, v9⟩ := hSw.1; dsimp only at v0 v1 v2 v3 v4 v5 v6 v7 v8 v9; clear hSw; go_simp; try with_reducible rfl
        try simp only [List.getElem_toArray]
        try simp only [List.getElem_cons_succ]
        try simp only [List.getElem_cons_zero]
        try simp only [Act.put]
        try simp only [List.setIfInBounds_toArray]
        try simp only [List.set]
        refine wpAnyH_take (i := 14) (v := ?v72) rfl (by kernel_rfl) (by kernel_rfl) (by kernel_rfl) (fun _ _ _ h => h) (Or.inl ⟨by kernel_rfl, ?h72⟩) hHeld ?_
        case h72 => intro u hSw; obtain ⟨v0, v1, v2, v3, v4, v5, v6, v7, v8, v9⟩ := hSw.1; dsimp only at v0 v1 v2 v3 v4 v5 v6 v7 v8 v9; clear hSw; go_simp; try with_reducible rfl
        try simp only [List.getElem_toArray]
        try simp only [List.getElem_cons_succ]
        try simp only [List.getElem_cons_zero]
        try simp only [Act.put]
        try simp only [List.setIfInBounds_toArray]
        try simp only [List.set]
        refine wpAnyH_take (i := 15) (v := ?v73) rfl (by kernel_rfl) (by kernel_rfl) (by kernel_rfl) (fun _ _ _ h => h) (Or.inl ⟨by kernel_rfl, ?h73⟩) hHeld ?_
        case h73 => intro u hSw; obtain ⟨v0, v1, v2, v3, v4, v5, v6, v7, v8, v9⟩ := hSw.1; dsimp only at v0 v1 v2 v3 v4 v5 v6 v7 v8 v9; clear hSw; go_simp; try with_reducible rfl
        try simp only [List.getElem_toArray]
        try simp only [List.getElem_cons_succ]
        try simp only [List.getElem_cons_zero]
        try simp only [Act.put]
        try simp only [List.setIfInBounds_toArray]
        try simp only [List.set]
        refine wpAnyH_take (i := 16) (v := ?v74) rfl (by kernel_rfl) (by kernel_rfl) (by kernel_rfl) (fun _ _ _ h => h) (Or.inl ⟨by kernel_rfl, ?h74⟩) hHeld ?_
        case h74 => intro u hSw; obtain ⟨v0, v1, v2, v3, v4, v5, v6, v7, v8, v9⟩ := hSw.1; dsimp only at v0 v1 v2 v3 v4 v5 v6 v7 v8 v9; clear hSw; go_simp; try with_reducible rfl
        try simp only [List.getElem_toArray]
        try simp only [List.getElem_cons_succ]
        try simp only [List.getElem_cons_zero]
        try simp only [Act.put]
        try simp only [List.setIfInBounds_toArray]
        try simp only [List.set]
        refine wpAnyH_take (i := 19) (v := ?v75) rfl (by kernel_rfl) (by kernel_rfl) (by kernel_rfl) (fun _ _ _ h => h) (Or.inl ⟨by kernel_rfl, ?h75⟩) hHeld ?_
        case h75 => intro u hSw; obtain ⟨v0, v1, v2, v3, v4, v5, v6, v7, v8, v9⟩ := hSw.1; dsimp only at v0 v1 v2 v3 v4 v5 v6 v7 v8 v9; clear hSw; go_simp; try with_reducible rfl
        try simp only [List.getElem_toArray]
        try simp only [List.getElem_cons_succ]
        try simp only [List.getElem_cons_zero]
        try simp only [Act.put]
        try simp only [List.setIfInBounds_toArray]
        try simp only [List.set]
        refine wpAnyH_take (i := 17) (v := ?v76) rfl (by kernel_rfl) (by kernel_rfl) (by kernel_rfl) (fun _ _ _ h => h) (Or.inl ⟨by kernel_rfl, ?h76⟩) hHeld ?_
        case h76 => intro u hSw; obtain ⟨v0, v1, v2, v3, v4, v5, v6, v7, v8, v9⟩ := hSw.1; dsimp only at v0 v1 v2 v3 v4 v5 v6 v7 v8 v9; clear hSw; go_simp; try with_reducible rfl
        try simp only [List.getElem_toArray]
        try simp only [List.getElem_cons_succ]
        try simp only [List.getElem_cons_zero]
        try simp only [Act.put]
        try simp only [List.setIfInBounds_toArray]
        try simp only [List.set]
        refine wpAnyH_take (i := 20) (v := ?v77) rfl (by kernel_rfl) (by kernel_rfl) (by kernel_rfl) (fun _ _ _ h => h) (Or.inl ⟨by kernel_rfl, ?h77⟩) hHeld ?_
        case h77 => intro u hSw; obtain ⟨v0, v1, v2, v3, v4, v5, v6, v7, v8, v9⟩ := hSw.1; dsimp only at v0 v1 v2 v3 v4 v5 v6 v7 v8 v9; clear hSw; go_simp; try with_reducible rfl
        try simp only [List.getElem_toArray]
        try simp only [List.getElem_cons_succ]
        try simp only [List.getElem_cons_zero]
        try simp only [Act.put]
        try simp only [List.setIfInBounds_toArray]
        try simp only [List.set]
        refine wpAnyH_ready (rs := [18]) (by kernel_rfl) (by simp) ?_
        refine AllReadyH.cons rfl (fun K hK => ?_) AllReadyH.nil
        go_simp
        go_wp2_with (go_at_call 45; refine (keyOf_any _ _ _ _ _).mono ?_; rintro e W7 ⟨rfl, gg⟩)
        refine hK.out _ _ (⟨hHeld.1.below gg hHeld.1.lt, hHeld.2.trans (gg.mono hHeld.2.size)⟩) (fun hHeld => ?_)
        clear hK K
        clear gg
        try simp only [Act.put]
        try simp only [List.setIfInBounds_toArray]
        try simp only [List.set]
        refine wpAnyH_ready (rs := [21]) (by kernel_rfl) (by simp) ?_
        refine AllReadyH.cons rfl (fun K hK => ?_) AllReadyH.nil
        go_simp
        go_wp2_with (go_at_call 45; refine (keyOf_any _ _ _ _ _).mono ?_; rintro e W8 ⟨rfl, gg⟩)
        refine hK.out _ _ (⟨hHeld.1.below gg hHeld.1.lt, hHeld.2.trans (gg.mono hHeld.2.size)⟩) (fun hHeld => ?_)
        clear hK K
        clear gg
        try simp only [Act.put]
        try simp only [List.setIfInBounds_toArray]
        try simp only [List.set]
        refine wpAnyH_take (i := 22) (v := ?v78) rfl (by kernel_rfl) (by kernel_rfl) (by kernel_rfl) (fun _ _ _ h => h) (Or.inl ⟨by kernel_rfl, ?h78⟩) hHeld ?_
        case h78 => intro u hSw; obtain ⟨v0, v1, v2, v3, v4, v5, v6, v7, v8, v9⟩ := hSw.1; dsimp only at v0 v1 v2 v3 v4 v5 v6 v7 v8 v9; clear hSw; go_simp; try with_reducible rfl
        try simp only [List.getElem_toArray]
        try simp only [List.getElem_cons_succ]
        try simp only [List.getElem_cons_zero]
        try simp only [Act.put]
        try simp only [List.setIfInBounds_toArray]
        try simp only [List.set]
        refine wpAnyH_take (i := 23) (v := ?v79) rfl (by kernel_rfl) (by kernel_rfl) (by kernel_rfl) (fun _ _ _ h => h) (Or.inl ⟨by kernel_rfl, ?h79⟩) hHeld ?_
        case h79 => intro u hSw; obtain ⟨v0, v1, v2, v3, v4, v5, v6, v7, v8, v9⟩ := hSw.1; dsimp only at v0 v1 v2 v3 v4 v5 v6 v7 v8 v9; clear hSw; go_simp; try with_reducible rfl
        try simp only [List.getElem_toArray]
        try simp only [List.getElem_cons_succ]
        try simp only [List.getElem_cons_zero]
        try simp only [Act.put]
        try simp only [List.setIfInBounds_toArray]
        try simp only [List.set]
        refine wpAnyH_take (i := 24) (v := ?v80) rfl (by kernel_rfl) (by kernel_rfl) (by kernel_rfl) (fun _ _ _ h => h) (Or.inl ⟨by kernel_rfl, ?h80⟩) hHeld ?_
        case h80 => intro u hSw; obtain ⟨v0, v1, v2, v3, v4, v5, v6, v7, v8, v9⟩ := hSw.1; dsimp only at v0 v1 v2 v3 v4 v5 v6 v7 v8 v9; clear hSw; go_simp; try with_reducible rfl
        try simp only [List.getElem_toArray]
        try simp only [List.getElem_cons_succ]
        try simp only [List.getElem_cons_zero]
        try simp only [Act.put]
        try simp only [List.setIfInBounds_toArray]
        try simp only [List.set]
        refine wpAnyH_done (by kernel_rfl) ?_ _
        obtain ⟨Z, g⟩ := hHeld
        go_wp2_with fail
        go_ret
        exact ⟨by rw [HE.out]; rfl, g⟩

end Go.Proofs.Ytmbllmhpnopbdaa
