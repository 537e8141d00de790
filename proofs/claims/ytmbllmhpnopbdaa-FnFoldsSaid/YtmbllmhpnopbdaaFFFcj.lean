/-
  The program's foldedFault.
-/
import Derived.Test.YtmbllmhpnopbdaaFFFci

namespace Go.Proofs.Ytmbllmhpnopbdaa
open Go.RowKit Go.Maps
set_option linter.unusedVariables false
set_option maxRecDepth 20000

theorem kLt_cp (x y : Chg) : kLt x y = decide (orI (cpI (kT x) (kT y)) (cpI (kK x) (kK y)) < 0) := by
  unfold kLt orI cpI
  by_cases h1 : kT x < kT y
  · simp [h1]
  · by_cases h2 : kT y < kT x
    · simp [h1, h2]; omega
    · have h3 : kT x = kT y := by omega
      by_cases h4 : kK x < kK y
      · simp [h3, h4]
      · by_cases h5 : kK y < kK x
        · simp [h3, h4, h5]
        · simp [h3, h4, h5]

set_option maxHeartbeats 8000000 in
theorem foldedFault_any (a : Option Addr) (cs : List Chg) (n c : Nat) (w : World) (hn : cs.length = n) (hm : n ≤ 9223372036854775807) (hs : ∀ x ∈ cs, x.b.s.size ≤ maxLen ∧ x.a.s.size ≤ maxLen) (hr : Rs chE 10 w a cs) :
    Calls Try.prog 19 #[.slice a n c] w fun e w' => e = .returned (.int .i64 (fdQ cs)) ∧ Below w.heap.size w w' := by
  by_cases h60 : (60 : Int) < n
  · have HQ : Hid (fdQ cs = 2) := by show _ = _; unfold fdQ; rw [if_pos (by omega)]
    go_enter Try.func19, Try.ntmps19
    go_wp2_with fail
    go_ret
    exact ⟨by rw [HQ.out]; rfl, Below.refl _ _⟩
  have HQ : Hid (fdQ cs = flQ none cs) := by show _ = _; unfold fdQ; rw [if_neg (by omega)]
  have HN : Hid (cs.length = n) := hn
  have HR : Hid (Rs chE 10 w a cs) := hr
  have HS : Hid (∀ x ∈ cs, x.b.s.size ≤ maxLen ∧ x.a.s.size ≤ maxLen) := hs
  have d60 : decide ((60 : Int) < n) = false := by simpa using h60
  have hn60 : n ≤ 60 := by omega
  obtain ⟨Q, hQ0⟩ : ∃ Q, fdQ cs = Q := ⟨_, rfl⟩
  have HQ : Hid (flQ none cs = Q) := by show _ = _; rw [← HQ.out, hQ0]
  rw [hQ0]
  clear hn hr hs h60 hQ0
  go_enter Try.func19, Try.ntmps19
  go_wp2_with fail
  go_loopw [11] (fun i wr => ∃ j : Nat, j ≤ n ∧ i = .int .i64 j ∧ Hid (flQ (prv cs j) (cs.drop j) = Q) ∧ Below w.heap.size w wr) (fun i _ => n - (intOf i).toNat)
  case atStart => exact ⟨0, Nat.zero_le _, rfl, HQ.out, Below.refl _ _⟩
  case round =>
    obtain ⟨j, hj, rfl, hq, g⟩ := hrel
    by_cases hlt : j < n
    · obtain ⟨x, hx⟩ : ∃ x, cs[j]? = some x := ⟨_, List.getElem?_eq_getElem (by rw [HN.out]; exact hlt)⟩
      obtain ⟨b, off, rfl⟩ : ∃ b off, a = some ⟨b, off, none⟩ := by
        obtain ⟨b, off, e, _⟩ := HR.out.chg hx
        exact ⟨b, off, e⟩
      have E : ChC wr b (off + j * 10) x := by
        have h1 := HR.out.chgAt hx
        exact h1.below g h1.lt
      obtain ⟨hz1, hz2⟩ := HS.out x (List.mem_of_getElem? hx)
      have hjn : (j : Int) < (n : Int) := by omega
      have hq := flQ_at hx ▸ hq.out
      have HQ1 : Hid ((if alQ x = 0 then (if (prv cs j).all (fun y => kLt y x) = true then flQ (prv cs (j + 1)) (cs.drop (j + 1)) else 1) else alQ x) = Q) := hq
      clear hq hx
      obtain ⟨x0, ⟨bt, bk, bv, bs⟩, x5, ⟨at', ak, av, sa⟩⟩ := x
      obtain ⟨e0, e1, e2, e3, e4, e5, e6, e7, e8, e9⟩ := E
      dsimp only at e0 e1 e2 e3 e4 e5 e6 e7 e8 e9 hz1 hz2
      go_upto_region 6 with (fail)
      generalize hY : World.alloc _ _ = Y
      have gY : Below wr.heap.size wr Y := by rw [← hY]; go_grown
      have Z : ChC Y wr.heap.size 0 (⟨x0, ⟨bt, bk, bv, bs⟩, x5, ⟨at', ak, av, sa⟩⟩ : Chg) := by rw [← hY]; exact ⟨by simp [go_sem], by simp [go_sem], by simp [go_sem], by simp [go_sem], by simp [go_sem], by simp [go_sem], by simp [go_sem], by simp [go_sem], by simp [go_sem], by simp [go_sem]⟩
      have g := g.trans (gY.mono g.size)
      clear hY gY e0 e1 e2 e3 e4 e5 e6 e7 e8 e9
      generalize wr.heap.size = xb at Z ⊢
      have hal := aloneFault_any x0 bt bk bv bs x5 at' ak av sa Y hz1 hz2
      obtain ⟨f, hf⟩ : ∃ f, alQ (⟨x0, ⟨bt, bk, bv, bs⟩, x5, ⟨at', ak, av, sa⟩⟩ : Chg) = f := ⟨_, rfl⟩
      rw [hf] at hal
      have HF : Hid (alQ (⟨x0, ⟨bt, bk, bv, bs⟩, x5, ⟨at', ak, av, sa⟩⟩ : Chg) = f) := hf
      clear hf
      obtain ⟨z0, z1, z2, z3, z4, z5, z6, z7, z8, z9⟩ := Z
      dsimp only at z0 z1 z2 z3 z4 z5 z6 z7 z8 z9
      go_wp2_with (go_at_call 20; refine hal.mono ?_)
      rintro e W ⟨rfl, g1⟩
      have Z : ChC W xb 0 (⟨x0, ⟨bt, bk, bv, bs⟩, x5, ⟨at', ak, av, sa⟩⟩ : Chg) := ChC.below (w := Y) ⟨z0, z1, z2, z3, z4, z5, z6, z7, z8, z9⟩ g1 (World.block_lt_of_cell? _ _ z0)
      have g := g.trans (g1.mono g.size)
      clear z0 z1 z2 z3 z4 z5 z6 z7 z8 z9 g1 hal
      by_cases hf0 : f = 0
      · have d0 : (f != 0) = false := by simpa using hf0
        have HQ2 : Hid ((if (prv cs j).all (fun y => kLt y (⟨x0, ⟨bt, bk, bv, bs⟩, x5, ⟨at', ak, av, sa⟩⟩ : Chg)) = true then flQ (prv cs (j + 1)) (cs.drop (j + 1)) else 1) = Q) := by show _ = _; rw [← HQ1.out, if_pos (HF.out.trans hf0)]
        clear HQ1
        by_cases hj0 : j = 0
        · subst hj0
          have hqn : Hid (flQ (prv cs (0 + 1)) (cs.drop (0 + 1)) = Q) := by show _ = _; rw [← HQ2.out, prv_zero]; rfl
          clear Z HQ2
          go_upto_region 9 with (fail)
          refine wp_region_held_drew (S := fun V => Below w.heap.size w V) (by kernel_rfl) g.drew (fun hHeld => ?_)
          clear g
          generalize W.drew = D at hHeld ⊢
          refine wpAnyH_take (i := 0) (v := ?v1) rfl (by kernel_rfl) (by kernel_rfl) (by kernel_rfl) (fun _ _ _ h => h) (Or.inl ⟨by kernel_rfl, ?h1⟩) hHeld ?_
          case h1 => intro u hSw; clear hSw; go_simp; try with_reducible rfl
          try simp only [List.getElem_toArray]
          try simp only [List.getElem_cons_succ]
          try simp only [List.getElem_cons_zero]
          try simp only [Act.put]
          try simp only [List.setIfInBounds_toArray]
          try simp only [List.set]
          refine wpAnyH_take (i := 1) (v := ?v2) rfl (by kernel_rfl) (by kernel_rfl) (by kernel_rfl) (fun _ _ _ h => h) (Or.inl ⟨by kernel_rfl, ?h2⟩) hHeld ?_
          case h2 => intro u hSw; clear hSw; go_simp; try with_reducible rfl
          try simp only [List.getElem_toArray]
          try simp only [List.getElem_cons_succ]
          try simp only [List.getElem_cons_zero]
          try simp only [Act.put]
          try simp only [List.setIfInBounds_toArray]
          try simp only [List.set]
          refine wpAnyH_take (i := 2) (v := ?v3) rfl (by kernel_rfl) (by kernel_rfl) (by kernel_rfl) (fun _ _ _ h => h) (Or.inl ⟨by kernel_rfl, ?h3⟩) hHeld ?_
          case h3 => intro u hSw; clear hSw; go_simp; try with_reducible rfl
          try simp only [List.getElem_toArray]
          try simp only [List.getElem_cons_succ]
          try simp only [List.getElem_cons_zero]
          try simp only [Act.put]
          try simp only [List.setIfInBounds_toArray]
          try simp only [List.set]
          refine wpAnyH_take (i := 3) (v := undef) rfl (by kernel_rfl) (by kernel_rfl) (by kernel_rfl) (fun _ _ _ h => h) (Or.inr ⟨by kernel_rfl, rfl⟩) hHeld ?_
          try simp only [List.getElem_toArray]
          try simp only [List.getElem_cons_succ]
          try simp only [List.getElem_cons_zero]
          try simp only [Act.put]
          try simp only [List.setIfInBounds_toArray]
          try simp only [List.set]
          refine wpAnyH_take (i := 4) (v := undef) rfl (by kernel_rfl) (by kernel_rfl) (by kernel_rfl) (fun _ _ _ h => h) (Or.inr ⟨by kernel_rfl, rfl⟩) hHeld ?_
          try simp only [List.getElem_toArray]
          try simp only [List.getElem_cons_succ]
          try simp only [List.getElem_cons_zero]
          try simp only [Act.put]
          try simp only [List.setIfInBounds_toArray]
          try simp only [List.set]
          refine wpAnyH_take (i := 5) (v := undef) rfl (by kernel_rfl) (by kernel_rfl) (by kernel_rfl) (fun _ _ _ h => h) (Or.inr ⟨by kernel_rfl, rfl⟩) hHeld ?_
          try simp only [List.getElem_toArray]
          try simp only [List.getElem_cons_succ]
          try simp only [List.getElem_cons_zero]
          try simp only [Act.put]
          try simp only [List.setIfInBounds_toArray]
          try simp only [List.set]
          refine wpAnyH_take (i := 6) (v := undef) rfl (by kernel_rfl) (by kernel_rfl) (by kernel_rfl) (fun _ _ _ h => h) (Or.inr ⟨by kernel_rfl, rfl⟩) hHeld ?_
          try simp only [List.getElem_toArray]
          try simp only [List.getElem_cons_succ]
          try simp only [List.getElem_cons_zero]
          try simp only [Act.put]
          try simp only [List.setIfInBounds_toArray]
          try simp only [List.set]
          refine wpAnyH_take (i := 7) (v := undef) rfl (by kernel_rfl) (by kernel_rfl) (by kernel_rfl) (fun _ _ _ h => h) (Or.inr ⟨by kernel_rfl, rfl⟩) hHeld ?_
          try simp only [List.getElem_toArray]
          try simp only [List.getElem_cons_succ]
          try simp only [List.getElem_cons_zero]
          try simp only [Act.put]
          try simp only [List.setIfInBounds_toArray]
          try simp only [List.set]
          refine wpAnyH_take (i := 8) (v := undef) rfl (by kernel_rfl) (by kernel_rfl) (by kernel_rfl) (fun _ _ _ h => h) (Or.inr ⟨by kernel_rfl, rfl⟩) hHeld ?_
          try simp only [List.getElem_toArray]
          try simp only [List.getElem_cons_succ]
          try simp only [List.getElem_cons_zero]
          try simp only [Act.put]
          try simp only [List.setIfInBounds_toArray]
          try simp only [List.set]
          refine wpAnyH_take (i := 9) (v := undef) rfl (by kernel_rfl) (by kernel_rfl) (by kernel_rfl) (fun _ _ _ h => h) (Or.inr ⟨by kernel_rfl, rfl⟩) hHeld ?_
          try simp only [List.getElem_toArray]
          try simp only [List.getElem_cons_succ]
          try simp only [List.getElem_cons_zero]
          try simp only [Act.put]
          try simp only [List.setIfInBounds_toArray]
          try simp only [List.set]
          refine wpAnyH_take (i := 10) (v := undef) rfl (by kernel_rfl) (by kernel_rfl) (by kernel_rfl) (fun _ _ _ h => h) (Or.inr ⟨by kernel_rfl, rfl⟩) hHeld ?_
          try simp only [List.getElem_toArray]
          try simp only [List.getElem_cons_succ]
          try simp only [List.getElem_cons_zero]
          try simp only [Act.put]
          try simp only [List.setIfInBounds_toArray]
          try simp only [List.set]
          refine wpAnyH_take (i := 11) (v := undef) rfl (by kernel_rfl) (by kernel_rfl) (by kernel_rfl) (fun _ _ _ h => h) (Or.inr ⟨by kernel_rfl, rfl⟩) hHeld ?_
          try simp only [List.getElem_toArray]
          try simp only [List.getElem_cons_succ]
          try simp only [List.getElem_cons_zero]
          try simp only [Act.put]
          try simp only [List.setIfInBounds_toArray]
          try simp only [List.set]
          refine wpAnyH_take (i := 12) (v := undef) rfl (by kernel_rfl) (by kernel_rfl) (by kernel_rfl) (fun _ _ _ h => h) (Or.inr ⟨by kernel_rfl, rfl⟩) hHeld ?_
          try simp only [List.getElem_toArray]
          try simp only [List.getElem_cons_succ]
          try simp only [List.getElem_cons_zero]
          try simp only [Act.put]
          try simp only [List.setIfInBounds_toArray]
          try simp only [List.set]
          refine wpAnyH_take (i := 13) (v := ?v4) rfl (by kernel_rfl) (by kernel_rfl) (by kernel_rfl) (fun _ _ _ h => h) (Or.inl ⟨by kernel_rfl, ?h4⟩) hHeld ?_
          case h4 => intro u hSw; clear hSw; go_simp; try with_reducible rfl
          try simp only [List.getElem_toArray]
          try simp only [List.getElem_cons_succ]
          try simp only [List.getElem_cons_zero]
          try simp only [Act.put]
          try simp only [List.setIfInBounds_toArray]
          try simp only [List.set]
          refine wpAnyH_done (by kernel_rfl) ?_ _
          have g := hHeld
          clear hHeld
          go_wp2_with fail
          go_roundw
          case rel => exact ⟨0 + 1, by omega, by go_num, hqn, g⟩
          case measure => simp [intOf]; omega
        · obtain ⟨i, rfl⟩ : ∃ i, j = i + 1 := ⟨j - 1, by omega⟩
          obtain ⟨y, hy⟩ : ∃ y, cs[i]? = some y := ⟨_, List.getElem?_eq_getElem (by rw [HN.out]; omega)⟩
          have E1 : ChC W b (off + i * 10) y := by
            have h1 := HR.out.chgAt hy
            exact h1.below g h1.lt
          have HK2 : Hid (∀ V, Calls Try.prog 37 #[.agg #[.bool x0, .int .i64 bt, .int .i64 bk, .int .i64 bv, .string bs, .bool x5, .int .i64 at', .int .i64 ak, .int .i64 av, .string sa]] V fun e w' => e = .returned (.agg #[.int .i64 (kT (⟨x0, ⟨bt, bk, bv, bs⟩, x5, ⟨at', ak, av, sa⟩⟩ : Chg)), .int .i64 (kK (⟨x0, ⟨bt, bk, bv, bs⟩, x5, ⟨at', ak, av, sa⟩⟩ : Chg))]) ∧ Below V.heap.size V w') := fun V => changedKey_any (⟨x0, ⟨bt, bk, bv, bs⟩, x5, ⟨at', ak, av, sa⟩⟩ : Chg) V
          have hpa : (prv cs (i + 1)).all (fun y => kLt y (⟨x0, ⟨bt, bk, bv, bs⟩, x5, ⟨at', ak, av, sa⟩⟩ : Chg)) = kLt y (⟨x0, ⟨bt, bk, bv, bs⟩, x5, ⟨at', ak, av, sa⟩⟩ : Chg) := by rw [prv_succ, hy]; rfl
          rw [hpa, kLt_cp] at HQ2
          clear hy hpa
          obtain ⟨p0, ⟨pt, pk, pv, ps⟩, p5, ⟨rt, rk, rv, rs⟩⟩ := y
          have HK1 : Hid (∀ V, Calls Try.prog 37 #[.agg #[.bool p0, .int .i64 pt, .int .i64 pk, .int .i64 pv, .string ps, .bool p5, .int .i64 rt, .int .i64 rk, .int .i64 rv, .string rs]] V fun e w' => e = .returned (.agg #[.int .i64 (kT ⟨p0, ⟨pt, pk, pv, ps⟩, p5, ⟨rt, rk, rv, rs⟩⟩), .int .i64 (kK ⟨p0, ⟨pt, pk, pv, ps⟩, p5, ⟨rt, rk, rv, rs⟩⟩)]) ∧ Below V.heap.size V w') := fun V => changedKey_any ⟨p0, ⟨pt, pk, pv, ps⟩, p5, ⟨rt, rk, rv, rs⟩⟩ V
          generalize kT (⟨x0, ⟨bt, bk, bv, bs⟩, x5, ⟨at', ak, av, sa⟩⟩ : Chg) = t2 at HK2 HQ2
          generalize kK (⟨x0, ⟨bt, bk, bv, bs⟩, x5, ⟨at', ak, av, sa⟩⟩ : Chg) = k2 at HK2 HQ2
          generalize kT ⟨p0, ⟨pt, pk, pv, ps⟩, p5, ⟨rt, rk, rv, rs⟩⟩ = t1 at HK1 HQ2
          generalize kK ⟨p0, ⟨pt, pk, pv, ps⟩, p5, ⟨rt, rk, rv, rs⟩⟩ = k1 at HK1 HQ2
          have HCp : Hid (∀ V, Calls Try.prog 36 #[.agg #[.int .i64 t1, .int .i64 k1], .agg #[.int .i64 t2, .int .i64 k2]] V fun e w' => e = .returned (.int .i64 (orI (cpI t1 t2) (cpI k1 k2))) ∧ Below V.heap.size V w') := fun V => (compareKeys_at t1 k1 t2 k2 V).mono fun e w' ⟨h1, q, os, h2⟩ => ⟨h1, by rw [h2]; exact Lib.below_grow _ _ (Nat.le_refl _) _ _⟩
          generalize orI (cpI t1 t2) (cpI k1 k2) = cv at HCp HQ2
          have hi1 : (0 : Int) < ((i + 1 : Nat) : Int) := by omega
          have hi2 : (((i + 1 : Nat) : Int) - 1) = (i : Int) := by omega
          have hi3 : (i : Int) < (n : Int) := by omega
          have hi4 : i < n := by omega
          have hi5 : i + 1 < n := by omega
          have hwr : IntKind.i64.wrap (i : Int) = (i : Int) := by simp [IntKind.wrap, IntKind.bits, IntKind.signed]; omega
          go_upto_region 9 with (fail)
          have hS0 : ChC W.drew xb 0 (⟨x0, ⟨bt, bk, bv, bs⟩, x5, ⟨at', ak, av, sa⟩⟩ : Chg) ∧ ChC W.drew b (off + i * 10) ⟨p0, ⟨pt, pk, pv, ps⟩, p5, ⟨rt, rk, rv, rs⟩⟩ ∧ Below w.heap.size w W.drew := ⟨Z.below (Below.refl _ _).drew Z.lt, E1.below (Below.refl _ _).drew E1.lt, g.drew⟩
          refine wp_region_held_drew (S := fun V => ChC V xb 0 (⟨x0, ⟨bt, bk, bv, bs⟩, x5, ⟨at', ak, av, sa⟩⟩ : Chg) ∧ ChC V b (off + i * 10) ⟨p0, ⟨pt, pk, pv, ps⟩, p5, ⟨rt, rk, rv, rs⟩⟩ ∧ Below w.heap.size w V) (by kernel_rfl) hS0 (fun hHeld => ?_)
          clear g Z E1 hS0
          generalize W.drew = D at hHeld ⊢
          refine wpAnyH_take (i := 0) (v := ?v5) rfl (by kernel_rfl) (by kernel_rfl) (by kernel_rfl) (fun _ _ _ h => h) (Or.inl ⟨by kernel_rfl, ?h5⟩) hHeld ?_
          case h5 => intro u hSw; clear hSw; go_simp; try with_reducible rfl
          try simp only [List.getElem_toArray]
          try simp only [List.getElem_cons_succ]
          try simp only [List.getElem_cons_zero]
          try simp only [Act.put]
          try simp only [List.setIfInBounds_toArray]
          try simp only [List.set]
          refine wpAnyH_take (i := 1) (v := ?v6) rfl (by kernel_rfl) (by kernel_rfl) (by kernel_rfl) (fun _ _ _ h => h) (Or.inl ⟨by kernel_rfl, ?h6⟩) hHeld ?_
          case h6 => intro u hSw; clear hSw; go_simp; try with_reducible rfl
          try simp only [List.getElem_toArray]
          try simp only [List.getElem_cons_succ]
          try simp only [List.getElem_cons_zero]
          try simp only [Act.put]
          try simp only [List.setIfInBounds_toArray]
          try simp only [List.set]
          refine wpAnyH_take (i := 2) (v := ?v7) rfl (by kernel_rfl) (by kernel_rfl) (by kernel_rfl) (fun _ _ _ h => h) (Or.inl ⟨by kernel_rfl, ?h7⟩) hHeld ?_
          case h7 => intro u hSw; clear hSw; go_simp; try with_reducible rfl
          try simp only [List.getElem_toArray]
          try simp only [List.getElem_cons_succ]
          try simp only [List.getElem_cons_zero]
          try simp only [Act.put]
          try simp only [List.setIfInBounds_toArray]
          try simp only [List.set]
          refine wpAnyH_take (i := 3) (v := ?v8) rfl (by kernel_rfl) (by kernel_rfl) (by kernel_rfl) (fun _ _ _ h => h) (Or.inl ⟨by kernel_rfl, ?h8⟩) hHeld ?_
          case h8 => intro u hSw; clear hSw; go_simp; try with_reducible rfl
          try simp only [List.getElem_toArray]
          try simp only [List.getElem_cons_succ]
          try simp only [List.getElem_cons_zero]
          try simp only [Act.put]
          try simp only [List.setIfInBounds_toArray]
          try simp only [List.set]
          refine wpAnyH_take (i := 4) (v := ?v9) rfl (by kernel_rfl) (by kernel_rfl) (by kernel_rfl) (fun _ _ _ h => h) (Or.inl ⟨by kernel_rfl, ?h9⟩) hHeld ?_
          case h9 => intro u hSw; clear hSw; go_simp; try with_reducible rfl
          try simp only [List.getElem_toArray]
          try simp only [List.getElem_cons_succ]
          try simp only [List.getElem_cons_zero]
          try simp only [Act.put]
          try simp only [List.setIfInBounds_toArray]
          try simp only [List.set]
          refine wpAnyH_take (i := 5) (v := ?v10) rfl (by kernel_rfl) (by kernel_rfl) (by kernel_rfl) (fun _ _ _ h => h) (Or.inl ⟨by kernel_rfl, ?h10⟩) hHeld ?_
          case h10 => intro u hSw; clear hSw; go_simp; try with_reducible rfl
          try simp only [List.getElem_toArray]
          try simp only [List.getElem_cons_succ]
          try simp only [List.getElem_cons_zero]
          try simp only [Act.put]
          try simp only [List.setIfInBounds_toArray]
          try simp only [List.set]
          refine wpAnyH_take (i := 6) (v := ?v11) rfl (by kernel_rfl) (by kernel_rfl) (by kernel_rfl) (fun _ _ _ h => h) (Or.inl ⟨by kernel_rfl, ?h11⟩) hHeld ?_
          case h11 => intro u hSw; clear hSw; go_simp; try with_reducible rfl
          try simp only [List.getElem_toArray]
          try simp only [List.getElem_cons_succ]
          try simp only [List.getElem_cons_zero]
          try simp only [Act.put]
          try simp only [List.setIfInBounds_toArray]
          try simp only [List.set]
          refine wpAnyH_take (i := 7) (v := ?v12) rfl (by kernel_rfl) (by kernel_rfl) (by kernel_rfl) (fun _ _ _ h => h) (Or.inl ⟨by kernel_rfl, ?h12⟩) hHeld ?_
          case h12 => intro u hSw; (obtain ⟨v0, v1, v2, v3, v4, v5, v6, v7, v8, v9⟩ := hSw.2.1); dsimp only at v0 v1 v2 v3 v4 v5 v6 v7 v8 v9; clear hSw; go_simp; try with_reducible rfl
          try simp only [List.getElem_toArray]
          try simp only [List.getElem_cons_succ]
          try simp only [List.getElem_cons_zero]
          try simp only [Act.put]
          try simp only [List.setIfInBounds_toArray]
          try simp only [List.set]
          refine wpAnyH_take (i := 9) (v := ?v13) rfl (by kernel_rfl) (by kernel_rfl) (by kernel_rfl) (fun _ _ _ h => h) (Or.inl ⟨by kernel_rfl, ?h13⟩) hHeld ?_
          case h13 => intro u hSw; (obtain ⟨z0, z1, z2, z3, z4, z5, z6, z7, z8, z9⟩ := hSw.1); dsimp only at z0 z1 z2 z3 z4 z5 z6 z7 z8 z9; clear hSw; go_simp; try with_reducible rfl
          try simp only [List.getElem_toArray]
          try simp only [List.getElem_cons_succ]
          try simp only [List.getElem_cons_zero]
          try simp only [Act.put]
          try simp only [List.setIfInBounds_toArray]
          try simp only [List.set]
          refine wpAnyH_ready (rs := [8]) (by kernel_rfl) (by simp) ?_
          refine AllReadyH.cons rfl (fun K hK => ?_) AllReadyH.nil
          go_simp
          go_wp2_with (go_at_call 37; refine (HK1.out _).mono ?_; rintro e W8 ⟨rfl, gg⟩)
          refine hK.out _ _ (⟨hHeld.1.below gg hHeld.1.lt, hHeld.2.1.below gg hHeld.2.1.lt, hHeld.2.2.trans (gg.mono hHeld.2.2.size)⟩) (fun hHeld => ?_)
          clear hK K
          clear gg
          try simp only [Act.put]
          try simp only [List.setIfInBounds_toArray]
          try simp only [List.set]
          refine wpAnyH_ready (rs := [10]) (by kernel_rfl) (by simp) ?_
          refine AllReadyH.cons rfl (fun K hK => ?_) AllReadyH.nil
          go_simp
          go_wp2_with (go_at_call 37; refine (HK2.out _).mono ?_; rintro e W10 ⟨rfl, gg⟩)
          refine hK.out _ _ (⟨hHeld.1.below gg hHeld.1.lt, hHeld.2.1.below gg hHeld.2.1.lt, hHeld.2.2.trans (gg.mono hHeld.2.2.size)⟩) (fun hHeld => ?_)
          clear hK K
          clear gg
          try simp only [Act.put]
          try simp only [List.setIfInBounds_toArray]
          try simp only [List.set]
          refine wpAnyH_ready (rs := [11]) (by kernel_rfl) (by simp) ?_
          refine AllReadyH.cons rfl (fun K hK => ?_) AllReadyH.nil
          go_simp
          go_wp2_with (go_at_call 36; refine (HCp.out _).mono ?_; rintro e W11 ⟨rfl, gg⟩)
          refine hK.out _ _ (⟨hHeld.1.below gg hHeld.1.lt, hHeld.2.1.below gg hHeld.2.1.lt, hHeld.2.2.trans (gg.mono hHeld.2.2.size)⟩) (fun hHeld => ?_)
          clear hK K
          clear gg
          try simp only [Act.put]
          try simp only [List.setIfInBounds_toArray]
          try simp only [List.set]
          refine wpAnyH_take (i := 12) (v := ?v14) rfl (by kernel_rfl) (by kernel_rfl) (by kernel_rfl) (fun _ _ _ h => h) (Or.inl ⟨by kernel_rfl, ?h14⟩) hHeld ?_
          case h14 => intro u hSw; clear hSw; go_simp; try with_reducible rfl
          try simp only [List.getElem_toArray]
          try simp only [List.getElem_cons_succ]
          try simp only [List.getElem_cons_zero]
          try simp only [Act.put]
          try simp only [List.setIfInBounds_toArray]
          try simp only [List.set]
          refine wpAnyH_take (i := 13) (v := ?v15) rfl (by kernel_rfl) (by kernel_rfl) (by kernel_rfl) (fun _ _ _ h => h) (Or.inl ⟨by kernel_rfl, ?h15⟩) hHeld ?_
          case h15 => intro u hSw; clear hSw; go_simp; try with_reducible rfl
          try simp only [List.getElem_toArray]
          try simp only [List.getElem_cons_succ]
          try simp only [List.getElem_cons_zero]
          try simp only [Act.put]
          try simp only [List.setIfInBounds_toArray]
          try simp only [List.set]
          refine wpAnyH_done (by kernel_rfl) ?_ _
          have g := hHeld.2.2
          clear hHeld HK1 HK2 HCp
          by_cases hcv : cv < 0
          · have hqn : Hid (flQ (prv cs (i + 1 + 1)) (cs.drop (i + 1 + 1)) = Q) := by show _ = _; rw [← HQ2.out, if_pos (by simpa using hcv)]
            have dc : ¬ (0 ≤ cv) := by omega
            have dc2 : decide (0 ≤ cv) = false := by simpa using dc
            clear HQ2
            go_wp2_with fail
            go_roundw
            case rel => exact ⟨i + 1 + 1, by omega, by go_num, hqn, g⟩
            case measure => simp [intOf]; omega
          · have HF2 : Hid (Q = 1) := by show _ = _; rw [← HQ2.out, if_neg (by simpa using hcv)]
            have dc : 0 ≤ cv := by omega
            have dc2 : decide (0 ≤ cv) = true := by simpa using dc
            clear HQ2
            go_wp2_with fail
            go_ret
            exact ⟨by rw [HF2.out]; rfl, g⟩
      · have HF2 : Hid (Q = f) := by show _ = _; rw [← HQ1.out, if_neg (by rw [HF.out]; exact hf0)]; exact HF.out
        have d : (f != 0) = true := by simpa using hf0
        clear HQ1 Z
        go_wp2_with fail
        go_ret
        exact ⟨by rw [HF2.out]; rfl, g⟩
    · have HF2 : Hid (Q = 0) := by show _ = _; rw [← hq.out]; exact flQ_end _ (by rw [HN.out]; omega)
      have hjn : ¬ (j : Int) < (n : Int) := by omega
      go_wp2_with fail
      go_ret
      exact ⟨by rw [HF2.out]; rfl, g⟩

end Go.Proofs.Ytmbllmhpnopbdaa
