/-
  Marks and locks of a transaction: their codes; the program's side.
-/
import Derived.Test.YtpjlpnaamkbicaaGreatDoorCKTxe

namespace Go.Proofs.YtpjlpnaamkbicaaGreatDoor
open Go.RowKit Go.Maps
set_option linter.unusedVariables false
set_option maxRecDepth 20000

theorem rng_all {f : Nat → Int} {n : Nat} (h : ∀ i, i < n → f i = 0) : fstQ f (List.range n) = 0 := fst_all fun y hy => h y (List.mem_range.1 hy)
theorem rng_at {f : Nat → Int} {n j : Nat} (h : ∀ i, i < j → f i = 0) (hj : j < n) (hq : f j ≠ 0) : fstQ f (List.range n) = f j :=
  fst_at (j := j) (fun y hy => by rw [List.take_range] at hy; exact h y (by have := List.mem_range.1 hy; omega)) (by rw [List.getElem?_range hj]) hq
/-- The mark ahead of the j-th; the code of a mark; of a lock. -/
def prvM (ms : List Int) (j : Nat) : Int := if j = 0 then 0 else ms.getD (j - 1) 0
def mrQ (n : Int) (ms : List Int) (j : Nat) : Int := if inW (ms.getD j 0) (prvM ms j) n = true then 0 else 3
def lkQ (ls : List K2) (j : Nat) : Int := if keyB (ls.getD j ⟨0, 0⟩) = true then (if hasK (ls.take j) (ls.getD j ⟨0, 0⟩) = true then 6 else 0) else 3
def mksQ (n : Int) (ms : List Int) : Int := fstQ (mrQ n ms) (List.range ms.length)
def lksQ (ls : List K2) : Int := fstQ (lkQ ls) (List.range ls.length)
theorem step_all {f : Nat → Int} {j : Nat} (h : ∀ i, i < j → f i = 0) (hj : f j = 0) : ∀ i, i < j + 1 → f i = 0 := fun i hi => by
  by_cases e : i = j
  · rw [e]; exact hj
  · exact h i (by omega)

set_option maxHeartbeats 4000000 in
theorem marksFault_any (id : Int) (ua : Option Addr) (un uc : Nat) (ma : Option Addr) (ms : List Int) (mn mc : Nat) (la : Option Addr) (ln lc : Nat) (w : World) (hun : un ≤ 1048576) (hm : ms.length = mn) (hmn : mn ≤ 9223372036854775807) (rm : Rs inE 1 w ma ms) :
    Calls Tryz.prog 87 #[.agg #[.int .i64 id, .slice ua un uc, .slice ma mn mc, .slice la ln lc]] w fun e w' => e = .returned (.int .i64 (mksQ un ms)) ∧ Below w.heap.size w w' := by
  have HN : Hid (ms.length = mn) := hm
  have HR : Hid (Rs inE 1 w ma ms) := rm
  obtain ⟨Q, hQ⟩ : ∃ Q, mksQ un ms = Q := ⟨_, rfl⟩
  have HQ : Hid (fstQ (mrQ un ms) (List.range ms.length) = Q) := hQ
  rw [hQ]
  clear hm rm hQ
  go_enter Tryz.func87, Tryz.ntmps87
  go_upto_region 1 with (fail)
  generalize hY : World.alloc _ _ = Y
  have gY : Below w.heap.size w Y := by rw [← hY]; go_grown
  have hc : T4 Y w.heap.size id ua un uc ma mn mc la ln lc := by rw [← hY]; exact ⟨by simp [go_sem], by simp [go_sem], by simp [go_sem], by simp [go_sem]⟩
  clear hY
  have HR : Hid (Rs inE 1 Y ma ms) := HR.out.below gY (Nat.le_refl _)
  obtain ⟨y0, y1, y2, y3⟩ := hc
  go_upto_region 3 with (fail)
  go_loopw [9, 3] (fun i p wr => ∃ j : Nat, j ≤ mn ∧ i = .int .i64 j ∧ p = .int .i64 (prvM ms j) ∧ Hid (∀ i, i < j → mrQ un ms i = 0) ∧ wr = Y) (fun i _ _ => mn - (intOf i).toNat)
  case atStart => exact ⟨0, Nat.zero_le _, rfl, rfl, fun i hi => absurd hi (Nat.not_lt_zero _), rfl⟩
  case round =>
    obtain ⟨j, hj, rfl, rfl, hA, rfl⟩ := hrel
    by_cases hlt : j < mn
    · have hjn : (j : Int) < (mn : Int) := by omega
      obtain ⟨x, hx⟩ : ∃ x, ms[j]? = some x := ⟨_, List.getElem?_eq_getElem (by rw [HN.out]; exact hlt)⟩
      obtain ⟨xb, xo, rfl, x0⟩ := HR.out.num hx
      have hgd : ms.getD j 0 = x := by rw [List.getD_eq_getElem?_getD, hx]; rfl
      have HP : Hid (x = prvM ms (j + 1)) := by show _ = _; unfold prvM; rw [if_neg (by omega), Nat.add_sub_cancel]; exact hgd.symm
      obtain ⟨f, hf⟩ : ∃ f, inW x (prvM ms j) un = f := ⟨_, rfl⟩
      have HU : Hid (mrQ un ms j = if f = true then 0 else 3) := by show _ = _; unfold mrQ; rw [hgd, hf]
      have hcon := fun W => isWithinW_any x (prvM ms j) un W
      rw [hf] at hcon
      have HAt : Hid (mrQ un ms j ≠ 0 → Q = mrQ un ms j) := fun h2 => by rw [← HQ.out]; exact rng_at hA.out (by rw [HN.out]; exact hlt) h2
      have HA2 : Hid (mrQ un ms j = 0 → ∀ i, i < j + 1 → mrQ un ms i = 0) := fun h0 => step_all hA.out h0
      clear hx hgd hf hA
      generalize prvM ms j = pv at hcon ⊢
      go_wp2_with fail
      refine (hcon _).mono ?_
      rintro e w1 ⟨rfl, hw⟩
      subst w1
      clear hcon
      cases f
      · have HX : Hid (Q = 3) := by
          have h := HU.out
          simp at h
          have h2 := HAt.out (by rw [h]; decide)
          rw [h] at h2
          exact h2
        clear HU HAt HA2
        go_wp2_with fail
        go_ret
        exact ⟨by rw [HX.out]; rfl, gY⟩
      · have HA3 : Hid (∀ i, i < j + 1 → mrQ un ms i = 0) := HA2.out (by rw [HU.out]; simp)
        clear HU HAt HA2
        go_wp2_with fail
        go_roundw
        case rel => exact ⟨j + 1, by omega, by go_num, by rw [← HP.out], HA3, trivial⟩
        case measure => simp [intOf]; omega
    · have e : j = mn := by omega
      subst e
      have HX : Hid (Q = 0) := by show _ = _; rw [← HQ.out, HN.out]; exact rng_all hA.out
      clear hA
      go_wp2_with fail
      go_ret
      exact ⟨by rw [HX.out]; rfl, gY⟩

set_option maxHeartbeats 8000000 in
theorem locksFault_any (la : Option Addr) (ls : List K2) (ln lc : Nat) (w : World) (hl : ls.length = ln) (hln : ln ≤ 1048576) (hlc : ln ≤ lc) (rl : Rs kyE 2 w la ls) :
    Calls Tryz.prog 88 #[.slice la ln lc] w fun e w' => e = .returned (.int .i64 (lksQ ls)) ∧ Below w.heap.size w w' := by
  have HN : Hid (ls.length = ln) := hl
  have HR : Hid (∀ V, Below w.heap.size w V → Rs kyE 2 V la ls) := fun V hV => rl.below hV (Nat.le_refl _)
  obtain ⟨Q, hQ⟩ : ∃ Q, lksQ ls = Q := ⟨_, rfl⟩
  have HQ : Hid (fstQ (lkQ ls) (List.range ls.length) = Q) := hQ
  rw [hQ]
  clear hl rl hQ
  go_enter Tryz.func88, Tryz.ntmps88
  go_upto_region 2 with (fail)
  go_loopw [7] (fun i wr => ∃ j : Nat, j ≤ ln ∧ i = .int .i64 j ∧ Hid (∀ i, i < j → lkQ ls i = 0) ∧ Below w.heap.size w wr) (fun i _ => ln - (intOf i).toNat)
  case atStart => exact ⟨0, Nat.zero_le _, rfl, fun i hi => absurd hi (Nat.not_lt_zero _), Below.refl _ _⟩
  case round =>
    obtain ⟨j, hj, rfl, hA, g⟩ := hrel
    by_cases hlt : j < ln
    · have hjn : (j : Int) < (ln : Int) := by omega
      obtain ⟨x, hx⟩ : ∃ x, ls[j]? = some x := ⟨_, List.getElem?_eq_getElem (by rw [HN.out]; exact hlt)⟩
      obtain ⟨xb, xo, rfl, x0, x1⟩ := (HR.out wr g).key hx
      have hgd : ls.getD j ⟨0, 0⟩ = x := by rw [List.getD_eq_getElem?_getD, hx]; rfl
      obtain ⟨k1, hk1⟩ : ∃ f, keyB x = f := ⟨_, rfl⟩
      obtain ⟨k2, hk2⟩ : ∃ f, hasK (ls.take j) x = f := ⟨_, rfl⟩
      have HU : Hid (lkQ ls j = if k1 = true then (if k2 = true then 6 else 0) else 3) := by show _ = _; unfold lkQ; rw [hgd, hk1, hk2]
      have HRt : Hid (∀ V, Below w.heap.size w V → Rs kyE 2 V (some ⟨xb, xo, none⟩) (ls.take j)) := fun V hV => by
        rcases HR.out V hV with h | ⟨b, off, ha, hc⟩
        · exact .inl (by rw [h]; simp)
        · refine .inr ⟨b, off, ha, fun i y hy => ?_⟩
          exact hc i y (by
            have h1 := (List.getElem?_eq_some_iff.1 hy).1
            rw [List.length_take] at h1
            rw [List.getElem?_take_of_lt (by omega)] at hy
            exact hy)
      have htl : (ls.take j).length = j := by rw [List.length_take, HN.out]; omega
      obtain ⟨p, q⟩ := x
      have hik := fun W => isKey_any p q W
      rw [hk1] at hik
      have HH : Hid (∀ V, Below w.heap.size w V → Calls Tryz.prog 112 #[.slice (some ⟨xb, xo, none⟩) j lc, .agg #[.int .i64 p, .int .i64 q]] V fun e w' => e = .returned (.bool k2) ∧ Below V.heap.size V w') := fun V hV => by
        have h := has_any (some ⟨xb, xo, none⟩) (ls.take j) j lc p q V htl (by omega) (HRt.out V hV)
        rw [hk2] at h
        exact h
      have HAt : Hid (lkQ ls j ≠ 0 → Q = lkQ ls j) := fun h2 => by rw [← HQ.out]; exact rng_at hA.out (by rw [HN.out]; exact hlt) h2
      have HA2 : Hid (lkQ ls j = 0 → ∀ i, i < j + 1 → lkQ ls i = 0) := fun h0 => step_all hA.out h0
      clear hx hgd hk1 hk2 hA HRt htl
      dsimp only at x0 x1
      go_upto_region 4 with (fail)
      generalize hY : World.alloc _ _ = Y7
      have g7 : Below wr.heap.size wr Y7 := by rw [← hY]; go_grown
      have z0 : Y7.cell? ⟨wr.heap.size, 0, none⟩ = some (.int .i64 p) := by rw [← hY]; simp [go_sem]
      have z1 : Y7.cell? ⟨wr.heap.size, 1, none⟩ = some (.int .i64 q) := by rw [← hY]; simp [go_sem]
      have g := g.trans (g7.mono g.size)
      clear hY x0 x1 g7
      generalize wr.heap.size = kb at z0 z1 ⊢
      have lz := World.block_lt_of_cell? Y7 _ z0
      go_wp2_with fail
      refine (hik _).mono ?_
      rintro e W1 ⟨rfl, g1⟩
      have z0 := (g1.cell (p := ⟨kb, 0, none⟩) lz).trans z0
      have z1 := (g1.cell (p := ⟨kb, 1, none⟩) lz).trans z1
      have g := g.trans (g1.mono g.size)
      clear g1 lz hik
      cases k1
      · have HX : Hid (Q = 3) := by
          have h := HU.out
          simp at h
          have h2 := HAt.out (by rw [h]; decide)
          rw [h] at h2
          exact h2
        clear HU HAt HA2 z0 z1 HH
        go_wp2_with fail
        go_ret
        exact ⟨by rw [HX.out]; rfl, g⟩
      have lz := World.block_lt_of_cell? W1 _ z0
      have hjc : (j : Int) ≤ (lc : Int) := by omega
      have hjl : j ≤ lc := by omega
      go_upto_region 6 with (fail)
      refine wp_region_held_drew (S := fun V => Below W1.heap.size W1 V) (by kernel_rfl) (Below.refl _ W1).drew (fun hHeld => ?_)
      generalize W1.drew = D0 at hHeld ⊢
      refine wpAnyH_take (i := 0) (v := ?v1) rfl (by kernel_rfl) (by kernel_rfl) (by kernel_rfl) (fun _ _ _ h => h) (Or.inl ⟨by kernel_rfl, ?h1⟩) hHeld ?_
      case h1 => intro u hSw; clear hSw; go_simp; try with_reducible rfl
      try simp only [List.getElem_toArray]
      try simp only [List.getElem_cons_succ]
      try simp only [List.getElem_cons_zero]
      try simp only [Act.put]
      try simp only [List.setIfInBounds_toArray]
      try simp only [List.set]
      refine wpAnyH_take (i := 1) (v := ?v2) rfl (by kernel_rfl) (by kernel_rfl) (by kernel_rfl) (fun _ _ _ h => h) (Or.inl ⟨by kernel_rfl, ?h2⟩) hHeld ?_
      case h2 => intro u hSw; clear hSw; go_simp; try with_reducible rfl
      try simp only [List.getElem_toArray]
      try simp only [List.getElem_cons_succ]
      try simp only [List.getElem_cons_zero]
      try simp only [Act.put]
      try simp only [List.setIfInBounds_toArray]
      try simp only [List.set]
      refine wpAnyH_take (i := 2) (v := ?v3) rfl (by kernel_rfl) (by kernel_rfl) (by kernel_rfl) (fun _ _ _ h => h) (Or.inl ⟨by kernel_rfl, ?h3⟩) hHeld ?_
      case h3 => intro u hSw; clear hSw; go_simp; try with_reducible rfl
      try simp only [List.getElem_toArray]
      try simp only [List.getElem_cons_succ]
      try simp only [List.getElem_cons_zero]
      try simp only [Act.put]
      try simp only [List.setIfInBounds_toArray]
      try simp only [List.set]
      refine wpAnyH_take (i := 3) (v := ?v4) rfl (by kernel_rfl) (by kernel_rfl) (by kernel_rfl) (fun _ _ _ h => h) (Or.inl ⟨by kernel_rfl, ?h4⟩) hHeld ?_
      case h4 => intro u hSw; (have z0 := (hSw.cell (p := ⟨kb, 0, none⟩) lz).trans z0); (have z1 := (hSw.cell (p := ⟨kb, 1, none⟩) lz).trans z1); clear hSw; go_simp; try with_reducible rfl
      try simp only [List.getElem_toArray]
      try simp only [List.getElem_cons_succ]
      try simp only [List.getElem_cons_zero]
      try simp only [Act.put]
      try simp only [List.setIfInBounds_toArray]
      try simp only [List.set]
      refine wpAnyH_ready (rs := [4]) (by kernel_rfl) (by simp) ?_
      refine AllReadyH.cons rfl (fun K hK => ?_) AllReadyH.nil
      go_simp
      go_wp2_with (go_at_call 112; refine (HH.out _ (g.trans (hHeld.mono g.size))).mono ?_; rintro e U1 ⟨rfl, gg⟩)
      refine hK.out _ _ (hHeld.trans (gg.mono hHeld.size)) (fun hHeld => ?_)
      clear hK K
      clear gg
      try simp only [Act.put]
      try simp only [List.setIfInBounds_toArray]
      try simp only [List.set]
      refine wpAnyH_done (by kernel_rfl) ?_ _
      have g := g.trans (hHeld.mono g.size)
      clear hHeld z0 z1 lz HH
      cases k2
      · have HA3 : Hid (∀ i, i < j + 1 → lkQ ls i = 0) := HA2.out (by rw [HU.out]; simp)
        clear HU HAt HA2
        go_wp2_with fail
        go_roundw
        case rel => exact ⟨j + 1, by omega, by go_num, HA3, g⟩
        case measure => simp [intOf]; omega
      · have HX : Hid (Q = 6) := by
          have h := HU.out
          simp at h
          have h2 := HAt.out (by rw [h]; decide)
          rw [h] at h2
          exact h2
        clear HU HAt HA2
        go_wp2_with fail
        go_ret
        exact ⟨by rw [HX.out]; rfl, g⟩
    · have e : j = ln := by omega
      subst e
      have HX : Hid (Q = 0) := by show _ = _; rw [← HQ.out, HN.out]; exact rng_all hA.out
      clear hA
      go_wp2_with fail
      go_ret
      exact ⟨by rw [HX.out]; rfl, g⟩

end Go.Proofs.YtpjlpnaamkbicaaGreatDoor
