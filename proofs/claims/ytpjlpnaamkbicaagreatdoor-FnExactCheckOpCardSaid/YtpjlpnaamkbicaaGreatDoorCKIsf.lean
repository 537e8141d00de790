/-
  The program's isFull.
-/
import Derived.Test.YtpjlpnaamkbicaaGreatDoorCKCks
import Derived.Test.YtpjlpnaamkbicaaGreatDoorCKCkr
import Derived.Test.YtpjlpnaamkbicaaGreatDoorCKWan

namespace Go.Proofs.YtpjlpnaamkbicaaGreatDoor
open Go.RowKit Go.Maps
set_option linter.unusedVariables false
set_option maxRecDepth 20000

set_option maxHeartbeats 8000000 in
theorem isFull_any (ra : Option Addr) (rs : List Rw) (rn rc : Nat) (a : Option Addr) (xs : List TxV) (n c : Nat) (t k : Int) (w : World) (hrn : rs.length = rn) (hrm : rn ≤ 60) (hrr : Rs rwE 4 w ra rs) (hn : xs.length = n) (hm : n ≤ 4) (hs : ∀ x ∈ xs, TxOk 1048576 x) (hr : TxRd w a xs) :
    Calls Tryz.prog 66 #[.slice ra rn rc, .slice a n c, .agg #[.int .i64 t, .int .i64 k]] w fun e w' => e = .returned (.bool (fulB rs xs t k)) ∧ Below w.heap.size w w' := by
  have hlen : (allRK rs xs).length ≤ 10000000 := by
    have h1 := cntL_le (xs := xs) (m := 1048576) (fun y hy => (hs y hy).2.2.2)
    have h2 := allRK_len rs xs
    have h3 : xs.length * 1048576 ≤ 4 * 1048576 := Nat.mul_le_mul_right 1048576 (by omega)
    omega
  have HKy : Hid (∀ V, Below w.heap.size w V → Calls Tryz.prog 101 #[.slice ra rn rc, .slice a n c] V fun e w' => ∃ a' c', e = .returned (.slice a' (allRK rs xs).length c') ∧ Below V.heap.size V w' ∧ w'.ownsRow V.heap.size 97 2 (.slice a' (allRK rs xs).length c') (allRK rs xs).length (flat kyE (allRK rs xs))) := fun V hV => keysOf_own ra rs rn rc a xs n c V hrn (by omega) (hrr.below hV (Nat.le_refl _)) hn hm hs (hr.below hV (Nat.le_refl _))
  have HWi : Hid (∀ (V W : World) (a1 : Option Addr) (c1 : Nat), Below V.heap.size V W → W.ownsRow V.heap.size 97 2 (.slice a1 (allRK rs xs).length c1) (allRK rs xs).length (flat kyE (allRK rs xs)) → Calls Tryz.prog 102 #[.slice a1 (allRK rs xs).length c1, .agg #[.int .i64 t, .int .i64 k]] W fun e w' => ∃ a' c', e = .returned (.slice a' (withL (allRK rs xs) ⟨t, k⟩).length c') ∧ Below V.heap.size V w') := fun V W a1 c1 h1 h2 => (with_any V a1 (allRK rs xs) _ c1 t k W rfl hlen h1 h2).mono fun e w' h => by
    obtain ⟨a', c', h3, h4, _⟩ := h
    exact ⟨a', c', h3, h4⟩
  have HTb : Hid (∀ V, Below w.heap.size w V → Calls Tryz.prog 90 #[.slice a n c] V fun e w' => e = .returned (.int .i64 (cntU xs)) ∧ Below V.heap.size V w') := fun V hV => turnedBy_any a xs n c V hn hm hs (hr.below hV (Nat.le_refl _))
  have HE : Hid (fulB rs xs t k = (decide (12 < (withL (allRK rs xs) ⟨t, k⟩).length) || decide (12 ≤ cntU xs))) := rfl
  obtain ⟨B, hB⟩ : ∃ B, fulB rs xs t k = B := ⟨_, rfl⟩
  rw [hB] at HE ⊢
  clear hrn hrr hn hs hr hB hlen
  generalize (withL (allRK rs xs) ⟨t, k⟩).length = al at HWi HE
  generalize cntU xs = cu at HTb HE
  generalize flat kyE (allRK rs xs) = fl at HKy HWi
  generalize (allRK rs xs).length = kl at HKy HWi
  go_enter Tryz.func66, Tryz.ntmps66
  go_upto_region 1 with (fail)
  generalize hY : World.alloc _ _ = Y
  have gY : Below w.heap.size w Y := by rw [← hY]; go_grown
  have A0 : Y.cell? ⟨w.heap.size, 0, none⟩ = some (.int .i64 t) := by rw [← hY]; simp [go_sem]
  have A1 : Y.cell? ⟨w.heap.size, 1, none⟩ = some (.int .i64 k) := by rw [← hY]; simp [go_sem]
  clear hY
  obtain ⟨ab, hab⟩ : ∃ ab, w.heap.size = ab := ⟨_, rfl⟩
  rw [hab] at A0 A1
  simp only [hab]
  have HAB : Hid (w.heap.size = ab) := hab
  clear hab
  have lA := World.block_lt_of_cell? _ _ A0
  have HKb : Hid (∀ V, Below Y.heap.size Y V → V.cell? ⟨ab, 0, none⟩ = some (.int .i64 t) ∧ V.cell? ⟨ab, 1, none⟩ = some (.int .i64 k)) := fun V hV => ⟨(hV.cell (p := ⟨ab, 0, none⟩) lA).trans A0, (hV.cell (p := ⟨ab, 1, none⟩) lA).trans A1⟩
  clear A0 A1 lA
  by_cases h12 : 12 < al
  · have d12 : decide ((12 : Int) < (al : Int)) = true := by simp; omega
    have HB : Hid (B = true) := by show _ = _; rw [HE.out]; simp [h12]
    clear HE h12 HTb
    refine wp_region_held_drew (S := fun V => (V.cell? ⟨ab, 0, none⟩ = some (.int .i64 t) ∧ V.cell? ⟨ab, 1, none⟩ = some (.int .i64 k)) ∧ Below Y.heap.size Y V) (by kernel_rfl) ⟨HKb.out _ (Below.refl _ Y).drew, (Below.refl _ Y).drew⟩ (fun hHeld => ?_)
    generalize World.drew _ = D0 at hHeld ⊢
    have hd0 := hHeld.2
    refine wpAnyH_take (i := 0) (v := ?v1) rfl (by kernel_rfl) (by kernel_rfl) (by kernel_rfl) (fun _ _ _ h => h) (Or.inl ⟨by kernel_rfl, ?h1⟩) hHeld ?_
    case h1 => intro u hSw; clear hSw; go_simp; try with_reducible rfl
    try simp only [List.getElem_toArray]
    try simp only [List.getElem_cons_succ]
    try simp only [List.getElem_cons_zero]
    try simp only [Act.put]
    try simp only [List.setIfInBounds_toArray]
    try simp only [List.set]
    refine wpAnyH_take (i := 1) (v := ?v2) rfl (by kernel_rfl) (by kernel_rfl) (by kernel_rfl) (fun _ _ _ h => h) (Or.inl ⟨by kernel_rfl, ?h2⟩) hHeld ?_
    case h2 => intro u hSw; clear hSw; go_simp; try with_reducible rfl
    try simp only [List.getElem_toArray]
    try simp only [List.getElem_cons_succ]
    try simp only [List.getElem_cons_zero]
    try simp only [Act.put]
    try simp only [List.setIfInBounds_toArray]
    try simp only [List.set]
    refine wpAnyH_take (i := 3) (v := ?v3) rfl (by kernel_rfl) (by kernel_rfl) (by kernel_rfl) (fun _ _ _ h => h) (Or.inl ⟨by kernel_rfl, ?h3⟩) hHeld ?_
    case h3 => intro u hSw; (obtain ⟨⟨k0, k1⟩, -⟩ := hSw); go_simp; try with_reducible rfl
    try simp only [List.getElem_toArray]
    try simp only [List.getElem_cons_succ]
    try simp only [List.getElem_cons_zero]
    try simp only [Act.put]
    try simp only [List.setIfInBounds_toArray]
    try simp only [List.set]
    refine wpAnyH_ready (rs := [2]) (by kernel_rfl) (by simp) ?_
    refine AllReadyH.cons rfl (fun K hK => ?_) AllReadyH.nil
    go_simp
    go_wp2_with (go_at_call 101; refine (HKy.out _ (gY.trans (hHeld.2.mono gY.size))).mono ?_; rintro e W1 ⟨a1, c1, rfl, gg, o1⟩)
    refine hK.out _ _ (⟨HKb.out _ (hHeld.2.trans (gg.mono hHeld.2.size)), hHeld.2.trans (gg.mono hHeld.2.size)⟩) (fun hHeld => ?_)
    clear hK K
    have hcon := HWi.out _ W1 a1 c1 gg o1
    clear o1 gg
    try simp only [Act.put]
    try simp only [List.setIfInBounds_toArray]
    try simp only [List.set]
    refine wpAnyH_ready (rs := [4]) (by kernel_rfl) (by simp) ?_
    refine AllReadyH.cons rfl (fun K hK => ?_) AllReadyH.nil
    go_simp
    go_wp2_with (go_at_call 102; refine hcon.mono ?_; rintro e W2 ⟨a2, c2, rfl, gg2⟩)
    refine hK.out _ _ (⟨HKb.out _ (hd0.trans (gg2.mono hd0.size)), hd0.trans (gg2.mono hd0.size)⟩) (fun hHeld => ?_)
    clear hK K
    clear hcon
    try simp only [Act.put]
    try simp only [List.setIfInBounds_toArray]
    try simp only [List.set]
    refine wpAnyH_take (i := 5) (v := ?v4) rfl (by kernel_rfl) (by kernel_rfl) (by kernel_rfl) (fun _ _ _ h => h) (Or.inl ⟨by kernel_rfl, ?h4⟩) hHeld ?_
    case h4 => intro u hSw; clear hSw; go_simp; try with_reducible rfl
    try simp only [List.getElem_toArray]
    try simp only [List.getElem_cons_succ]
    try simp only [List.getElem_cons_zero]
    try simp only [Act.put]
    try simp only [List.setIfInBounds_toArray]
    try simp only [List.set]
    refine wpAnyH_take (i := 6) (v := ?v5) rfl (by kernel_rfl) (by kernel_rfl) (by kernel_rfl) (fun _ _ _ h => h) (Or.inl ⟨by kernel_rfl, ?h5⟩) hHeld ?_
    case h5 => intro u hSw; clear hSw; go_simp; try with_reducible rfl
    try simp only [List.getElem_toArray]
    try simp only [List.getElem_cons_succ]
    try simp only [List.getElem_cons_zero]
    try simp only [Act.put]
    try simp only [List.setIfInBounds_toArray]
    try simp only [List.set]
    refine wpAnyH_take (i := 7) (v := ?v6) rfl (by kernel_rfl) (by kernel_rfl) (by kernel_rfl) (fun _ _ _ h => h) (Or.inl ⟨by kernel_rfl, ?h6⟩) hHeld ?_
    case h6 => intro u hSw; clear hSw; go_simp; try with_reducible rfl
    try simp only [List.getElem_toArray]
    try simp only [List.getElem_cons_succ]
    try simp only [List.getElem_cons_zero]
    try simp only [Act.put]
    try simp only [List.setIfInBounds_toArray]
    try simp only [List.set]
    refine wpAnyH_take (i := 8) (v := undef) rfl (by kernel_rfl) (by kernel_rfl) (by kernel_rfl) (fun _ _ _ h => h) (Or.inr ⟨by kernel_rfl, rfl⟩) hHeld ?_
    try simp only [List.getElem_toArray]
    try simp only [List.getElem_cons_succ]
    try simp only [List.getElem_cons_zero]
    try simp only [Act.put]
    try simp only [List.setIfInBounds_toArray]
    try simp only [List.set]
    refine wpAnyH_take (i := 9) (v := undef) rfl (by kernel_rfl) (by kernel_rfl) (by kernel_rfl) (fun _ _ _ h => h) (Or.inr ⟨by kernel_rfl, rfl⟩) hHeld ?_
    try simp only [List.getElem_toArray]
    try simp only [List.getElem_cons_succ]
    try simp only [List.getElem_cons_zero]
    try simp only [Act.put]
    try simp only [List.setIfInBounds_toArray]
    try simp only [List.set]
    refine wpAnyH_take (i := 10) (v := undef) rfl (by kernel_rfl) (by kernel_rfl) (by kernel_rfl) (fun _ _ _ h => h) (Or.inr ⟨by kernel_rfl, rfl⟩) hHeld ?_
    try simp only [List.getElem_toArray]
    try simp only [List.getElem_cons_succ]
    try simp only [List.getElem_cons_zero]
    try simp only [Act.put]
    try simp only [List.setIfInBounds_toArray]
    try simp only [List.set]
    refine wpAnyH_take (i := 11) (v := ?v7) rfl (by kernel_rfl) (by kernel_rfl) (by kernel_rfl) (fun _ _ _ h => h) (Or.inl ⟨by kernel_rfl, ?h7⟩) hHeld ?_
    case h7 => intro u hSw; clear hSw; go_simp; try with_reducible rfl
    try simp only [List.getElem_toArray]
    try simp only [List.getElem_cons_succ]
    try simp only [List.getElem_cons_zero]
    try simp only [Act.put]
    try simp only [List.setIfInBounds_toArray]
    try simp only [List.set]
    refine wpAnyH_take (i := 12) (v := ?v8) rfl (by kernel_rfl) (by kernel_rfl) (by kernel_rfl) (fun _ _ _ h => h) (Or.inl ⟨by kernel_rfl, ?h8⟩) hHeld ?_
    case h8 => intro u hSw; clear hSw; go_simp; try with_reducible rfl
    try simp only [List.getElem_toArray]
    try simp only [List.getElem_cons_succ]
    try simp only [List.getElem_cons_zero]
    try simp only [Act.put]
    try simp only [List.setIfInBounds_toArray]
    try simp only [List.set]
    refine wpAnyH_done (by kernel_rfl) ?_ _
    go_wp2_with fail
    go_ret
    exact ⟨by rw [HB.out]; rfl, gY.trans (hHeld.2.mono gY.size)⟩
  · have d12 : decide ((12 : Int) < (al : Int)) = false := by simp; omega
    have HB : Hid (B = decide ((12 : Int) ≤ (cu : Int))) := by
      show _ = _
      rw [HE.out, decide_eq_false h12, Bool.false_or, decide_eq_decide]
      omega
    clear HE h12
    refine wp_region_held_drew (S := fun V => (V.cell? ⟨ab, 0, none⟩ = some (.int .i64 t) ∧ V.cell? ⟨ab, 1, none⟩ = some (.int .i64 k)) ∧ Below Y.heap.size Y V) (by kernel_rfl) ⟨HKb.out _ (Below.refl _ Y).drew, (Below.refl _ Y).drew⟩ (fun hHeld => ?_)
    generalize World.drew _ = D0 at hHeld ⊢
    have hd0 := hHeld.2
    refine wpAnyH_take (i := 0) (v := ?v9) rfl (by kernel_rfl) (by kernel_rfl) (by kernel_rfl) (fun _ _ _ h => h) (Or.inl ⟨by kernel_rfl, ?h9⟩) hHeld ?_
    case h9 => intro u hSw; clear hSw; go_simp; try with_reducible rfl
    try simp only [List.getElem_toArray]
    try simp only [List.getElem_cons_succ]
    try simp only [List.getElem_cons_zero]
    try simp only [Act.put]
    try simp only [List.setIfInBounds_toArray]
    try simp only [List.set]
    refine wpAnyH_take (i := 1) (v := ?v10) rfl (by kernel_rfl) (by kernel_rfl) (by kernel_rfl) (fun _ _ _ h => h) (Or.inl ⟨by kernel_rfl, ?h10⟩) hHeld ?_
    case h10 => intro u hSw; clear hSw; go_simp; try with_reducible rfl
    try simp only [List.getElem_toArray]
    try simp only [List.getElem_cons_succ]
    try simp only [List.getElem_cons_zero]
    try simp only [Act.put]
    try simp only [List.setIfInBounds_toArray]
    try simp only [List.set]
    refine wpAnyH_take (i := 3) (v := ?v11) rfl (by kernel_rfl) (by kernel_rfl) (by kernel_rfl) (fun _ _ _ h => h) (Or.inl ⟨by kernel_rfl, ?h11⟩) hHeld ?_
    case h11 => intro u hSw; (obtain ⟨⟨k0, k1⟩, -⟩ := hSw); go_simp; try with_reducible rfl
    try simp only [List.getElem_toArray]
    try simp only [List.getElem_cons_succ]
    try simp only [List.getElem_cons_zero]
    try simp only [Act.put]
    try simp only [List.setIfInBounds_toArray]
    try simp only [List.set]
    refine wpAnyH_ready (rs := [2]) (by kernel_rfl) (by simp) ?_
    refine AllReadyH.cons rfl (fun K hK => ?_) AllReadyH.nil
    go_simp
    go_wp2_with (go_at_call 101; refine (HKy.out _ (gY.trans (hHeld.2.mono gY.size))).mono ?_; rintro e W1 ⟨a1, c1, rfl, gg, o1⟩)
    refine hK.out _ _ (⟨HKb.out _ (hHeld.2.trans (gg.mono hHeld.2.size)), hHeld.2.trans (gg.mono hHeld.2.size)⟩) (fun hHeld => ?_)
    clear hK K
    have hcon := HWi.out _ W1 a1 c1 gg o1
    clear o1 gg
    try simp only [Act.put]
    try simp only [List.setIfInBounds_toArray]
    try simp only [List.set]
    refine wpAnyH_ready (rs := [4]) (by kernel_rfl) (by simp) ?_
    refine AllReadyH.cons rfl (fun K hK => ?_) AllReadyH.nil
    go_simp
    go_wp2_with (go_at_call 102; refine hcon.mono ?_; rintro e W2 ⟨a2, c2, rfl, gg2⟩)
    refine hK.out _ _ (⟨HKb.out _ (hd0.trans (gg2.mono hd0.size)), hd0.trans (gg2.mono hd0.size)⟩) (fun hHeld => ?_)
    clear hK K
    clear hcon
    try simp only [Act.put]
    try simp only [List.setIfInBounds_toArray]
    try simp only [List.set]
    refine wpAnyH_take (i := 5) (v := ?v12) rfl (by kernel_rfl) (by kernel_rfl) (by kernel_rfl) (fun _ _ _ h => h) (Or.inl ⟨by kernel_rfl, ?h12⟩) hHeld ?_
    case h12 => intro u hSw; clear hSw; go_simp; try with_reducible rfl
    try simp only [List.getElem_toArray]
    try simp only [List.getElem_cons_succ]
    try simp only [List.getElem_cons_zero]
    try simp only [Act.put]
    try simp only [List.setIfInBounds_toArray]
    try simp only [List.set]
    refine wpAnyH_take (i := 6) (v := ?v13) rfl (by kernel_rfl) (by kernel_rfl) (by kernel_rfl) (fun _ _ _ h => h) (Or.inl ⟨by kernel_rfl, ?h13⟩) hHeld ?_
    case h13 => intro u hSw; clear hSw; go_simp; try with_reducible rfl
    try simp only [List.getElem_toArray]
    try simp only [List.getElem_cons_succ]
    try simp only [List.getElem_cons_zero]
    try simp only [Act.put]
    try simp only [List.setIfInBounds_toArray]
    try simp only [List.set]
    refine wpAnyH_take (i := 7) (v := ?v14) rfl (by kernel_rfl) (by kernel_rfl) (by kernel_rfl) (fun _ _ _ h => h) (Or.inl ⟨by kernel_rfl, ?h14⟩) hHeld ?_
    case h14 => intro u hSw; clear hSw; go_simp; try with_reducible rfl
    try simp only [List.getElem_toArray]
    try simp only [List.getElem_cons_succ]
    try simp only [List.getElem_cons_zero]
    try simp only [Act.put]
    try simp only [List.setIfInBounds_toArray]
    try simp only [List.set]
    refine wpAnyH_take (i := 8) (v := ?v15) rfl (by kernel_rfl) (by kernel_rfl) (by kernel_rfl) (fun _ _ _ h => h) (Or.inl ⟨by kernel_rfl, ?h15⟩) hHeld ?_
    case h15 => intro u hSw; clear hSw; go_simp; try with_reducible rfl
    try simp only [List.getElem_toArray]
    try simp only [List.getElem_cons_succ]
    try simp only [List.getElem_cons_zero]
    try simp only [Act.put]
    try simp only [List.setIfInBounds_toArray]
    try simp only [List.set]
    refine wpAnyH_ready (rs := [9]) (by kernel_rfl) (by simp) ?_
    refine AllReadyH.cons rfl (fun K hK => ?_) AllReadyH.nil
    go_simp
    go_wp2_with (go_at_call 90; refine (HTb.out _ (gY.trans (hHeld.2.mono gY.size))).mono ?_; rintro e W3 ⟨rfl, gg⟩)
    refine hK.out _ _ (⟨HKb.out _ (hHeld.2.trans (gg.mono hHeld.2.size)), hHeld.2.trans (gg.mono hHeld.2.size)⟩) (fun hHeld => ?_)
    clear hK K
    try simp only [Act.put]
    try simp only [List.setIfInBounds_toArray]
    try simp only [List.set]
    refine wpAnyH_take (i := 10) (v := ?v16) rfl (by kernel_rfl) (by kernel_rfl) (by kernel_rfl) (fun _ _ _ h => h) (Or.inl ⟨by kernel_rfl, ?h16⟩) hHeld ?_
    case h16 => intro u hSw; clear hSw; go_simp; try with_reducible rfl
    try simp only [List.getElem_toArray]
    try simp only [List.getElem_cons_succ]
    try simp only [List.getElem_cons_zero]
    try simp only [Act.put]
    try simp only [List.setIfInBounds_toArray]
    try simp only [List.set]
    refine wpAnyH_take (i := 11) (v := ?v17) rfl (by kernel_rfl) (by kernel_rfl) (by kernel_rfl) (fun _ _ _ h => h) (Or.inl ⟨by kernel_rfl, ?h17⟩) hHeld ?_
    case h17 => intro u hSw; clear hSw; go_simp; try with_reducible rfl
    try simp only [List.getElem_toArray]
    try simp only [List.getElem_cons_succ]
    try simp only [List.getElem_cons_zero]
    try simp only [Act.put]
    try simp only [List.setIfInBounds_toArray]
    try simp only [List.set]
    refine wpAnyH_take (i := 12) (v := ?v18) rfl (by kernel_rfl) (by kernel_rfl) (by kernel_rfl) (fun _ _ _ h => h) (Or.inl ⟨by kernel_rfl, ?h18⟩) hHeld ?_
    case h18 => intro u hSw; clear hSw; go_simp; try with_reducible rfl
    try simp only [List.getElem_toArray]
    try simp only [List.getElem_cons_succ]
    try simp only [List.getElem_cons_zero]
    try simp only [Act.put]
    try simp only [List.setIfInBounds_toArray]
    try simp only [List.set]
    refine wpAnyH_done (by kernel_rfl) ?_ _
    go_wp2_with fail
    go_ret
    exact ⟨by rw [HB.out]; rfl, gY.trans (hHeld.2.mono gY.size)⟩

end Go.Proofs.YtpjlpnaamkbicaaGreatDoor

/-
  The program's wantedChange.
-/
namespace Go.Proofs.YtpjlpnaamkbicaaGreatDoor
open Go.RowKit Go.Maps
set_option linter.unusedVariables false
set_option maxRecDepth 20000

set_option maxHeartbeats 4000000 in
theorem wantedChange_2 (tx t k v : Int) (s : ByteArray) (mk bt bk bv : Int) (bs : ByteArray) (w : World) :
    Calls Tryz.prog 64 #[.agg #[.int .i64 2, .int .i64 tx, .int .i64 t, .int .i64 k, .int .i64 v, .string s, .int .i64 mk], .agg #[.int .i64 bt, .int .i64 bk, .int .i64 bv, .string bs]] w fun e w' => e = .returned (.agg #[.bool false, .int .i64 0, .int .i64 0, .int .i64 0, .string ⟨#[]⟩, .bool true, .int .i64 t, .int .i64 k, .int .i64 v, .string s]) ∧ Below w.heap.size w w' := by
  go_enter Tryz.func64, Tryz.ntmps64
  go_wp2_with fail
  refine bodyPost_ret (v := .agg #[.bool false, .int .i64 0, .int .i64 0, .int .i64 0, .string ⟨#[]⟩, .bool true, .int .i64 t, .int .i64 k, .int .i64 v, .string s]) (by simp [results, Tryz.results64, go_sem, *]) rfl ?_
  exact ⟨rfl, by go_grown⟩

set_option maxHeartbeats 4000000 in
theorem wantedChange_3 (tx t k v : Int) (s : ByteArray) (mk bt bk bv : Int) (bs : ByteArray) (w : World) :
    Calls Tryz.prog 64 #[.agg #[.int .i64 3, .int .i64 tx, .int .i64 t, .int .i64 k, .int .i64 v, .string s, .int .i64 mk], .agg #[.int .i64 bt, .int .i64 bk, .int .i64 bv, .string bs]] w fun e w' => e = .returned (.agg #[.bool true, .int .i64 bt, .int .i64 bk, .int .i64 bv, .string bs, .bool true, .int .i64 t, .int .i64 k, .int .i64 v, .string s]) ∧ Below w.heap.size w w' := by
  go_enter Tryz.func64, Tryz.ntmps64
  go_wp2_with fail
  refine bodyPost_ret (v := .agg #[.bool true, .int .i64 bt, .int .i64 bk, .int .i64 bv, .string bs, .bool true, .int .i64 t, .int .i64 k, .int .i64 v, .string s]) (by simp [results, Tryz.results64, go_sem, *]) rfl ?_
  exact ⟨rfl, by go_grown⟩

set_option maxHeartbeats 4000000 in
theorem wantedChange_4 (tx t k v : Int) (s : ByteArray) (mk bt bk bv : Int) (bs : ByteArray) (w : World) :
    Calls Tryz.prog 64 #[.agg #[.int .i64 4, .int .i64 tx, .int .i64 t, .int .i64 k, .int .i64 v, .string s, .int .i64 mk], .agg #[.int .i64 bt, .int .i64 bk, .int .i64 bv, .string bs]] w fun e w' => e = .returned (.agg #[.bool true, .int .i64 bt, .int .i64 bk, .int .i64 bv, .string bs, .bool false, .int .i64 0, .int .i64 0, .int .i64 0, .string ⟨#[]⟩]) ∧ Below w.heap.size w w' := by
  go_enter Tryz.func64, Tryz.ntmps64
  go_wp2_with fail
  refine bodyPost_ret (v := .agg #[.bool true, .int .i64 bt, .int .i64 bk, .int .i64 bv, .string bs, .bool false, .int .i64 0, .int .i64 0, .int .i64 0, .string ⟨#[]⟩]) (by simp [results, Tryz.results64, go_sem, *]) rfl ?_
  exact ⟨rfl, by go_grown⟩

end Go.Proofs.YtpjlpnaamkbicaaGreatDoor
