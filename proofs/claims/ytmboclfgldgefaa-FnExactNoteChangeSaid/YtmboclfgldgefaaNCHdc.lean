/-
  Changes looked through: heldChangeS.
-/
import Derived.Test.YtmboclfgldgefaaNCMkc

namespace Go.Proofs.Ytmboclfgldgefaa
open Go.RowKit
set_option linter.unusedVariables false

set_option maxRecDepth 20000 in
set_option maxHeartbeats 4000000 in
theorem heldChangeS_any (a : Option Addr) (n c k : Nat) (w : World) (hm : n ≤ 1000) (hk0 : 1 ≤ k) (hk1 : k ≤ 1000000) (ha : Rs chE 10 w a ((List.range n).map (mkC k))) :
    Calls Try.prog 133 #[.slice a n c, .int .i64 k] w fun e w' => e = .returned (.int .i64 ((k + 10 * n : Nat) : Int)) ∧ Below w.heap.size w w' := by
  have HA : Hid (Rs chE 10 w a ((List.range n).map (mkC k))) := ha
  clear ha
  go_enter Try.func133, Try.ntmps133
  go_wp2_with fail
  go_loopw [5, 1] (fun i kk wr => ∃ j : Nat, j ≤ n ∧ i = .int .i64 j ∧ kk = .int .i64 ((k + 10 * j : Nat) : Int) ∧ Below w.heap.size w wr) (fun i _ _ => n - (intOf i).toNat)
  case atStart => exact ⟨0, Nat.zero_le _, rfl, rfl, Below.refl _ _⟩
  case round =>
    obtain ⟨j, hj, rfl, rfl, g⟩ := hrel
    by_cases hlt : j < n
    · have hx : ((List.range n).map (mkC k))[j]? = some (mkC k j) := by simp [hlt]
      have hjn : (j : Int) < (n : Int) := by omega
      obtain ⟨k0, hk00⟩ : ∃ k0 : Nat, k0 = k + 10 * j := ⟨_, rfl⟩
      have HK : Hid (k0 = k + 10 * j) := hk00
      have hkb : k0 ≤ 2000000 := by omega
      have hk1' : 1 ≤ k0 := by omega
      rw [← hk00]
      clear hk00
      obtain ⟨k1, hq1⟩ : ∃ k1 : Nat, k1 = k0 + 1 := ⟨_, rfl⟩
      obtain ⟨k2, hq2⟩ : ∃ k2 : Nat, k2 = k1 + 1 := ⟨_, rfl⟩
      obtain ⟨k3, hq3⟩ : ∃ k3 : Nat, k3 = k2 + 1 := ⟨_, rfl⟩
      obtain ⟨k4, hq4⟩ : ∃ k4 : Nat, k4 = k3 + 1 := ⟨_, rfl⟩
      obtain ⟨k5, hq5⟩ : ∃ k5 : Nat, k5 = k4 + 1 := ⟨_, rfl⟩
      obtain ⟨k6, hq6⟩ : ∃ k6 : Nat, k6 = k5 + 1 := ⟨_, rfl⟩
      obtain ⟨k7, hq7⟩ : ∃ k7 : Nat, k7 = k6 + 1 := ⟨_, rfl⟩
      obtain ⟨k8, hq8⟩ : ∃ k8 : Nat, k8 = k7 + 1 := ⟨_, rfl⟩
      obtain ⟨k9, hq9⟩ : ∃ k9 : Nat, k9 = k8 + 1 := ⟨_, rfl⟩
      obtain ⟨k10, hq10⟩ : ∃ k10 : Nat, k10 = k9 + 1 := ⟨_, rfl⟩
      have e1 : (k0 : Int) + 1 = (k1 : Nat) := by omega
      have e2 : (k1 : Int) + 1 = (k2 : Nat) := by omega
      have e3 : (k2 : Int) + 1 = (k3 : Nat) := by omega
      have e4 : (k3 : Int) + 1 = (k4 : Nat) := by omega
      have e5 : (k4 : Int) + 1 = (k5 : Nat) := by omega
      have e6 : (k5 : Int) + 1 = (k6 : Nat) := by omega
      have e7 : (k6 : Int) + 1 = (k7 : Nat) := by omega
      have e8 : (k7 : Int) + 1 = (k8 : Nat) := by omega
      have e9 : (k8 : Int) + 1 = (k9 : Nat) := by omega
      have e10 : (k9 : Int) + 1 = (k10 : Nat) := by omega
      have HK10 : Hid (k10 = k + 10 * (j + 1)) := by show _ = _; have := HK.out; omega
      have hk10 : k10 ≤ 3000000 := by omega
      have hk4 : 1 ≤ k4 ∧ k4 ≤ 3000000 := by omega
      have hk9 : 1 ≤ k9 ∧ k9 ≤ 3000000 := by omega
      obtain ⟨r0, hr0⟩ : ∃ r0 : Nat, r0 = k0 % 3 := ⟨_, rfl⟩
      have ra0 : Int.tmod (k0 : Int) 3 = (r0 : Nat) := by rw [Int.tmod_eq_emod_of_nonneg (by omega)]; omega
      have rb0 : (k0 : Int) % 3 = (r0 : Nat) := by omega
      obtain ⟨m0, hm0⟩ : ∃ m0 : Bool, m0 = (((r0 : Nat) : Int) == 0) := ⟨_, rfl⟩
      have rc0 : ((((r0 : Nat) : Int)) == 0) = m0 := hm0.symm
      obtain ⟨r5, hr5⟩ : ∃ r5 : Nat, r5 = k5 % 3 := ⟨_, rfl⟩
      have ra5 : Int.tmod (k5 : Int) 3 = (r5 : Nat) := by rw [Int.tmod_eq_emod_of_nonneg (by omega)]; omega
      have rb5 : (k5 : Int) % 3 = (r5 : Nat) := by omega
      obtain ⟨m5, hm5⟩ : ∃ m5 : Bool, m5 = (((r5 : Nat) : Int) == 0) := ⟨_, rfl⟩
      have rc5 : ((((r5 : Nat) : Int)) == 0) = m5 := hm5.symm
      have HM : Hid (mkC k j = ⟨m0, ⟨(k1 : Nat), (k2 : Nat), (k3 : Nat), mtx k4⟩, m5, ⟨(k6 : Nat), (k7 : Nat), (k8 : Nat), mtx k9⟩⟩) := by
        show _ = _
        rw [hm0, hm5, hr0, hr5, hq9, hq8, hq7, hq6, hq5, hq4, hq3, hq2, hq1, HK.out]
        rfl
      clear hq1 hq2 hq3 hq4 hq5 hq6 hq7 hq8 hq9 hq10 hr0 hr5 hm0 hm5
      obtain ⟨s4, hs4'⟩ : ∃ s, mtx k4 = s := ⟨_, rfl⟩
      obtain ⟨s9, hs9'⟩ : ∃ s, mtx k9 = s := ⟨_, rfl⟩
      rw [hs4', hs9'] at HM
      have hs4 : Hid (mtx k4 = s4) := hs4'
      have hs9 : Hid (mtx k9 = s9) := hs9'
      clear hs4' hs9'
      have hb0 : (m0 != m0) = false := by simp
      have hb5 : (m5 != m5) = false := by simp
      obtain ⟨b, off, rfl, hC⟩ := HA.out.chg hx
      rw [HM.out] at hC
      have hC := hC.below g hC.lt
      clear HM hx
      obtain ⟨c0, c1, c2, c3, c4, c5, c6, c7, c8, c9⟩ := hC
      dsimp only at c0 c1 c2 c3 c4 c5 c6 c7 c8 c9
      go_upto_region 16 with (fail)
      have hS0 : ChC wr.drew b (off + j * 10) ⟨m0, ⟨(k1 : Nat), (k2 : Nat), (k3 : Nat), s4⟩, m5, ⟨(k6 : Nat), (k7 : Nat), (k8 : Nat), s9⟩⟩ ∧ Below w.heap.size w wr.drew := ⟨⟨c0, c1, c2, c3, c4, c5, c6, c7, c8, c9⟩, g.drew⟩
      clear c0 c1 c2 c3 c4 c5 c6 c7 c8 c9 g
      refine wp_region_held_drew (S := fun V => ChC V b (off + j * 10) ⟨m0, ⟨(k1 : Nat), (k2 : Nat), (k3 : Nat), s4⟩, m5, ⟨(k6 : Nat), (k7 : Nat), (k8 : Nat), s9⟩⟩ ∧ Below w.heap.size w V) (by kernel_rfl) hS0 (fun hHeld => ?_)
      clear hS0
      refine wpAnyH_take (i := 0) (v := ?v1) rfl (by kernel_rfl) (by kernel_rfl) (by kernel_rfl) (fun _ _ _ h => h) (Or.inl ⟨by kernel_rfl, ?h1⟩) hHeld ?_
      case h1 => intro u hSw; obtain ⟨⟨q0, q1, q2, q3, q4, q5, q6, q7, q8, q9⟩, _⟩ := hSw; dsimp only at q0 q1 q2 q3 q4 q5 q6 q7 q8 q9; go_simp; try with_reducible rfl
      try simp only [List.getElem_toArray]
      try simp only [List.getElem_cons_succ]
      try simp only [List.getElem_cons_zero]
      try simp only [Act.put]
      try simp only [List.setIfInBounds_toArray]
      try simp only [List.set]
      refine wpAnyH_take (i := 1) (v := ?v2) rfl (by kernel_rfl) (by kernel_rfl) (by kernel_rfl) (fun _ _ _ h => h) (Or.inl ⟨by kernel_rfl, ?h2⟩) hHeld ?_
      case h2 => intro u hSw; obtain ⟨⟨q0, q1, q2, q3, q4, q5, q6, q7, q8, q9⟩, _⟩ := hSw; dsimp only at q0 q1 q2 q3 q4 q5 q6 q7 q8 q9; go_simp; try with_reducible rfl
      try simp only [List.getElem_toArray]
      try simp only [List.getElem_cons_succ]
      try simp only [List.getElem_cons_zero]
      try simp only [Act.put]
      try simp only [List.setIfInBounds_toArray]
      try simp only [List.set]
      refine wpAnyH_take (i := 2) (v := ?v3) rfl (by kernel_rfl) (by kernel_rfl) (by kernel_rfl) (fun _ _ _ h => h) (Or.inl ⟨by kernel_rfl, ?h3⟩) hHeld ?_
      case h3 => intro u hSw; obtain ⟨⟨q0, q1, q2, q3, q4, q5, q6, q7, q8, q9⟩, _⟩ := hSw; dsimp only at q0 q1 q2 q3 q4 q5 q6 q7 q8 q9; go_simp; try with_reducible rfl
      try simp only [List.getElem_toArray]
      try simp only [List.getElem_cons_succ]
      try simp only [List.getElem_cons_zero]
      try simp only [Act.put]
      try simp only [List.setIfInBounds_toArray]
      try simp only [List.set]
      refine wpAnyH_take (i := 3) (v := ?v4) rfl (by kernel_rfl) (by kernel_rfl) (by kernel_rfl) (fun _ _ _ h => h) (Or.inl ⟨by kernel_rfl, ?h4⟩) hHeld ?_
      case h4 => intro u hSw; obtain ⟨⟨q0, q1, q2, q3, q4, q5, q6, q7, q8, q9⟩, _⟩ := hSw; dsimp only at q0 q1 q2 q3 q4 q5 q6 q7 q8 q9; go_simp; try with_reducible rfl
      try simp only [List.getElem_toArray]
      try simp only [List.getElem_cons_succ]
      try simp only [List.getElem_cons_zero]
      try simp only [Act.put]
      try simp only [List.setIfInBounds_toArray]
      try simp only [List.set]
      refine wpAnyH_take (i := 4) (v := ?v5) rfl (by kernel_rfl) (by kernel_rfl) (by kernel_rfl) (fun _ _ _ h => h) (Or.inl ⟨by kernel_rfl, ?h5⟩) hHeld ?_
      case h5 => intro u hSw; obtain ⟨⟨q0, q1, q2, q3, q4, q5, q6, q7, q8, q9⟩, _⟩ := hSw; dsimp only at q0 q1 q2 q3 q4 q5 q6 q7 q8 q9; go_simp; try with_reducible rfl
      try simp only [List.getElem_toArray]
      try simp only [List.getElem_cons_succ]
      try simp only [List.getElem_cons_zero]
      try simp only [Act.put]
      try simp only [List.setIfInBounds_toArray]
      try simp only [List.set]
      refine wpAnyH_take (i := 5) (v := ?v6) rfl (by kernel_rfl) (by kernel_rfl) (by kernel_rfl) (fun _ _ _ h => h) (Or.inl ⟨by kernel_rfl, ?h6⟩) hHeld ?_
      case h6 => intro u hSw; obtain ⟨⟨q0, q1, q2, q3, q4, q5, q6, q7, q8, q9⟩, _⟩ := hSw; dsimp only at q0 q1 q2 q3 q4 q5 q6 q7 q8 q9; go_simp; try with_reducible rfl
      try simp only [List.getElem_toArray]
      try simp only [List.getElem_cons_succ]
      try simp only [List.getElem_cons_zero]
      try simp only [Act.put]
      try simp only [List.setIfInBounds_toArray]
      try simp only [List.set]
      refine wpAnyH_take (i := 6) (v := ?v7) rfl (by kernel_rfl) (by kernel_rfl) (by kernel_rfl) (fun _ _ _ h => h) (Or.inl ⟨by kernel_rfl, ?h7⟩) hHeld ?_
      case h7 => intro u hSw; obtain ⟨⟨q0, q1, q2, q3, q4, q5, q6, q7, q8, q9⟩, _⟩ := hSw; dsimp only at q0 q1 q2 q3 q4 q5 q6 q7 q8 q9; go_simp; try with_reducible rfl
      try simp only [List.getElem_toArray]
      try simp only [List.getElem_cons_succ]
      try simp only [List.getElem_cons_zero]
      try simp only [Act.put]
      try simp only [List.setIfInBounds_toArray]
      try simp only [List.set]
      refine wpAnyH_ready (rs := [7]) (by kernel_rfl) (by simp) ?_
      refine AllReadyH.cons rfl (fun K hK => ?_) AllReadyH.nil
      go_simp
      go_wp2_with (go_at_call 132; refine (markText_any k4 hk4.1 (by omega) _).mono ?_; rintro e w4 ⟨rfl, g4⟩; rw [hs4.out])
      refine hK.out _ _ (⟨hHeld.1.below g4 hHeld.1.lt, hHeld.2.trans (g4.mono hHeld.2.size)⟩) (fun hHeld => ?_)
      clear hK K
      try simp only [Act.put]
      try simp only [List.setIfInBounds_toArray]
      try simp only [List.set]
      refine wpAnyH_take (i := 8) (v := ?v8) rfl (by kernel_rfl) (by kernel_rfl) (by kernel_rfl) (fun _ _ _ h => h) (Or.inl ⟨by kernel_rfl, ?h8⟩) hHeld ?_
      case h8 => intro u hSw; obtain ⟨⟨q0, q1, q2, q3, q4, q5, q6, q7, q8, q9⟩, _⟩ := hSw; dsimp only at q0 q1 q2 q3 q4 q5 q6 q7 q8 q9; go_simp; try with_reducible rfl
      try simp only [List.getElem_toArray]
      try simp only [List.getElem_cons_succ]
      try simp only [List.getElem_cons_zero]
      try simp only [Act.put]
      try simp only [List.setIfInBounds_toArray]
      try simp only [List.set]
      refine wpAnyH_done (by kernel_rfl) ?_ _
      obtain ⟨⟨c0, c1, c2, c3, c4, c5, c6, c7, c8, c9⟩, g⟩ := hHeld
      dsimp only at c0 c1 c2 c3 c4 c5 c6 c7 c8 c9
      clear hHeld
      go_upto_region 31 with (fail)
      have hS0 : ChC w4.drew b (off + j * 10) ⟨m0, ⟨(k1 : Nat), (k2 : Nat), (k3 : Nat), s4⟩, m5, ⟨(k6 : Nat), (k7 : Nat), (k8 : Nat), s9⟩⟩ ∧ Below w.heap.size w w4.drew := ⟨⟨c0, c1, c2, c3, c4, c5, c6, c7, c8, c9⟩, g.drew⟩
      clear c0 c1 c2 c3 c4 c5 c6 c7 c8 c9 g
      refine wp_region_held_drew (S := fun V => ChC V b (off + j * 10) ⟨m0, ⟨(k1 : Nat), (k2 : Nat), (k3 : Nat), s4⟩, m5, ⟨(k6 : Nat), (k7 : Nat), (k8 : Nat), s9⟩⟩ ∧ Below w.heap.size w V) (by kernel_rfl) hS0 (fun hHeld => ?_)
      clear hS0
      refine wpAnyH_take (i := 0) (v := ?v9) rfl (by kernel_rfl) (by kernel_rfl) (by kernel_rfl) (fun _ _ _ h => h) (Or.inl ⟨by kernel_rfl, ?h9⟩) hHeld ?_
      case h9 => intro u hSw; obtain ⟨⟨q0, q1, q2, q3, q4, q5, q6, q7, q8, q9⟩, _⟩ := hSw; dsimp only at q0 q1 q2 q3 q4 q5 q6 q7 q8 q9; go_simp; try with_reducible rfl
      try simp only [List.getElem_toArray]
      try simp only [List.getElem_cons_succ]
      try simp only [List.getElem_cons_zero]
      try simp only [Act.put]
      try simp only [List.setIfInBounds_toArray]
      try simp only [List.set]
      refine wpAnyH_take (i := 1) (v := ?v10) rfl (by kernel_rfl) (by kernel_rfl) (by kernel_rfl) (fun _ _ _ h => h) (Or.inl ⟨by kernel_rfl, ?h10⟩) hHeld ?_
      case h10 => intro u hSw; obtain ⟨⟨q0, q1, q2, q3, q4, q5, q6, q7, q8, q9⟩, _⟩ := hSw; dsimp only at q0 q1 q2 q3 q4 q5 q6 q7 q8 q9; go_simp; try with_reducible rfl
      try simp only [List.getElem_toArray]
      try simp only [List.getElem_cons_succ]
      try simp only [List.getElem_cons_zero]
      try simp only [Act.put]
      try simp only [List.setIfInBounds_toArray]
      try simp only [List.set]
      refine wpAnyH_take (i := 2) (v := ?v11) rfl (by kernel_rfl) (by kernel_rfl) (by kernel_rfl) (fun _ _ _ h => h) (Or.inl ⟨by kernel_rfl, ?h11⟩) hHeld ?_
      case h11 => intro u hSw; obtain ⟨⟨q0, q1, q2, q3, q4, q5, q6, q7, q8, q9⟩, _⟩ := hSw; dsimp only at q0 q1 q2 q3 q4 q5 q6 q7 q8 q9; go_simp; try with_reducible rfl
      try simp only [List.getElem_toArray]
      try simp only [List.getElem_cons_succ]
      try simp only [List.getElem_cons_zero]
      try simp only [Act.put]
      try simp only [List.setIfInBounds_toArray]
      try simp only [List.set]
      refine wpAnyH_take (i := 3) (v := ?v12) rfl (by kernel_rfl) (by kernel_rfl) (by kernel_rfl) (fun _ _ _ h => h) (Or.inl ⟨by kernel_rfl, ?h12⟩) hHeld ?_
      case h12 => intro u hSw; obtain ⟨⟨q0, q1, q2, q3, q4, q5, q6, q7, q8, q9⟩, _⟩ := hSw; dsimp only at q0 q1 q2 q3 q4 q5 q6 q7 q8 q9; go_simp; try with_reducible rfl
      try simp only [List.getElem_toArray]
      try simp only [List.getElem_cons_succ]
      try simp only [List.getElem_cons_zero]
      try simp only [Act.put]
      try simp only [List.setIfInBounds_toArray]
      try simp only [List.set]
      refine wpAnyH_take (i := 4) (v := ?v13) rfl (by kernel_rfl) (by kernel_rfl) (by kernel_rfl) (fun _ _ _ h => h) (Or.inl ⟨by kernel_rfl, ?h13⟩) hHeld ?_
      case h13 => intro u hSw; obtain ⟨⟨q0, q1, q2, q3, q4, q5, q6, q7, q8, q9⟩, _⟩ := hSw; dsimp only at q0 q1 q2 q3 q4 q5 q6 q7 q8 q9; go_simp; try with_reducible rfl
      try simp only [List.getElem_toArray]
      try simp only [List.getElem_cons_succ]
      try simp only [List.getElem_cons_zero]
      try simp only [Act.put]
      try simp only [List.setIfInBounds_toArray]
      try simp only [List.set]
      refine wpAnyH_take (i := 5) (v := ?v14) rfl (by kernel_rfl) (by kernel_rfl) (by kernel_rfl) (fun _ _ _ h => h) (Or.inl ⟨by kernel_rfl, ?h14⟩) hHeld ?_
      case h14 => intro u hSw; obtain ⟨⟨q0, q1, q2, q3, q4, q5, q6, q7, q8, q9⟩, _⟩ := hSw; dsimp only at q0 q1 q2 q3 q4 q5 q6 q7 q8 q9; go_simp; try with_reducible rfl
      try simp only [List.getElem_toArray]
      try simp only [List.getElem_cons_succ]
      try simp only [List.getElem_cons_zero]
      try simp only [Act.put]
      try simp only [List.setIfInBounds_toArray]
      try simp only [List.set]
      refine wpAnyH_take (i := 6) (v := ?v15) rfl (by kernel_rfl) (by kernel_rfl) (by kernel_rfl) (fun _ _ _ h => h) (Or.inl ⟨by kernel_rfl, ?h15⟩) hHeld ?_
      case h15 => intro u hSw; obtain ⟨⟨q0, q1, q2, q3, q4, q5, q6, q7, q8, q9⟩, _⟩ := hSw; dsimp only at q0 q1 q2 q3 q4 q5 q6 q7 q8 q9; go_simp; try with_reducible rfl
      try simp only [List.getElem_toArray]
      try simp only [List.getElem_cons_succ]
      try simp only [List.getElem_cons_zero]
      try simp only [Act.put]
      try simp only [List.setIfInBounds_toArray]
      try simp only [List.set]
      refine wpAnyH_ready (rs := [7]) (by kernel_rfl) (by simp) ?_
      refine AllReadyH.cons rfl (fun K hK => ?_) AllReadyH.nil
      go_simp
      go_wp2_with (go_at_call 132; refine (markText_any k9 hk9.1 (by omega) _).mono ?_; rintro e w9 ⟨rfl, g9⟩; rw [hs9.out])
      refine hK.out _ _ (⟨hHeld.1.below g9 hHeld.1.lt, hHeld.2.trans (g9.mono hHeld.2.size)⟩) (fun hHeld => ?_)
      clear hK K
      try simp only [Act.put]
      try simp only [List.setIfInBounds_toArray]
      try simp only [List.set]
      refine wpAnyH_take (i := 8) (v := ?v16) rfl (by kernel_rfl) (by kernel_rfl) (by kernel_rfl) (fun _ _ _ h => h) (Or.inl ⟨by kernel_rfl, ?h16⟩) hHeld ?_
      case h16 => intro u hSw; obtain ⟨⟨q0, q1, q2, q3, q4, q5, q6, q7, q8, q9⟩, _⟩ := hSw; dsimp only at q0 q1 q2 q3 q4 q5 q6 q7 q8 q9; go_simp; try with_reducible rfl
      try simp only [List.getElem_toArray]
      try simp only [List.getElem_cons_succ]
      try simp only [List.getElem_cons_zero]
      try simp only [Act.put]
      try simp only [List.setIfInBounds_toArray]
      try simp only [List.set]
      refine wpAnyH_done (by kernel_rfl) ?_ _
      have g := hHeld.2
      clear hHeld
      go_wp2_with fail
      go_roundw
      case rel => exact ⟨j + 1, by omega, by go_num, by rw [← HK10.out], g⟩
      case measure => simp [intOf]; omega
    · have e : j = n := by omega
      subst e
      go_wp2_with fail
      go_ret
      exact ⟨rfl, g⟩

end Go.Proofs.Ytmboclfgldgefaa
