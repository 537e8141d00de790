/-
  Rows marked (with wide bounds), and looked at again.
-/
import Derived.Test.YtmboclfgldgefaaGreatCMRdw

namespace Go.Proofs.YtmboclfgldgefaaGreat
open Go.RowKit
set_option linter.unusedVariables false

set_option maxRecDepth 20000 in
set_option maxHeartbeats 4000000 in
theorem markRowS_wide (a : Option Addr) (lo hi : Nat) (rs : List Rw) (n c k : Nat) (w : World) (hn : rs.length = n) (hm : n ≤ 1048576) (hk0 : 1 ≤ k) (hk1 : k ≤ 50000000) (ha : SlIn rwE 4 lo hi w a rs) :
    Calls Tryz.prog 30 #[.slice a n c, .int .i64 k] w fun e w' => e = .returned (.int .i64 ((k + 4 * n : Nat) : Int)) ∧ Turned lo hi w w' ∧ SlIn rwE 4 lo hi w' a ((List.range n).map (mkR k)) := by
  have HN : Hid (rs.length = n) := hn
  clear hn
  go_enter Tryz.func30, Tryz.ntmps30
  go_wp2_with fail
  go_loopw [5, 1] (fun i kk wr => ∃ j : Nat, j ≤ n ∧ i = .int .i64 j ∧ kk = .int .i64 ((k + 4 * j : Nat) : Int) ∧ Turned lo hi w wr ∧ SlIn rwE 4 lo hi wr a (mkL k j rs)) (fun i _ _ => n - (intOf i).toNat)
  case atStart => exact ⟨0, Nat.zero_le _, rfl, rfl, Turned.refl _ _ _, ha⟩
  case round =>
    obtain ⟨j, hj, rfl, rfl, ht, hS⟩ := hrel
    clear ha
    by_cases hlt : j < n
    · obtain ⟨x, hx⟩ := mkL_at (k := k) (rs := rs) (j := j) (by rw [HN.out]; exact hlt)
      have HS : Hid ((mkL k j rs).set j (mkR k j) = mkL k (j + 1) rs) := mkL_set (by rw [HN.out]; exact hlt)
      have hxl : j < (mkL k j rs).length := (List.getElem?_eq_some_iff.1 hx).1
      have hjn : (j : Int) < (n : Int) := by omega
      obtain ⟨kk, hkk⟩ : ∃ kk : Nat, kk = k + 4 * j := ⟨_, rfl⟩
      have HK : Hid (kk = k + 4 * j) := hkk
      have hkb : kk ≤ 60000000 := by omega
      have hk1' : 1 ≤ kk := by omega
      rw [← hkk]
      clear hkk
      obtain ⟨k1, hq1⟩ : ∃ k1 : Nat, k1 = kk + 1 := ⟨_, rfl⟩
      obtain ⟨k2, hq2⟩ : ∃ k2 : Nat, k2 = k1 + 1 := ⟨_, rfl⟩
      obtain ⟨k3, hq3⟩ : ∃ k3 : Nat, k3 = k2 + 1 := ⟨_, rfl⟩
      obtain ⟨k4, hq4⟩ : ∃ k4 : Nat, k4 = k3 + 1 := ⟨_, rfl⟩
      have e1 : (kk : Int) + 1 = (k1 : Nat) := by omega
      have e2 : (k1 : Int) + 1 = (k2 : Nat) := by omega
      have e3 : (k2 : Int) + 1 = (k3 : Nat) := by omega
      have e4 : (k3 : Int) + 1 = (k4 : Nat) := by omega
      have HK4 : Hid (k4 = k + 4 * (j + 1)) := by show _ = _; have := HK.out; omega
      have hk4 : k4 ≤ 61000000 := by omega
      have hk3 : 1 ≤ k3 ∧ k3 ≤ 61000000 := by omega
      have HM : Hid (mkR k j = ⟨(kk : Nat), (k1 : Nat), (k2 : Nat), mtx k3⟩) := by show _ = _; rw [hq3, hq2, hq1, HK.out]; rfl
      clear hq1 hq2 hq3 hq4
      generalize mkL k j rs = xs at hS hx HS hxl
      obtain ⟨b, off, rfl⟩ : ∃ b off, a = some ⟨b, off, none⟩ := by
        rcases hS with rfl | ⟨b, off, e, _⟩
        · simp at hx
        · exact ⟨b, off, e⟩
      obtain ⟨xt, xk, xv, xs0⟩ := x
      obtain ⟨hlo, hhi, ⟨c0, c1, c2, c3⟩, hf⟩ := hS.at4 hx
      have f0 := hf 0 (by omega)
      simp only [Nat.add_zero] at f0
      have S1 := hS.set1 (x' := ⟨(kk : Nat), xk, xv, xs0⟩) (c := 0) (v := .int .i64 (kk : Nat)) hx (by omega) rfl
      have T1 := ht.setCell (p := ⟨b, off + j * 4, none⟩) hlo hhi (.int .i64 (kk : Nat))
      simp only [Nat.add_zero] at S1
      go_upto_region 6 with (fail)
      clear c0 c1 c2 c3 f0 hf hS ht
      generalize wr.setCell ⟨b, off + j * 4, none⟩ (.int .i64 (kk : Nat)) = V1 at S1 T1 ⊢
      have hx1 : (xs.set j ⟨(kk : Nat), xk, xv, xs0⟩)[j]? = some ⟨(kk : Nat), xk, xv, xs0⟩ := List.getElem?_set_self hxl
      obtain ⟨_, _, ⟨c0, c1, c2, c3⟩, hf⟩ := S1.at4 hx1
      have f1 := hf 1 (by omega)
      have S2 := S1.set1 (x' := ⟨(kk : Nat), (k1 : Nat), xv, xs0⟩) (c := 1) (v := .int .i64 (k1 : Nat)) hx1 (by omega) rfl
      have T2 := T1.setCell (p := ⟨b, off + j * 4 + 1, none⟩) hlo hhi (.int .i64 (k1 : Nat))
      rw [List.set_set] at S2
      go_upto_region 8 with (fail)
      clear c0 c1 c2 c3 f1 hf S1 T1 hx1
      generalize V1.setCell ⟨b, off + j * 4 + 1, none⟩ (.int .i64 (k1 : Nat)) = V2 at S2 T2 ⊢
      have hx2 : (xs.set j ⟨(kk : Nat), (k1 : Nat), xv, xs0⟩)[j]? = some ⟨(kk : Nat), (k1 : Nat), xv, xs0⟩ := List.getElem?_set_self hxl
      obtain ⟨_, _, ⟨c0, c1, c2, c3⟩, hf⟩ := S2.at4 hx2
      have f2 := hf 2 (by omega)
      have S3 := S2.set1 (x' := ⟨(kk : Nat), (k1 : Nat), (k2 : Nat), xs0⟩) (c := 2) (v := .int .i64 (k2 : Nat)) hx2 (by omega) rfl
      have T3 := T2.setCell (p := ⟨b, off + j * 4 + 2, none⟩) hlo hhi (.int .i64 (k2 : Nat))
      rw [List.set_set] at S3
      go_upto_region 10 with (fail)
      clear c0 c1 c2 c3 f2 hf S2 T2 hx2
      generalize V2.setCell ⟨b, off + j * 4 + 2, none⟩ (.int .i64 (k2 : Nat)) = V3 at S3 T3 ⊢
      go_wp2_with fail
      refine (markText_any k3 hk3.1 (by omega) _).mono ?_
      rintro e w4 ⟨rfl, g4⟩
      have S3 := S3.below g4
      have T3 := T3.trans (Turned.ofBelow g4)
      have hx3 : (xs.set j ⟨(kk : Nat), (k1 : Nat), (k2 : Nat), xs0⟩)[j]? = some ⟨(kk : Nat), (k1 : Nat), (k2 : Nat), xs0⟩ := List.getElem?_set_self hxl
      obtain ⟨_, _, ⟨c0, c1, c2, c3⟩, hf⟩ := S3.at4 hx3
      have f3 := hf 3 (by omega)
      generalize mtx k3 = ms at HM ⊢
      have S4 := S3.set1 (x' := ⟨(kk : Nat), (k1 : Nat), (k2 : Nat), ms⟩) (c := 3) (v := .string ms) hx3 (by omega) rfl
      have T4 := T3.setCell (p := ⟨b, off + j * 4 + 3, none⟩) hlo hhi (.string ms)
      rw [List.set_set] at S4
      have HS4 : Hid (SlIn rwE 4 lo hi (w4.setCell ⟨b, off + j * 4 + 3, none⟩ (.string ms)) (some ⟨b, off, none⟩) (mkL k (j + 1) rs)) := by rw [← HS.out, HM.out]; exact S4
      clear S4 S3 T3 g4 hx3 hf
      go_wp2_with fail
      go_roundw
      case rel => exact ⟨j + 1, by omega, by go_num, by rw [← HK4.out], T4, HS4.out⟩
      case measure => simp [intOf]; omega
    · have e : j = n := by omega
      subst e
      have HE : Hid (mkL k j rs = (List.range j).map (mkR k)) := by show _ = _; have := mkL_all (k := k) (rs := rs); rw [HN.out] at this; exact this
      go_wp2_with fail
      go_ret
      exact ⟨rfl, ht, by rw [← HE.out]; exact hS⟩


set_option maxRecDepth 20000 in
set_option maxHeartbeats 4000000 in
theorem heldRowS_any (a : Option Addr) (n c k : Nat) (w : World) (hm : n ≤ 1000) (hk0 : 1 ≤ k) (hk1 : k ≤ 1000000) (ha : Rs rwE 4 w a ((List.range n).map (mkR k))) :
    Calls Tryz.prog 32 #[.slice a n c, .int .i64 k] w fun e w' => e = .returned (.int .i64 ((k + 4 * n : Nat) : Int)) ∧ Below w.heap.size w w' := by
  have HA : Hid (Rs rwE 4 w a ((List.range n).map (mkR k))) := ha
  clear ha
  go_enter Tryz.func32, Tryz.ntmps32
  go_wp2_with fail
  go_loopw [5, 1] (fun i kk wr => ∃ j : Nat, j ≤ n ∧ i = .int .i64 j ∧ kk = .int .i64 ((k + 4 * j : Nat) : Int) ∧ Below w.heap.size w wr) (fun i _ _ => n - (intOf i).toNat)
  case atStart => exact ⟨0, Nat.zero_le _, rfl, rfl, Below.refl _ _⟩
  case round =>
    obtain ⟨j, hj, rfl, rfl, g⟩ := hrel
    by_cases hlt : j < n
    · have hx : ((List.range n).map (mkR k))[j]? = some (mkR k j) := by simp [hlt]
      have hjn : (j : Int) < (n : Int) := by omega
      obtain ⟨kk, hkk⟩ : ∃ kk : Nat, kk = k + 4 * j := ⟨_, rfl⟩
      have HK : Hid (kk = k + 4 * j) := hkk
      have hkb : kk ≤ 2000000 := by omega
      have hk1' : 1 ≤ kk := by omega
      rw [← hkk]
      clear hkk
      obtain ⟨k1, hq1⟩ : ∃ k1 : Nat, k1 = kk + 1 := ⟨_, rfl⟩
      obtain ⟨k2, hq2⟩ : ∃ k2 : Nat, k2 = k1 + 1 := ⟨_, rfl⟩
      obtain ⟨k3, hq3⟩ : ∃ k3 : Nat, k3 = k2 + 1 := ⟨_, rfl⟩
      obtain ⟨k4, hq4⟩ : ∃ k4 : Nat, k4 = k3 + 1 := ⟨_, rfl⟩
      have e1 : (kk : Int) + 1 = (k1 : Nat) := by omega
      have e2 : (k1 : Int) + 1 = (k2 : Nat) := by omega
      have e3 : (k2 : Int) + 1 = (k3 : Nat) := by omega
      have e4 : (k3 : Int) + 1 = (k4 : Nat) := by omega
      have HK4 : Hid (k4 = k + 4 * (j + 1)) := by show _ = _; have := HK.out; omega
      have hk4 : k4 ≤ 3000000 := by omega
      have hk3 : 1 ≤ k3 ∧ k3 ≤ 3000000 := by omega
      have HM : mkR k j = ⟨(kk : Nat), (k1 : Nat), (k2 : Nat), mtx k3⟩ := by rw [hq3, hq2, hq1, HK.out]; rfl
      clear hq1 hq2 hq3 hq4
      obtain ⟨b, off, rfl, hC⟩ := HA.out.row hx
      rw [HM] at hC
      have hC := hC.below g hC.lt
      clear HM hx
      obtain ⟨c0, c1, c2, c3⟩ := hC
      dsimp only at c0 c1 c2
      go_upto_region 13 with (fail)
      have hS0 : RowC wr.drew b (off + j * 4) ⟨(kk : Nat), (k1 : Nat), (k2 : Nat), mtx k3⟩ ∧ Below w.heap.size w wr.drew := ⟨⟨c0, c1, c2, c3⟩, g.trans ⟨rfl, rfl, rfl, Nat.le_refl _, fun _ _ => rfl⟩⟩
      clear c0 c1 c2 c3 g
      refine wp_region_held_drew (S := fun V => RowC V b (off + j * 4) ⟨(kk : Nat), (k1 : Nat), (k2 : Nat), mtx k3⟩ ∧ Below w.heap.size w V) (by kernel_rfl) hS0 (fun hHeld => ?_)
      clear hS0
      refine wpAnyH_take (i := 0) (v := ?v1) rfl (by kernel_rfl) (by kernel_rfl) (by kernel_rfl) (fun _ _ _ h => h) (Or.inl ⟨by kernel_rfl, ?h1⟩) hHeld ?_
      case h1 => intro u hSw; obtain ⟨⟨q0, q1, q2, q3⟩, _⟩ := hSw; dsimp only at q0 q1 q2 q3; go_simp; try with_reducible rfl
      try simp only [List.getElem_toArray]
      try simp only [List.getElem_cons_succ]
      try simp only [List.getElem_cons_zero]
      try simp only [Act.put]
      try simp only [List.setIfInBounds_toArray]
      try simp only [List.set]
      refine wpAnyH_take (i := 1) (v := ?v2) rfl (by kernel_rfl) (by kernel_rfl) (by kernel_rfl) (fun _ _ _ h => h) (Or.inl ⟨by kernel_rfl, ?h2⟩) hHeld ?_
      case h2 => intro u hSw; obtain ⟨⟨q0, q1, q2, q3⟩, _⟩ := hSw; dsimp only at q0 q1 q2 q3; go_simp; try with_reducible rfl
      try simp only [List.getElem_toArray]
      try simp only [List.getElem_cons_succ]
      try simp only [List.getElem_cons_zero]
      try simp only [Act.put]
      try simp only [List.setIfInBounds_toArray]
      try simp only [List.set]
      refine wpAnyH_take (i := 2) (v := ?v3) rfl (by kernel_rfl) (by kernel_rfl) (by kernel_rfl) (fun _ _ _ h => h) (Or.inl ⟨by kernel_rfl, ?h3⟩) hHeld ?_
      case h3 => intro u hSw; obtain ⟨⟨q0, q1, q2, q3⟩, _⟩ := hSw; dsimp only at q0 q1 q2 q3; go_simp; try with_reducible rfl
      try simp only [List.getElem_toArray]
      try simp only [List.getElem_cons_succ]
      try simp only [List.getElem_cons_zero]
      try simp only [Act.put]
      try simp only [List.setIfInBounds_toArray]
      try simp only [List.set]
      refine wpAnyH_take (i := 3) (v := ?v4) rfl (by kernel_rfl) (by kernel_rfl) (by kernel_rfl) (fun _ _ _ h => h) (Or.inl ⟨by kernel_rfl, ?h4⟩) hHeld ?_
      case h4 => intro u hSw; obtain ⟨⟨q0, q1, q2, q3⟩, _⟩ := hSw; dsimp only at q0 q1 q2 q3; go_simp; try with_reducible rfl
      try simp only [List.getElem_toArray]
      try simp only [List.getElem_cons_succ]
      try simp only [List.getElem_cons_zero]
      try simp only [Act.put]
      try simp only [List.setIfInBounds_toArray]
      try simp only [List.set]
      refine wpAnyH_take (i := 4) (v := ?v5) rfl (by kernel_rfl) (by kernel_rfl) (by kernel_rfl) (fun _ _ _ h => h) (Or.inl ⟨by kernel_rfl, ?h5⟩) hHeld ?_
      case h5 => intro u hSw; obtain ⟨⟨q0, q1, q2, q3⟩, _⟩ := hSw; dsimp only at q0 q1 q2 q3; go_simp; try with_reducible rfl
      try simp only [List.getElem_toArray]
      try simp only [List.getElem_cons_succ]
      try simp only [List.getElem_cons_zero]
      try simp only [Act.put]
      try simp only [List.setIfInBounds_toArray]
      try simp only [List.set]
      refine wpAnyH_take (i := 5) (v := ?v6) rfl (by kernel_rfl) (by kernel_rfl) (by kernel_rfl) (fun _ _ _ h => h) (Or.inl ⟨by kernel_rfl, ?h6⟩) hHeld ?_
      case h6 => intro u hSw; obtain ⟨⟨q0, q1, q2, q3⟩, _⟩ := hSw; dsimp only at q0 q1 q2 q3; go_simp; try with_reducible rfl
      try simp only [List.getElem_toArray]
      try simp only [List.getElem_cons_succ]
      try simp only [List.getElem_cons_zero]
      try simp only [Act.put]
      try simp only [List.setIfInBounds_toArray]
      try simp only [List.set]
      refine wpAnyH_ready (rs := [6]) (by kernel_rfl) (by simp) ?_
      refine AllReadyH.cons rfl (fun K hK => ?_) AllReadyH.nil
      go_simp
      go_wp2_with (go_at_call 57; refine (markText_any k3 hk3.1 (by omega) _).mono ?_; rintro e w4 ⟨rfl, g4⟩; generalize mtx k3 = ms at *)
      refine hK.out _ _ (⟨hHeld.1.below g4 (Nat.lt_of_lt_of_le hHeld.1.lt (Nat.le_refl _)), hHeld.2.trans (g4.mono hHeld.2.size)⟩) (fun hHeld => ?_)
      clear hK K
      try simp only [Act.put]
      try simp only [List.setIfInBounds_toArray]
      try simp only [List.set]
      refine wpAnyH_take (i := 7) (v := ?v7) rfl (by kernel_rfl) (by kernel_rfl) (by kernel_rfl) (fun _ _ _ h => h) (Or.inl ⟨by kernel_rfl, ?h7⟩) hHeld ?_
      case h7 => intro u hSw; obtain ⟨⟨q0, q1, q2, q3⟩, _⟩ := hSw; dsimp only at q0 q1 q2 q3; go_simp; try with_reducible rfl
      try simp only [List.getElem_toArray]
      try simp only [List.getElem_cons_succ]
      try simp only [List.getElem_cons_zero]
      try simp only [Act.put]
      try simp only [List.setIfInBounds_toArray]
      try simp only [List.set]
      refine wpAnyH_done (by kernel_rfl) ?_ _
      have g := hHeld.2
      clear hHeld
      go_wp2_with fail
      go_roundw
      case rel => exact ⟨j + 1, by omega, by go_num, by rw [← HK4.out], g⟩
      case measure => simp [intOf]; omega
    · have e : j = n := by omega
      subst e
      go_wp2_with fail
      go_ret
      exact ⟨rfl, g⟩

end Go.Proofs.YtmboclfgldgefaaGreat
