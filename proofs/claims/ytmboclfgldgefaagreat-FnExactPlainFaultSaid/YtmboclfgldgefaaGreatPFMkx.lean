/-
  markChangeS once more, with wider bounds.
-/
import Derived.Test.YtmboclfgldgefaaGreatPFMkc
import Derived.Test.YtmboclfgldgefaaGreatPFTxc
import Derived.Test.YtmboclfgldgefaaGreatPFTxd

namespace Go.Proofs.YtmboclfgldgefaaGreat
open Go.RowKit
set_option linter.unusedVariables false

set_option maxRecDepth 20000 in
set_option maxHeartbeats 4000000 in
theorem markChangeS_wide (a : Option Addr) (lo hi : Nat) (cs : List Chg) (n c k : Nat) (w : World) (hn : cs.length = n) (hm : n ≤ 1048576) (hk0 : 1 ≤ k) (hk1 : k ≤ 50000000) (ha : SlIn chE 10 lo hi w a cs) :
    Calls Tryz.prog 58 #[.slice a n c, .int .i64 k] w fun e w' => e = .returned (.int .i64 ((k + 10 * n : Nat) : Int)) ∧ Turned lo hi w w' ∧ SlIn chE 10 lo hi w' a ((List.range n).map (mkC k)) := by
  have HN : Hid (cs.length = n) := hn
  clear hn
  go_enter Tryz.func58, Tryz.ntmps58
  go_wp2_with fail
  go_loopw [5, 1] (fun i kk wr => ∃ j : Nat, j ≤ n ∧ i = .int .i64 j ∧ kk = .int .i64 ((k + 10 * j : Nat) : Int) ∧ Turned lo hi w wr ∧ SlIn chE 10 lo hi wr a (mkLC k j cs)) (fun i _ _ => n - (intOf i).toNat)
  case atStart => exact ⟨0, Nat.zero_le _, rfl, rfl, Turned.refl _ _ _, ha⟩
  case round =>
    obtain ⟨j, hj, rfl, rfl, ht, hS⟩ := hrel
    clear ha
    by_cases hlt : j < n
    · obtain ⟨x, hx⟩ := mkLC_at (k := k) (cs := cs) (j := j) (by rw [HN.out]; exact hlt)
      have HS : Hid ((mkLC k j cs).set j (mkC k j) = mkLC k (j + 1) cs) := mkLC_set (by rw [HN.out]; exact hlt)
      have hxl : j < (mkLC k j cs).length := (List.getElem?_eq_some_iff.1 hx).1
      have hjn : (j : Int) < (n : Int) := by omega
      obtain ⟨k0, hk00⟩ : ∃ k0 : Nat, k0 = k + 10 * j := ⟨_, rfl⟩
      have HK : Hid (k0 = k + 10 * j) := hk00
      have hkb : k0 ≤ 65000000 := by omega
      have hk1' : 1 ≤ k0 := by omega
      rw [← hk00]
      clear hk00
      obtain ⟨k1, hq1⟩ : ∃ k1 : Nat, k1 = k0 + 1 := ⟨_, rfl⟩
      obtain ⟨k2, hq2⟩ : ∃ k2 : Nat, k2 = k1 + 1 := ⟨_, rfl⟩
      obtain ⟨k3, hq3⟩ : ∃ k3 : Nat, k3 = k2 + 1 := ⟨_, rfl⟩
      obtain ⟨k4, hq4⟩ : ∃ k4 : Nat, k4 = k3 + 1 := ⟨_, rfl⟩
      obtain ⟨k5, hq5⟩ : ∃ k5 : Nat, k5 = k4 + 1 := ⟨_, rfl⟩
      obtain ⟨k6, hq6⟩ : ∃ k6 : Nat, k6 = k5 + 1 := ⟨_, rfl⟩
      obtain ⟨k7, hq7⟩ : ∃ k7 : Nat, k7 = k6 + 1 := ⟨_, rfl⟩
      obtain ⟨k8, hq8⟩ : ∃ k8 : Nat, k8 = k7 + 1 := ⟨_, rfl⟩
      obtain ⟨k9, hq9⟩ : ∃ k9 : Nat, k9 = k8 + 1 := ⟨_, rfl⟩
      obtain ⟨k10, hq10⟩ : ∃ k10 : Nat, k10 = k9 + 1 := ⟨_, rfl⟩
      have e1 : (k0 : Int) + 1 = (k1 : Nat) := by omega
      have e2 : (k1 : Int) + 1 = (k2 : Nat) := by omega
      have e3 : (k2 : Int) + 1 = (k3 : Nat) := by omega
      have e4 : (k3 : Int) + 1 = (k4 : Nat) := by omega
      have e5 : (k4 : Int) + 1 = (k5 : Nat) := by omega
      have e6 : (k5 : Int) + 1 = (k6 : Nat) := by omega
      have e7 : (k6 : Int) + 1 = (k7 : Nat) := by omega
      have e8 : (k7 : Int) + 1 = (k8 : Nat) := by omega
      have e9 : (k8 : Int) + 1 = (k9 : Nat) := by omega
      have e10 : (k9 : Int) + 1 = (k10 : Nat) := by omega
      have HK10 : Hid (k10 = k + 10 * (j + 1)) := by show _ = _; have := HK.out; omega
      have hk10 : k10 ≤ 70000000 := by omega
      have hk4 : 1 ≤ k4 ∧ k4 ≤ 70000000 := by omega
      have hk9 : 1 ≤ k9 ∧ k9 ≤ 70000000 := by omega
      obtain ⟨r0, hr0⟩ : ∃ r0 : Nat, r0 = k0 % 3 := ⟨_, rfl⟩
      have ra0 : Int.tmod (k0 : Int) 3 = (r0 : Nat) := by rw [Int.tmod_eq_emod_of_nonneg (by omega)]; omega
      have rb0 : (k0 : Int) % 3 = (r0 : Nat) := by omega
      obtain ⟨m0, hm0⟩ : ∃ m0 : Bool, m0 = (((r0 : Nat) : Int) == 0) := ⟨_, rfl⟩
      have rc0 : ((((r0 : Nat) : Int)) == 0) = m0 := hm0.symm
      obtain ⟨r5, hr5⟩ : ∃ r5 : Nat, r5 = k5 % 3 := ⟨_, rfl⟩
      have ra5 : Int.tmod (k5 : Int) 3 = (r5 : Nat) := by rw [Int.tmod_eq_emod_of_nonneg (by omega)]; omega
      have rb5 : (k5 : Int) % 3 = (r5 : Nat) := by omega
      obtain ⟨m5, hm5⟩ : ∃ m5 : Bool, m5 = (((r5 : Nat) : Int) == 0) := ⟨_, rfl⟩
      have rc5 : ((((r5 : Nat) : Int)) == 0) = m5 := hm5.symm
      have HM : Hid (mkC k j = ⟨m0, ⟨(k1 : Nat), (k2 : Nat), (k3 : Nat), mtx k4⟩, m5, ⟨(k6 : Nat), (k7 : Nat), (k8 : Nat), mtx k9⟩⟩) := by
        show _ = _
        rw [hm0, hm5, hr0, hr5, hq9, hq8, hq7, hq6, hq5, hq4, hq3, hq2, hq1, HK.out]
        rfl
      clear hq1 hq2 hq3 hq4 hq5 hq6 hq7 hq8 hq9 hq10 hr0 hr5 hm0 hm5
      generalize mkLC k j cs = zs at hS hx HS hxl
      obtain ⟨b, off, rfl⟩ : ∃ b off, a = some ⟨b, off, none⟩ := by
        rcases hS with rfl | ⟨b, off, e, _⟩
        · simp at hx
        · exact ⟨b, off, e⟩
      obtain ⟨x0, ⟨xt, xk, xv, xs⟩, x5, ⟨yt, yk, yv, ys⟩⟩ := x
      obtain ⟨hlo, hhi, ⟨c0, c1, c2, c3, c4, c5, c6, c7, c8, c9⟩, hf⟩ := hS.at10 hx
      have f0 := hf 0 (by omega)
      simp only [Nat.add_zero] at f0
      have S1 := hS.setG chE_len (x' := ⟨m0, ⟨xt, xk, xv, xs⟩, x5, ⟨yt, yk, yv, ys⟩⟩) (c := 0) (v := .bool m0) hx (by omega) rfl
      have T1 := ht.setCell (p := ⟨b, off + j * 10, none⟩) hlo hhi (.bool m0)
      simp only [Nat.add_zero] at S1
      go_upto_region 6 with (fail)
      clear c0 c1 c2 c3 c4 c5 c6 c7 c8 c9 f0 hf hS ht 
      generalize wr.setCell ⟨b, off + j * 10, none⟩ (.bool m0) = V1 at S1 T1 ⊢
      have hx1 : (zs.set j ⟨m0, ⟨xt, xk, xv, xs⟩, x5, ⟨yt, yk, yv, ys⟩⟩)[j]? = some ⟨m0, ⟨xt, xk, xv, xs⟩, x5, ⟨yt, yk, yv, ys⟩⟩ := List.getElem?_set_self hxl
      obtain ⟨_, _, ⟨c0, c1, c2, c3, c4, c5, c6, c7, c8, c9⟩, hf⟩ := S1.at10 hx1
      have f1 := hf 1 (by omega)
      have S2 := S1.setG chE_len (x' := ⟨m0, ⟨(k1 : Nat), xk, xv, xs⟩, x5, ⟨yt, yk, yv, ys⟩⟩) (c := 1) (v := .int .i64 (k1 : Nat)) hx1 (by omega) rfl
      have T2 := T1.setCell (p := ⟨b, off + j * 10 + 1, none⟩) hlo hhi (.int .i64 (k1 : Nat))
      rw [List.set_set] at S2
      go_upto_region 8 with (fail)
      clear c0 c1 c2 c3 c4 c5 c6 c7 c8 c9 f1 hf S1 T1 hx1
      generalize V1.setCell ⟨b, off + j * 10 + 1, none⟩ (.int .i64 (k1 : Nat)) = V2 at S2 T2 ⊢
      have hx2 : (zs.set j ⟨m0, ⟨(k1 : Nat), xk, xv, xs⟩, x5, ⟨yt, yk, yv, ys⟩⟩)[j]? = some ⟨m0, ⟨(k1 : Nat), xk, xv, xs⟩, x5, ⟨yt, yk, yv, ys⟩⟩ := List.getElem?_set_self hxl
      obtain ⟨_, _, ⟨c0, c1, c2, c3, c4, c5, c6, c7, c8, c9⟩, hf⟩ := S2.at10 hx2
      have f2 := hf 2 (by omega)
      have S3 := S2.setG chE_len (x' := ⟨m0, ⟨(k1 : Nat), (k2 : Nat), xv, xs⟩, x5, ⟨yt, yk, yv, ys⟩⟩) (c := 2) (v := .int .i64 (k2 : Nat)) hx2 (by omega) rfl
      have T3 := T2.setCell (p := ⟨b, off + j * 10 + 2, none⟩) hlo hhi (.int .i64 (k2 : Nat))
      rw [List.set_set] at S3
      go_upto_region 10 with (fail)
      clear c0 c1 c2 c3 c4 c5 c6 c7 c8 c9 f2 hf S2 T2 hx2
      generalize V2.setCell ⟨b, off + j * 10 + 2, none⟩ (.int .i64 (k2 : Nat)) = V3 at S3 T3 ⊢
      have hx3 : (zs.set j ⟨m0, ⟨(k1 : Nat), (k2 : Nat), xv, xs⟩, x5, ⟨yt, yk, yv, ys⟩⟩)[j]? = some ⟨m0, ⟨(k1 : Nat), (k2 : Nat), xv, xs⟩, x5, ⟨yt, yk, yv, ys⟩⟩ := List.getElem?_set_self hxl
      obtain ⟨_, _, ⟨c0, c1, c2, c3, c4, c5, c6, c7, c8, c9⟩, hf⟩ := S3.at10 hx3
      have f3 := hf 3 (by omega)
      have S4 := S3.setG chE_len (x' := ⟨m0, ⟨(k1 : Nat), (k2 : Nat), (k3 : Nat), xs⟩, x5, ⟨yt, yk, yv, ys⟩⟩) (c := 3) (v := .int .i64 (k3 : Nat)) hx3 (by omega) rfl
      have T4 := T3.setCell (p := ⟨b, off + j * 10 + 3, none⟩) hlo hhi (.int .i64 (k3 : Nat))
      rw [List.set_set] at S4
      go_upto_region 12 with (fail)
      clear c0 c1 c2 c3 c4 c5 c6 c7 c8 c9 f3 hf S3 T3 hx3
      generalize V3.setCell ⟨b, off + j * 10 + 3, none⟩ (.int .i64 (k3 : Nat)) = V4 at S4 T4 ⊢
      go_wp2_with fail
      refine (markText_any k4 hk4.1 (by omega) _).mono ?_
      rintro e w4 ⟨rfl, g4⟩
      have S4 := S4.below g4
      have T4 := T4.trans (Turned.ofBelow g4)
      obtain ⟨s4, hs4⟩ : ∃ s, s = mtx k4 := ⟨_, rfl⟩
      rw [← hs4] at HM ⊢
      clear hs4
      have hx4 : (zs.set j ⟨m0, ⟨(k1 : Nat), (k2 : Nat), (k3 : Nat), xs⟩, x5, ⟨yt, yk, yv, ys⟩⟩)[j]? = some ⟨m0, ⟨(k1 : Nat), (k2 : Nat), (k3 : Nat), xs⟩, x5, ⟨yt, yk, yv, ys⟩⟩ := List.getElem?_set_self hxl
      obtain ⟨_, _, ⟨c0, c1, c2, c3, c4, c5, c6, c7, c8, c9⟩, hf⟩ := S4.at10 hx4
      have f4 := hf 4 (by omega)
      have S5 := S4.setG chE_len (x' := ⟨m0, ⟨(k1 : Nat), (k2 : Nat), (k3 : Nat), s4⟩, x5, ⟨yt, yk, yv, ys⟩⟩) (c := 4) (v := .string s4) hx4 (by omega) rfl
      have T5 := T4.setCell (p := ⟨b, off + j * 10 + 4, none⟩) hlo hhi (.string s4)
      rw [List.set_set] at S5
      go_upto_region 14 with (fail)
      clear c0 c1 c2 c3 c4 c5 c6 c7 c8 c9 f4 hf S4 T4 hx4
      generalize w4.setCell ⟨b, off + j * 10 + 4, none⟩ (.string s4) = V5 at S5 T5 ⊢
      have hx5 : (zs.set j ⟨m0, ⟨(k1 : Nat), (k2 : Nat), (k3 : Nat), s4⟩, x5, ⟨yt, yk, yv, ys⟩⟩)[j]? = some ⟨m0, ⟨(k1 : Nat), (k2 : Nat), (k3 : Nat), s4⟩, x5, ⟨yt, yk, yv, ys⟩⟩ := List.getElem?_set_self hxl
      obtain ⟨_, _, ⟨c0, c1, c2, c3, c4, c5, c6, c7, c8, c9⟩, hf⟩ := S5.at10 hx5
      have f5 := hf 5 (by omega)
      have S6 := S5.setG chE_len (x' := ⟨m0, ⟨(k1 : Nat), (k2 : Nat), (k3 : Nat), s4⟩, m5, ⟨yt, yk, yv, ys⟩⟩) (c := 5) (v := .bool m5) hx5 (by omega) rfl
      have T6 := T5.setCell (p := ⟨b, off + j * 10 + 5, none⟩) hlo hhi (.bool m5)
      rw [List.set_set] at S6
      go_upto_region 16 with (fail)
      clear c0 c1 c2 c3 c4 c5 c6 c7 c8 c9 f5 hf S5 T5 hx5
      generalize V5.setCell ⟨b, off + j * 10 + 5, none⟩ (.bool m5) = V6 at S6 T6 ⊢
      have hx6 : (zs.set j ⟨m0, ⟨(k1 : Nat), (k2 : Nat), (k3 : Nat), s4⟩, m5, ⟨yt, yk, yv, ys⟩⟩)[j]? = some ⟨m0, ⟨(k1 : Nat), (k2 : Nat), (k3 : Nat), s4⟩, m5, ⟨yt, yk, yv, ys⟩⟩ := List.getElem?_set_self hxl
      obtain ⟨_, _, ⟨c0, c1, c2, c3, c4, c5, c6, c7, c8, c9⟩, hf⟩ := S6.at10 hx6
      have f6 := hf 6 (by omega)
      have S7 := S6.setG chE_len (x' := ⟨m0, ⟨(k1 : Nat), (k2 : Nat), (k3 : Nat), s4⟩, m5, ⟨(k6 : Nat), yk, yv, ys⟩⟩) (c := 6) (v := .int .i64 (k6 : Nat)) hx6 (by omega) rfl
      have T7 := T6.setCell (p := ⟨b, off + j * 10 + 6, none⟩) hlo hhi (.int .i64 (k6 : Nat))
      rw [List.set_set] at S7
      go_upto_region 18 with (fail)
      clear c0 c1 c2 c3 c4 c5 c6 c7 c8 c9 f6 hf S6 T6 hx6
      generalize V6.setCell ⟨b, off + j * 10 + 6, none⟩ (.int .i64 (k6 : Nat)) = V7 at S7 T7 ⊢
      have hx7 : (zs.set j ⟨m0, ⟨(k1 : Nat), (k2 : Nat), (k3 : Nat), s4⟩, m5, ⟨(k6 : Nat), yk, yv, ys⟩⟩)[j]? = some ⟨m0, ⟨(k1 : Nat), (k2 : Nat), (k3 : Nat), s4⟩, m5, ⟨(k6 : Nat), yk, yv, ys⟩⟩ := List.getElem?_set_self hxl
      obtain ⟨_, _, ⟨c0, c1, c2, c3, c4, c5, c6, c7, c8, c9⟩, hf⟩ := S7.at10 hx7
      have f7 := hf 7 (by omega)
      have S8 := S7.setG chE_len (x' := ⟨m0, ⟨(k1 : Nat), (k2 : Nat), (k3 : Nat), s4⟩, m5, ⟨(k6 : Nat), (k7 : Nat), yv, ys⟩⟩) (c := 7) (v := .int .i64 (k7 : Nat)) hx7 (by omega) rfl
      have T8 := T7.setCell (p := ⟨b, off + j * 10 + 7, none⟩) hlo hhi (.int .i64 (k7 : Nat))
      rw [List.set_set] at S8
      go_upto_region 20 with (fail)
      clear c0 c1 c2 c3 c4 c5 c6 c7 c8 c9 f7 hf S7 T7 hx7
      generalize V7.setCell ⟨b, off + j * 10 + 7, none⟩ (.int .i64 (k7 : Nat)) = V8 at S8 T8 ⊢
      have hx8 : (zs.set j ⟨m0, ⟨(k1 : Nat), (k2 : Nat), (k3 : Nat), s4⟩, m5, ⟨(k6 : Nat), (k7 : Nat), yv, ys⟩⟩)[j]? = some ⟨m0, ⟨(k1 : Nat), (k2 : Nat), (k3 : Nat), s4⟩, m5, ⟨(k6 : Nat), (k7 : Nat), yv, ys⟩⟩ := List.getElem?_set_self hxl
      obtain ⟨_, _, ⟨c0, c1, c2, c3, c4, c5, c6, c7, c8, c9⟩, hf⟩ := S8.at10 hx8
      have f8 := hf 8 (by omega)
      have S9 := S8.setG chE_len (x' := ⟨m0, ⟨(k1 : Nat), (k2 : Nat), (k3 : Nat), s4⟩, m5, ⟨(k6 : Nat), (k7 : Nat), (k8 : Nat), ys⟩⟩) (c := 8) (v := .int .i64 (k8 : Nat)) hx8 (by omega) rfl
      have T9 := T8.setCell (p := ⟨b, off + j * 10 + 8, none⟩) hlo hhi (.int .i64 (k8 : Nat))
      rw [List.set_set] at S9
      go_upto_region 22 with (fail)
      clear c0 c1 c2 c3 c4 c5 c6 c7 c8 c9 f8 hf S8 T8 hx8
      generalize V8.setCell ⟨b, off + j * 10 + 8, none⟩ (.int .i64 (k8 : Nat)) = V9 at S9 T9 ⊢
      go_wp2_with fail
      refine (markText_any k9 hk9.1 (by omega) _).mono ?_
      rintro e w9 ⟨rfl, g9⟩
      have S9 := S9.below g9
      have T9 := T9.trans (Turned.ofBelow g9)
      obtain ⟨s9, hs9⟩ : ∃ s, s = mtx k9 := ⟨_, rfl⟩
      rw [← hs9] at HM ⊢
      clear hs9
      have hx9 : (zs.set j ⟨m0, ⟨(k1 : Nat), (k2 : Nat), (k3 : Nat), s4⟩, m5, ⟨(k6 : Nat), (k7 : Nat), (k8 : Nat), ys⟩⟩)[j]? = some ⟨m0, ⟨(k1 : Nat), (k2 : Nat), (k3 : Nat), s4⟩, m5, ⟨(k6 : Nat), (k7 : Nat), (k8 : Nat), ys⟩⟩ := List.getElem?_set_self hxl
      obtain ⟨_, _, ⟨c0, c1, c2, c3, c4, c5, c6, c7, c8, c9⟩, hf⟩ := S9.at10 hx9
      have f9 := hf 9 (by omega)
      have S10 := S9.setG chE_len (x' := ⟨m0, ⟨(k1 : Nat), (k2 : Nat), (k3 : Nat), s4⟩, m5, ⟨(k6 : Nat), (k7 : Nat), (k8 : Nat), s9⟩⟩) (c := 9) (v := .string s9) hx9 (by omega) rfl
      have T10 := T9.setCell (p := ⟨b, off + j * 10 + 9, none⟩) hlo hhi (.string s9)
      rw [List.set_set] at S10
      have HS4 : Hid (SlIn chE 10 lo hi (w9.setCell ⟨b, off + j * 10 + 9, none⟩ (.string s9)) (some ⟨b, off, none⟩) (mkLC k (j + 1) cs)) := by rw [← HS.out, HM.out]; exact S10
      clear S10 S9 T9 hf hx9 g9
      go_wp2_with fail
      go_roundw
      case rel => exact ⟨j + 1, by omega, by go_num, by rw [← HK10.out], T10, HS4.out⟩
      case measure => simp [intOf]; omega
    · have e : j = n := by omega
      subst e
      have HE : Hid (mkLC k j cs = (List.range j).map (mkC k)) := by show _ = _; have := mkLC_all (k := k) (cs := cs); rw [HN.out] at this; exact this
      go_wp2_with fail
      go_ret
      exact ⟨rfl, ht, by rw [← HE.out]; exact hS⟩

end Go.Proofs.YtmboclfgldgefaaGreat

/-
  Numbers, keys and transactions marked, and looked at again.
-/
namespace Go.Proofs.YtmboclfgldgefaaGreat
open Go.RowKit Go.Maps
set_option linter.unusedVariables false
set_option maxRecDepth 20000

def mkI (k i : Nat) : Int := ((k + i : Nat) : Int)
def mkK (k i : Nat) : K2 := ⟨((k + 2 * i : Nat) : Int), ((k + 2 * i + 1 : Nat) : Int)⟩
/-- The first j are f's, the others as they are. -/
def mkG {α : Type} (f : Nat → α) (j : Nat) (xs : List α) : List α := (List.range j).map f ++ xs.drop j
theorem mkG_len {α : Type} {f : Nat → α} {j : Nat} {xs : List α} (h : j ≤ xs.length) : (mkG f j xs).length = xs.length := by simp [mkG]; omega
theorem mkG_at {α : Type} {f : Nat → α} {j : Nat} {xs : List α} (h : j < xs.length) : ∃ x, (mkG f j xs)[j]? = some x := ⟨_, List.getElem?_eq_getElem (by rw [mkG_len (by omega)]; exact h)⟩
theorem mkG_set {α : Type} {f : Nat → α} {j : Nat} {xs : List α} (h : j < xs.length) : (mkG f j xs).set j (f j) = mkG f (j + 1) xs := by
  unfold mkG
  rw [List.range_succ, List.map_append, List.set_append_right _ _ (by simp), List.length_map, List.length_range, Nat.sub_self, List.append_assoc]
  congr 1
  rw [List.drop_eq_getElem_cons h]
  rfl
theorem mkG_all {α : Type} {f : Nat → α} {xs : List α} {n : Nat} (h : xs.length = n) : mkG f n xs = (List.range n).map f := by
  unfold mkG
  rw [← h, List.drop_length, List.append_nil]

set_option maxHeartbeats 4000000 in
theorem markInt64S_any (a : Option Addr) (lo hi : Nat) (xs : List Int) (n c k : Nat) (w : World) (hn : xs.length = n) (hm : n ≤ 1048576) (hk1 : k ≤ 80000000) (ha : SlIn inE 1 lo hi w a xs) :
    Calls Tryz.prog 59 #[.slice a n c, .int .i64 k] w fun e w' => e = .returned (.int .i64 ((k + n : Nat) : Int)) ∧ Turned lo hi w w' ∧ SlIn inE 1 lo hi w' a ((List.range n).map (mkI k)) := by
  have HN : Hid (xs.length = n) := hn
  clear hn
  go_enter Tryz.func59, Tryz.ntmps59
  go_wp2_with fail
  go_loopw [5, 1] (fun i kk wr => ∃ j : Nat, j ≤ n ∧ i = .int .i64 j ∧ kk = .int .i64 ((k + j : Nat) : Int) ∧ Turned lo hi w wr ∧ SlIn inE 1 lo hi wr a (mkG (mkI k) j xs)) (fun i _ _ => n - (intOf i).toNat)
  case atStart => exact ⟨0, Nat.zero_le _, rfl, rfl, Turned.refl _ _ _, ha⟩
  case round =>
    obtain ⟨j, hj, rfl, rfl, ht, hS⟩ := hrel
    clear ha
    by_cases hlt : j < n
    · obtain ⟨x, hx⟩ := mkG_at (f := mkI k) (xs := xs) (j := j) (by rw [HN.out]; exact hlt)
      have HS : Hid ((mkG (mkI k) j xs).set j (mkI k j) = mkG (mkI k) (j + 1) xs) := mkG_set (by rw [HN.out]; exact hlt)
      have hjn : (j : Int) < (n : Int) := by omega
      have HM : Hid (mkI k j = ((k + j : Nat) : Int)) := rfl
      obtain ⟨k0, hk0⟩ : ∃ k0 : Nat, k + j = k0 := ⟨_, rfl⟩
      have HK : Hid (k + j = k0) := hk0
      have hkb : k0 ≤ 90000000 := by omega
      rw [hk0] at HM ⊢
      clear hk0
      generalize mkG (mkI k) j xs = zs at hS hx HS
      rw [HM.out] at HS
      obtain ⟨b, off, rfl⟩ : ∃ b off, a = some ⟨b, off, none⟩ := by
        rcases hS with rfl | ⟨b, off, e, _⟩
        · simp at hx
        · exact ⟨b, off, e⟩
      obtain ⟨hlo, hhi, c0, f0⟩ : lo ≤ b ∧ b < hi ∧ wr.cell? ⟨b, off + j, none⟩ = some (.int .i64 x) ∧ wr.frozen? ⟨b, off + j, none⟩ = false := by
        rcases hS with rfl | ⟨b', off', e, h1, h2, hc⟩
        · simp at hx
        · cases e
          have := hc j x hx 0 _ rfl
          rw [Nat.mul_one, Nat.add_zero] at this
          exact ⟨h1, h2, this.1, this.2⟩
      have S1 := hS.setG inE_len (x' := ((k0 : Nat) : Int)) (c := 0) (v := .int .i64 ((k0 : Nat) : Int)) hx (by omega) rfl
      rw [Nat.mul_one, Nat.add_zero] at S1
      rw [HS.out] at S1
      have T1 := ht.setCell (p := ⟨b, off + j, none⟩) hlo hhi (.int .i64 ((k0 : Nat) : Int))
      clear hS ht hx HS
      have HK1 : Hid (((k0 + 1 : Nat) : Int) = ((k + (j + 1) : Nat) : Int)) := by show _ = _; have := HK.out; omega
      go_wp2_with fail
      go_roundw
      case rel => exact ⟨j + 1, by omega, by go_num, by rw [← HK1.out]; go_num, T1, S1⟩
      case measure => simp [intOf]; omega
    · have e : j = n := by omega
      subst e
      rw [mkG_all HN.out] at hS
      obtain ⟨kk, hkk⟩ : ∃ kk, ((k + j : Nat) : Int) = kk := ⟨_, rfl⟩
      have HKK : Hid (((k + j : Nat) : Int) = kk) := hkk
      rw [hkk]
      clear hkk
      go_wp2_with fail
      go_ret
      exact ⟨by rw [HKK.out]; rfl, ht, hS⟩

set_option maxHeartbeats 4000000 in
theorem markKeyS_any (a : Option Addr) (lo hi : Nat) (xs : List K2) (n c k : Nat) (w : World) (hn : xs.length = n) (hm : n ≤ 1048576) (hk1 : k ≤ 80000000) (ha : SlIn kyE 2 lo hi w a xs) :
    Calls Tryz.prog 60 #[.slice a n c, .int .i64 k] w fun e w' => e = .returned (.int .i64 ((k + 2 * n : Nat) : Int)) ∧ Turned lo hi w w' ∧ SlIn kyE 2 lo hi w' a ((List.range n).map (mkK k)) := by
  have HN : Hid (xs.length = n) := hn
  clear hn
  go_enter Tryz.func60, Tryz.ntmps60
  go_wp2_with fail
  go_loopw [5, 1] (fun i kk wr => ∃ j : Nat, j ≤ n ∧ i = .int .i64 j ∧ kk = .int .i64 ((k + 2 * j : Nat) : Int) ∧ Turned lo hi w wr ∧ SlIn kyE 2 lo hi wr a (mkG (mkK k) j xs)) (fun i _ _ => n - (intOf i).toNat)
  case atStart => exact ⟨0, Nat.zero_le _, rfl, rfl, Turned.refl _ _ _, ha⟩
  case round =>
    obtain ⟨j, hj, rfl, rfl, ht, hS⟩ := hrel
    clear ha
    by_cases hlt : j < n
    · obtain ⟨x, hx⟩ := mkG_at (f := mkK k) (xs := xs) (j := j) (by rw [HN.out]; exact hlt)
      have HS : Hid ((mkG (mkK k) j xs).set j (mkK k j) = mkG (mkK k) (j + 1) xs) := mkG_set (by rw [HN.out]; exact hlt)
      have hjn : (j : Int) < (n : Int) := by omega
      obtain ⟨k0, hk0⟩ : ∃ k0 : Nat, k + 2 * j = k0 := ⟨_, rfl⟩
      obtain ⟨k1, hk1'⟩ : ∃ k1 : Nat, k0 + 1 = k1 := ⟨_, rfl⟩
      have HM : Hid (mkK k j = ⟨((k0 : Nat) : Int), ((k1 : Nat) : Int)⟩) := by show _ = _; rw [← hk1', ← hk0]; rfl
      have HK : Hid (k1 + 1 = k + 2 * (j + 1)) := by show _ = _; omega
      have hkb : k0 ≤ 90000000 := by omega
      have hkb1 : k1 ≤ 90000001 := by omega
      have e1 : ((k0 : Nat) : Int) + 1 = ((k1 : Nat) : Int) := by omega
      rw [hk0]
      clear hk0 hk1'
      have hxl : j < (mkG (mkK k) j xs).length := (List.getElem?_eq_some_iff.1 hx).1
      generalize mkG (mkK k) j xs = zs at hS hx HS hxl
      rw [HM.out] at HS
      obtain ⟨b, off, rfl⟩ : ∃ b off, a = some ⟨b, off, none⟩ := by
        rcases hS with rfl | ⟨b, off, e, _⟩
        · simp at hx
        · exact ⟨b, off, e⟩
      obtain ⟨x0, y0⟩ := x
      obtain ⟨hlo, hhi, ⟨c0, f0⟩, c1, f1⟩ : lo ≤ b ∧ b < hi ∧ (wr.cell? ⟨b, off + j * 2, none⟩ = some (.int .i64 x0) ∧ wr.frozen? ⟨b, off + j * 2, none⟩ = false) ∧ wr.cell? ⟨b, off + j * 2 + 1, none⟩ = some (.int .i64 y0) ∧ wr.frozen? ⟨b, off + j * 2 + 1, none⟩ = false := by
        rcases hS with rfl | ⟨b', off', e, h1, h2, hc⟩
        · simp at hx
        · cases e
          exact ⟨h1, h2, hc j _ hx 0 _ rfl, hc j _ hx 1 _ rfl⟩
      have S1 := hS.setG kyE_len (x' := ⟨((k0 : Nat) : Int), y0⟩) (c := 0) (v := .int .i64 ((k0 : Nat) : Int)) hx (by omega) rfl
      rw [Nat.add_zero] at S1
      have T1 := ht.setCell (p := ⟨b, off + j * 2, none⟩) hlo hhi (.int .i64 ((k0 : Nat) : Int))
      have hx1 : (zs.set j ⟨((k0 : Nat) : Int), y0⟩)[j]? = some ⟨((k0 : Nat) : Int), y0⟩ := List.getElem?_set_self hxl
      have S2 := S1.setG kyE_len (x' := ⟨((k0 : Nat) : Int), ((k1 : Nat) : Int)⟩) (c := 1) (v := .int .i64 ((k1 : Nat) : Int)) hx1 (by omega) rfl
      rw [List.set_set, HS.out] at S2
      have T2 := T1.setCell (p := ⟨b, off + j * 2 + 1, none⟩) hlo hhi (.int .i64 ((k1 : Nat) : Int))
      clear hS ht hx HS S1 T1 hx1
      have HK1 : Hid (((k1 + 1 : Nat) : Int) = ((k + 2 * (j + 1) : Nat) : Int)) := by show _ = _; have := HK.out; omega
      go_wp2_with fail
      go_roundw
      case rel => exact ⟨j + 1, by omega, by go_num, by rw [← HK1.out]; go_num, T2, S2⟩
      case measure => simp [intOf]; omega
    · have e : j = n := by omega
      subst e
      rw [mkG_all HN.out] at hS
      obtain ⟨kk, hkk⟩ : ∃ kk, ((k + 2 * j : Nat) : Int) = kk := ⟨_, rfl⟩
      have HKK : Hid (((k + 2 * j : Nat) : Int) = kk) := hkk
      rw [hkk]
      clear hkk
      go_wp2_with fail
      go_ret
      exact ⟨by rw [HKK.out]; rfl, ht, hS⟩

end Go.Proofs.YtmboclfgldgefaaGreat
