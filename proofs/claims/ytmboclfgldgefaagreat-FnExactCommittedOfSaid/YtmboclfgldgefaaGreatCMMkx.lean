/-
  markChangeS once more, with wider bounds.
-/
import Derived.Test.YtmboclfgldgefaaGreatCMMkc
import Derived.Shelf.Pu.Clone
import Derived.Ground.MpProg
import Derived.Test.YtmboclfgldgefaaGreatProg
import Derived.Test.YtmboclfgldgefaaGreatCMChf

namespace Go.Proofs.YtmboclfgldgefaaGreat
open Go.RowKit
set_option linter.unusedVariables false

set_option maxRecDepth 20000 in
set_option maxHeartbeats 4000000 in
theorem markChangeS_wide (a : Option Addr) (lo hi : Nat) (cs : List Chg) (n c k : Nat) (w : World) (hn : cs.length = n) (hm : n ≤ 1048576) (hk0 : 1 ≤ k) (hk1 : k ≤ 50000000) (ha : SlIn chE 10 lo hi w a cs) :
    Calls Tryz.prog 58 #[.slice a n c, .int .i64 k] w fun e w' => e = .returned (.int .i64 ((k + 10 * n : Nat) : Int)) ∧ Turned lo hi w w' ∧ SlIn chE 10 lo hi w' a ((List.range n).map (mkC k)) := by
  have HN : Hid (cs.length = n) := hn
  clear hn
  go_enter Tryz.func58, Tryz.ntmps58
  go_wp2_with fail
  go_loopw [5, 1] (fun i kk wr => ∃ j : Nat, j ≤ n ∧ i = .int .i64 j ∧ kk = .int .i64 ((k + 10 * j : Nat) : Int) ∧ Turned lo hi w wr ∧ SlIn chE 10 lo hi wr a (mkLC k j cs)) (fun i _ _ => n - (intOf i).toNat)
  case atStart => exact ⟨0, Nat.zero_le _, rfl, rfl, Turned.refl _ _ _, ha⟩
  case round =>
    obtain ⟨j, hj, rfl, rfl, ht, hS⟩ := hrel
    clear ha
    by_cases hlt : j < n
    · obtain ⟨x, hx⟩ := mkLC_at (k := k) (cs := cs) (j := j) (by rw [HN.out]; exact hlt)
      have HS : Hid ((mkLC k j cs).set j (mkC k j) = mkLC k (j + 1) cs) := mkLC_set (by rw [HN.out]; exact hlt)
      have hxl : j < (mkLC k j cs).length := (List.getElem?_eq_some_iff.1 hx).1
      have hjn : (j : Int) < (n : Int) := by omega
      obtain ⟨k0, hk00⟩ : ∃ k0 : Nat, k0 = k + 10 * j := ⟨_, rfl⟩
      have HK : Hid (k0 = k + 10 * j) := hk00
      have hkb : k0 ≤ 65000000 := by omega
      have hk1' : 1 ≤ k0 := by omega
      rw [← hk00]
      clear hk00
      obtain ⟨k1, hq1⟩ : ∃ k1 : Nat, k1 = k0 + 1 := ⟨_, rfl⟩
      obtain ⟨k2, hq2⟩ : ∃ k2 : Nat, k2 = k1 + 1 := ⟨_, rfl⟩
      obtain ⟨k3, hq3⟩ : ∃ k3 : Nat, k3 = k2 + 1 := ⟨_, rfl⟩
      obtain ⟨k4, hq4⟩ : ∃ k4 : Nat, k4 = k3 + 1 := ⟨_, rfl⟩
      obtain ⟨k5, hq5⟩ : ∃ k5 : Nat, k5 = k4 + 1 := ⟨_, rfl⟩
      obtain ⟨k6, hq6⟩ : ∃ k6 : Nat, k6 = k5 + 1 := ⟨_, rfl⟩
      obtain ⟨k7, hq7⟩ : ∃ k7 : Nat, k7 = k6 + 1 := ⟨_, rfl⟩
      obtain ⟨k8, hq8⟩ : ∃ k8 : Nat, k8 = k7 + 1 := ⟨_, rfl⟩
      obtain ⟨k9, hq9⟩ : ∃ k9 : Nat, k9 = k8 + 1 := ⟨_, rfl⟩
      obtain ⟨k10, hq10⟩ : ∃ k10 : Nat, k10 = k9 + 1 := ⟨_, rfl⟩
      have e1 : (k0 : Int) + 1 = (k1 : Nat) := by omega
      have e2 : (k1 : Int) + 1 = (k2 : Nat) := by omega
      have e3 : (k2 : Int) + 1 = (k3 : Nat) := by omega
      have e4 : (k3 : Int) + 1 = (k4 : Nat) := by omega
      have e5 : (k4 : Int) + 1 = (k5 : Nat) := by omega
      have e6 : (k5 : Int) + 1 = (k6 : Nat) := by omega
      have e7 : (k6 : Int) + 1 = (k7 : Nat) := by omega
      have e8 : (k7 : Int) + 1 = (k8 : Nat) := by omega
      have e9 : (k8 : Int) + 1 = (k9 : Nat) := by omega
      have e10 : (k9 : Int) + 1 = (k10 : Nat) := by omega
      have HK10 : Hid (k10 = k + 10 * (j + 1)) := by show _ = _; have := HK.out; omega
      have hk10 : k10 ≤ 70000000 := by omega
      have hk4 : 1 ≤ k4 ∧ k4 ≤ 70000000 := by omega
      have hk9 : 1 ≤ k9 ∧ k9 ≤ 70000000 := by omega
      obtain ⟨r0, hr0⟩ : ∃ r0 : Nat, r0 = k0 % 3 := ⟨_, rfl⟩
      have ra0 : Int.tmod (k0 : Int) 3 = (r0 : Nat) := by rw [Int.tmod_eq_emod_of_nonneg (by omega)]; omega
      have rb0 : (k0 : Int) % 3 = (r0 : Nat) := by omega
      obtain ⟨m0, hm0⟩ : ∃ m0 : Bool, m0 = (((r0 : Nat) : Int) == 0) := ⟨_, rfl⟩
      have rc0 : ((((r0 : Nat) : Int)) == 0) = m0 := hm0.symm
      obtain ⟨r5, hr5⟩ : ∃ r5 : Nat, r5 = k5 % 3 := ⟨_, rfl⟩
      have ra5 : Int.tmod (k5 : Int) 3 = (r5 : Nat) := by rw [Int.tmod_eq_emod_of_nonneg (by omega)]; omega
      have rb5 : (k5 : Int) % 3 = (r5 : Nat) := by omega
      obtain ⟨m5, hm5⟩ : ∃ m5 : Bool, m5 = (((r5 : Nat) : Int) == 0) := ⟨_, rfl⟩
      have rc5 : ((((r5 : Nat) : Int)) == 0) = m5 := hm5.symm
      have HM : Hid (mkC k j = ⟨m0, ⟨(k1 : Nat), (k2 : Nat), (k3 : Nat), mtx k4⟩, m5, ⟨(k6 : Nat), (k7 : Nat), (k8 : Nat), mtx k9⟩⟩) := by
        show _ = _
        rw [hm0, hm5, hr0, hr5, hq9, hq8, hq7, hq6, hq5, hq4, hq3, hq2, hq1, HK.out]
        rfl
      clear hq1 hq2 hq3 hq4 hq5 hq6 hq7 hq8 hq9 hq10 hr0 hr5 hm0 hm5
      generalize mkLC k j cs = zs at hS hx HS hxl
      obtain ⟨b, off, rfl⟩ : ∃ b off, a = some ⟨b, off, none⟩ := by
        rcases hS with rfl | ⟨b, off, e, _⟩
        · simp at hx
        · exact ⟨b, off, e⟩
      obtain ⟨x0, ⟨xt, xk, xv, xs⟩, x5, ⟨yt, yk, yv, ys⟩⟩ := x
      obtain ⟨hlo, hhi, ⟨c0, c1, c2, c3, c4, c5, c6, c7, c8, c9⟩, hf⟩ := hS.at10 hx
      have f0 := hf 0 (by omega)
      simp only [Nat.add_zero] at f0
      have S1 := hS.setG chE_len (x' := ⟨m0, ⟨xt, xk, xv, xs⟩, x5, ⟨yt, yk, yv, ys⟩⟩) (c := 0) (v := .bool m0) hx (by omega) rfl
      have T1 := ht.setCell (p := ⟨b, off + j * 10, none⟩) hlo hhi (.bool m0)
      simp only [Nat.add_zero] at S1
      go_upto_region 6 with (fail)
      clear c0 c1 c2 c3 c4 c5 c6 c7 c8 c9 f0 hf hS ht 
      generalize wr.setCell ⟨b, off + j * 10, none⟩ (.bool m0) = V1 at S1 T1 ⊢
      have hx1 : (zs.set j ⟨m0, ⟨xt, xk, xv, xs⟩, x5, ⟨yt, yk, yv, ys⟩⟩)[j]? = some ⟨m0, ⟨xt, xk, xv, xs⟩, x5, ⟨yt, yk, yv, ys⟩⟩ := List.getElem?_set_self hxl
      obtain ⟨_, _, ⟨c0, c1, c2, c3, c4, c5, c6, c7, c8, c9⟩, hf⟩ := S1.at10 hx1
      have f1 := hf 1 (by omega)
      have S2 := S1.setG chE_len (x' := ⟨m0, ⟨(k1 : Nat), xk, xv, xs⟩, x5, ⟨yt, yk, yv, ys⟩⟩) (c := 1) (v := .int .i64 (k1 : Nat)) hx1 (by omega) rfl
      have T2 := T1.setCell (p := ⟨b, off + j * 10 + 1, none⟩) hlo hhi (.int .i64 (k1 : Nat))
      rw [List.set_set] at S2
      go_upto_region 8 with (fail)
      clear c0 c1 c2 c3 c4 c5 c6 c7 c8 c9 f1 hf S1 T1 hx1
      generalize V1.setCell ⟨b, off + j * 10 + 1, none⟩ (.int .i64 (k1 : Nat)) = V2 at S2 T2 ⊢
      have hx2 : (zs.set j ⟨m0, ⟨(k1 : Nat), xk, xv, xs⟩, x5, ⟨yt, yk, yv, ys⟩⟩)[j]? = some ⟨m0, ⟨(k1 : Nat), xk, xv, xs⟩, x5, ⟨yt, yk, yv, ys⟩⟩ := List.getElem?_set_self hxl
      obtain ⟨_, _, ⟨c0, c1, c2, c3, c4, c5, c6, c7, c8, c9⟩, hf⟩ := S2.at10 hx2
      have f2 := hf 2 (by omega)
      have S3 := S2.setG chE_len (x' := ⟨m0, ⟨(k1 : Nat), (k2 : Nat), xv, xs⟩, x5, ⟨yt, yk, yv, ys⟩⟩) (c := 2) (v := .int .i64 (k2 : Nat)) hx2 (by omega) rfl
      have T3 := T2.setCell (p := ⟨b, off + j * 10 + 2, none⟩) hlo hhi (.int .i64 (k2 : Nat))
      rw [List.set_set] at S3
      go_upto_region 10 with (fail)
      clear c0 c1 c2 c3 c4 c5 c6 c7 c8 c9 f2 hf S2 T2 hx2
      generalize V2.setCell ⟨b, off + j * 10 + 2, none⟩ (.int .i64 (k2 : Nat)) = V3 at S3 T3 ⊢
      have hx3 : (zs.set j ⟨m0, ⟨(k1 : Nat), (k2 : Nat), xv, xs⟩, x5, ⟨yt, yk, yv, ys⟩⟩)[j]? = some ⟨m0, ⟨(k1 : Nat), (k2 : Nat), xv, xs⟩, x5, ⟨yt, yk, yv, ys⟩⟩ := List.getElem?_set_self hxl
      obtain ⟨_, _, ⟨c0, c1, c2, c3, c4, c5, c6, c7, c8, c9⟩, hf⟩ := S3.at10 hx3
      have f3 := hf 3 (by omega)
      have S4 := S3.setG chE_len (x' := ⟨m0, ⟨(k1 : Nat), (k2 : Nat), (k3 : Nat), xs⟩, x5, ⟨yt, yk, yv, ys⟩⟩) (c := 3) (v := .int .i64 (k3 : Nat)) hx3 (by omega) rfl
      have T4 := T3.setCell (p := ⟨b, off + j * 10 + 3, none⟩) hlo hhi (.int .i64 (k3 : Nat))
      rw [List.set_set] at S4
      go_upto_region 12 with (fail)
      clear c0 c1 c2 c3 c4 c5 c6 c7 c8 c9 f3 hf S3 T3 hx3
      generalize V3.setCell ⟨b, off + j * 10 + 3, none⟩ (.int .i64 (k3 : Nat)) = V4 at S4 T4 ⊢
      go_wp2_with fail
      refine (markText_any k4 hk4.1 (by omega) _).mono ?_
      rintro e w4 ⟨rfl, g4⟩
      have S4 := S4.below g4
      have T4 := T4.trans (Turned.ofBelow g4)
      obtain ⟨s4, hs4⟩ : ∃ s, s = mtx k4 := ⟨_, rfl⟩
      rw [← hs4] at HM ⊢
      clear hs4
      have hx4 : (zs.set j ⟨m0, ⟨(k1 : Nat), (k2 : Nat), (k3 : Nat), xs⟩, x5, ⟨yt, yk, yv, ys⟩⟩)[j]? = some ⟨m0, ⟨(k1 : Nat), (k2 : Nat), (k3 : Nat), xs⟩, x5, ⟨yt, yk, yv, ys⟩⟩ := List.getElem?_set_self hxl
      obtain ⟨_, _, ⟨c0, c1, c2, c3, c4, c5, c6, c7, c8, c9⟩, hf⟩ := S4.at10 hx4
      have f4 := hf 4 (by omega)
      have S5 := S4.setG chE_len (x' := ⟨m0, ⟨(k1 : Nat), (k2 : Nat), (k3 : Nat), s4⟩, x5, ⟨yt, yk, yv, ys⟩⟩) (c := 4) (v := .string s4) hx4 (by omega) rfl
      have T5 := T4.setCell (p := ⟨b, off + j * 10 + 4, none⟩) hlo hhi (.string s4)
      rw [List.set_set] at S5
      go_upto_region 14 with (fail)
      clear c0 c1 c2 c3 c4 c5 c6 c7 c8 c9 f4 hf S4 T4 hx4
      generalize w4.setCell ⟨b, off + j * 10 + 4, none⟩ (.string s4) = V5 at S5 T5 ⊢
      have hx5 : (zs.set j ⟨m0, ⟨(k1 : Nat), (k2 : Nat), (k3 : Nat), s4⟩, x5, ⟨yt, yk, yv, ys⟩⟩)[j]? = some ⟨m0, ⟨(k1 : Nat), (k2 : Nat), (k3 : Nat), s4⟩, x5, ⟨yt, yk, yv, ys⟩⟩ := List.getElem?_set_self hxl
      obtain ⟨_, _, ⟨c0, c1, c2, c3, c4, c5, c6, c7, c8, c9⟩, hf⟩ := S5.at10 hx5
      have f5 := hf 5 (by omega)
      have S6 := S5.setG chE_len (x' := ⟨m0, ⟨(k1 : Nat), (k2 : Nat), (k3 : Nat), s4⟩, m5, ⟨yt, yk, yv, ys⟩⟩) (c := 5) (v := .bool m5) hx5 (by omega) rfl
      have T6 := T5.setCell (p := ⟨b, off + j * 10 + 5, none⟩) hlo hhi (.bool m5)
      rw [List.set_set] at S6
      go_upto_region 16 with (fail)
      clear c0 c1 c2 c3 c4 c5 c6 c7 c8 c9 f5 hf S5 T5 hx5
      generalize V5.setCell ⟨b, off + j * 10 + 5, none⟩ (.bool m5) = V6 at S6 T6 ⊢
      have hx6 : (zs.set j ⟨m0, ⟨(k1 : Nat), (k2 : Nat), (k3 : Nat), s4⟩, m5, ⟨yt, yk, yv, ys⟩⟩)[j]? = some ⟨m0, ⟨(k1 : Nat), (k2 : Nat), (k3 : Nat), s4⟩, m5, ⟨yt, yk, yv, ys⟩⟩ := List.getElem?_set_self hxl
      obtain ⟨_, _, ⟨c0, c1, c2, c3, c4, c5, c6, c7, c8, c9⟩, hf⟩ := S6.at10 hx6
      have f6 := hf 6 (by omega)
      have S7 := S6.setG chE_len (x' := ⟨m0, ⟨(k1 : Nat), (k2 : Nat), (k3 : Nat), s4⟩, m5, ⟨(k6 : Nat), yk, yv, ys⟩⟩) (c := 6) (v := .int .i64 (k6 : Nat)) hx6 (by omega) rfl
      have T7 := T6.setCell (p := ⟨b, off + j * 10 + 6, none⟩) hlo hhi (.int .i64 (k6 : Nat))
      rw [List.set_set] at S7
      go_upto_region 18 with (fail)
      clear c0 c1 c2 c3 c4 c5 c6 c7 c8 c9 f6 hf S6 T6 hx6
      generalize V6.setCell ⟨b, off + j * 10 + 6, none⟩ (.int .i64 (k6 : Nat)) = V7 at S7 T7 ⊢
      have hx7 : (zs.set j ⟨m0, ⟨(k1 : Nat), (k2 : Nat), (k3 : Nat), s4⟩, m5, ⟨(k6 : Nat), yk, yv, ys⟩⟩)[j]? = some ⟨m0, ⟨(k1 : Nat), (k2 : Nat), (k3 : Nat), s4⟩, m5, ⟨(k6 : Nat), yk, yv, ys⟩⟩ := List.getElem?_set_self hxl
      obtain ⟨_, _, ⟨c0, c1, c2, c3, c4, c5, c6, c7, c8, c9⟩, hf⟩ := S7.at10 hx7
      have f7 := hf 7 (by omega)
      have S8 := S7.setG chE_len (x' := ⟨m0, ⟨(k1 : Nat), (k2 : Nat), (k3 : Nat), s4⟩, m5, ⟨(k6 : Nat), (k7 : Nat), yv, ys⟩⟩) (c := 7) (v := .int .i64 (k7 : Nat)) hx7 (by omega) rfl
      have T8 := T7.setCell (p := ⟨b, off + j * 10 + 7, none⟩) hlo hhi (.int .i64 (k7 : Nat))
      rw [List.set_set] at S8
      go_upto_region 20 with (fail)
      clear c0 c1 c2 c3 c4 c5 c6 c7 c8 c9 f7 hf S7 T7 hx7
      generalize V7.setCell ⟨b, off + j * 10 + 7, none⟩ (.int .i64 (k7 : Nat)) = V8 at S8 T8 ⊢
      have hx8 : (zs.set j ⟨m0, ⟨(k1 : Nat), (k2 : Nat), (k3 : Nat), s4⟩, m5, ⟨(k6 : Nat), (k7 : Nat), yv, ys⟩⟩)[j]? = some ⟨m0, ⟨(k1 : Nat), (k2 : Nat), (k3 : Nat), s4⟩, m5, ⟨(k6 : Nat), (k7 : Nat), yv, ys⟩⟩ := List.getElem?_set_self hxl
      obtain ⟨_, _, ⟨c0, c1, c2, c3, c4, c5, c6, c7, c8, c9⟩, hf⟩ := S8.at10 hx8
      have f8 := hf 8 (by omega)
      have S9 := S8.setG chE_len (x' := ⟨m0, ⟨(k1 : Nat), (k2 : Nat), (k3 : Nat), s4⟩, m5, ⟨(k6 : Nat), (k7 : Nat), (k8 : Nat), ys⟩⟩) (c := 8) (v := .int .i64 (k8 : Nat)) hx8 (by omega) rfl
      have T9 := T8.setCell (p := ⟨b, off + j * 10 + 8, none⟩) hlo hhi (.int .i64 (k8 : Nat))
      rw [List.set_set] at S9
      go_upto_region 22 with (fail)
      clear c0 c1 c2 c3 c4 c5 c6 c7 c8 c9 f8 hf S8 T8 hx8
      generalize V8.setCell ⟨b, off + j * 10 + 8, none⟩ (.int .i64 (k8 : Nat)) = V9 at S9 T9 ⊢
      go_wp2_with fail
      refine (markText_any k9 hk9.1 (by omega) _).mono ?_
      rintro e w9 ⟨rfl, g9⟩
      have S9 := S9.below g9
      have T9 := T9.trans (Turned.ofBelow g9)
      obtain ⟨s9, hs9⟩ : ∃ s, s = mtx k9 := ⟨_, rfl⟩
      rw [← hs9] at HM ⊢
      clear hs9
      have hx9 : (zs.set j ⟨m0, ⟨(k1 : Nat), (k2 : Nat), (k3 : Nat), s4⟩, m5, ⟨(k6 : Nat), (k7 : Nat), (k8 : Nat), ys⟩⟩)[j]? = some ⟨m0, ⟨(k1 : Nat), (k2 : Nat), (k3 : Nat), s4⟩, m5, ⟨(k6 : Nat), (k7 : Nat), (k8 : Nat), ys⟩⟩ := List.getElem?_set_self hxl
      obtain ⟨_, _, ⟨c0, c1, c2, c3, c4, c5, c6, c7, c8, c9⟩, hf⟩ := S9.at10 hx9
      have f9 := hf 9 (by omega)
      have S10 := S9.setG chE_len (x' := ⟨m0, ⟨(k1 : Nat), (k2 : Nat), (k3 : Nat), s4⟩, m5, ⟨(k6 : Nat), (k7 : Nat), (k8 : Nat), s9⟩⟩) (c := 9) (v := .string s9) hx9 (by omega) rfl
      have T10 := T9.setCell (p := ⟨b, off + j * 10 + 9, none⟩) hlo hhi (.string s9)
      rw [List.set_set] at S10
      have HS4 : Hid (SlIn chE 10 lo hi (w9.setCell ⟨b, off + j * 10 + 9, none⟩ (.string s9)) (some ⟨b, off, none⟩) (mkLC k (j + 1) cs)) := by rw [← HS.out, HM.out]; exact S10
      clear S10 S9 T9 hf hx9 g9
      go_wp2_with fail
      go_roundw
      case rel => exact ⟨j + 1, by omega, by go_num, by rw [← HK10.out], T10, HS4.out⟩
      case measure => simp [intOf]; omega
    · have e : j = n := by omega
      subst e
      have HE : Hid (mkLC k j cs = (List.range j).map (mkC k)) := by show _ = _; have := mkLC_all (k := k) (cs := cs); rw [HN.out] at this; exact this
      go_wp2_with fail
      go_ret
      exact ⟨rfl, ht, by rw [← HE.out]; exact hS⟩

end Go.Proofs.YtmboclfgldgefaaGreat

/-
  DERIVED: THE SHELF's CONTRACTS AT THIS DUMP, IN PLAIN WORDS (tools/lay-plain.mjs out of 'TryShg9.lean', which tools/lay-shelf.mjs wrote): THE SAME DECLARATIONS UNDER THE SAME NAMES: 'import', 'namespace', 'open', 'def', 'theorem' AND NOTHING ELSE: no command of the shelf's: FOR A HAND-IN. Each laying: the table of numbers ('.._ren') and one theorem, a field a fact of the dump's own or the kernel's comparison; each contract: ONE APPLICATION.
-/
namespace Go.Proofs
open Go.Shelf
def Tryz.cloneL_ren : Go.Shelf.Ren := ⟨fun | 25 => 125 | n => n, fun | 9 => 9 | 3 => 3 | 4 => 4 | 37 => 130 | 0 => 0 | 47 => 172 | 5 => 5 | n => n, fun | n => n⟩
theorem Tryz.cloneL : Go.Proofs.LaysPu.n25 Tryz.prog Tryz.cloneL_ren := {
  mixed := by kernel_rfl
  f25 := Tryz.func125.trans (congrArg some (by kernel_rfl))
  t0 := Tryz.underlying0
  a0 := Tryz.isAgg0
  z0 := Tryz.sizeOf0
  v0 := Tryz.zeroValue0
  i0 := by kernel_rfl
  t3 := Tryz.underlying3
  a3 := Tryz.isAgg3
  z3 := Tryz.sizeOf3
  v3 := Tryz.zeroValue3
  i3 := by kernel_rfl
  t4 := Tryz.underlying4
  a4 := Tryz.isAgg4
  z4 := Tryz.sizeOf4
  v4 := Tryz.zeroValue4
  i4 := by kernel_rfl
  t5 := Tryz.underlying5
  a5 := Tryz.isAgg5
  z5 := Tryz.sizeOf5
  v5 := Tryz.zeroValue5
  i5 := by kernel_rfl
  t9 := Tryz.underlying9
  a9 := Tryz.isAgg9
  z9 := Tryz.sizeOf9
  v9 := Tryz.zeroValue9
  i9 := by kernel_rfl
  t37 := Tryz.underlying130
  a37 := Tryz.isAgg130
  z37 := Tryz.sizeOf130
  v37 := Tryz.zeroValue130
  i37 := by kernel_rfl
  t47 := Tryz.underlying172
  a47 := Tryz.isAgg172
  z47 := Tryz.sizeOf172
  v47 := Tryz.zeroValue172
  i47 := by kernel_rfl }
end Go.Proofs

/-
  A row with a text of its own: strings.Clone, ownRow. A change: its ten cells.
-/
namespace Go.Proofs.YtmboclfgldgefaaGreat
open Go.RowKit
set_option linter.unusedVariables false

set_option maxHeartbeats 400000 in
theorem clone_any (s : ByteArray) (w : World) (hs : s.size ≤ 1048576) : Calls Tryz.prog 112 #[.string s] w fun e w' => e = .returned (.string s) ∧ Below w.heap.size w w' := by
  have hcon := AnyPu.stringslite_Clone Tryz.cloneL s w (by omega)
  change Calls Tryz.prog 125 _ _ _ at hcon
  go_enter Tryz.func112, Tryz.ntmps112
  go_wp2_with (go_at_call 125; refine hcon.mono ?_; rintro e w' ⟨rfl, g⟩)
  go_ret
  exact ⟨rfl, g⟩

set_option maxHeartbeats 1000000 in
theorem ownRow_any (t k v : Int) (s : ByteArray) (w : World) (hs : s.size ≤ 1048576) : Calls Tryz.prog 87 #[.agg #[.int .i64 t, .int .i64 k, .int .i64 v, .string s]] w fun e w' => e = .returned (.agg #[.int .i64 t, .int .i64 k, .int .i64 v, .string s]) ∧ Below w.heap.size w w' := by
  have hcon := fun W => clone_any s W hs
  have HC : Hid (∀ W, Calls Tryz.prog 112 #[.string s] W fun e w' => e = .returned (.string s) ∧ Below W.heap.size W w') := hcon
  clear hcon
  go_enter Tryz.func87, Tryz.ntmps87
  go_upto_region 1 with (fail)
  generalize hY : World.alloc _ _ = Y
  have gY : Below w.heap.size w Y := by rw [← hY]; go_grown
  have C : RowC Y w.heap.size 0 ⟨t, k, v, s⟩ := by rw [← hY]; exact ⟨by simp [go_sem], by simp [go_sem], by simp [go_sem], by simp [go_sem]⟩
  have f3 : Y.frozen? ⟨w.heap.size, 3, none⟩ = false := by rw [← hY]; simp [go_sem]
  have Z : RowC Y (w.heap.size + 1) 0 ⟨0, 0, 0, ⟨#[]⟩⟩ := by rw [← hY]; exact ⟨by simp [go_sem], by simp [go_sem], by simp [go_sem], by simp [go_sem]⟩
  have z0 : Y.frozen? ⟨w.heap.size + 1, 0, none⟩ = false := by rw [← hY]; simp [go_sem]
  have z1 : Y.frozen? ⟨w.heap.size + 1, 1, none⟩ = false := by rw [← hY]; simp [go_sem]
  have z2 : Y.frozen? ⟨w.heap.size + 1, 2, none⟩ = false := by rw [← hY]; simp [go_sem]
  have z3 : Y.frozen? ⟨w.heap.size + 1, 3, none⟩ = false := by rw [← hY]; simp [go_sem]
  clear hY
  have hlC := C.lt
  have hlZ := Z.lt
  have hne : w.heap.size + 1 ≠ w.heap.size := by omega
  have hge : w.heap.size ≤ w.heap.size + 1 := by omega
  obtain ⟨b1, hb1⟩ : ∃ b1, b1 = w.heap.size + 1 := ⟨_, rfl⟩
  rw [← hb1] at Z z0 z1 z2 z3 hlZ hne hge ⊢
  have gsz := Nat.le_refl w.heap.size
  have hb0 : w.heap.size ≤ w.heap.size := Nat.le_refl _
  clear hb1
  obtain ⟨b0, hb0'⟩ : ∃ b0, b0 = w.heap.size := ⟨_, rfl⟩
  have hB0 : w.heap.size ≤ b0 := by omega
  have hB1 : w.heap.size ≤ b1 := by omega
  have hnn : b1 ≠ b0 := by omega
  rw [← hb0'] at C f3 hlC ⊢
  clear hb0' hne hge gsz hb0
  obtain ⟨y0, y1, y2, y3⟩ := C
  dsimp only at y0 y1 y2 y3
  go_wp2_with fail
  refine (HC.out _).mono ?_
  rintro e w' ⟨rfl, g⟩
  have C : RowC w' b0 0 ⟨t, k, v, s⟩ := RowC.below (w := Y) ⟨y0, y1, y2, y3⟩ g hlC
  have Z := Z.below g hlZ
  have f3 := (g.frozen (p := ⟨b0, 3, none⟩) hlC).trans f3
  have z0 := (g.frozen (p := ⟨b1, 0, none⟩) hlZ).trans z0
  have z1 := (g.frozen (p := ⟨b1, 1, none⟩) hlZ).trans z1
  have z2 := (g.frozen (p := ⟨b1, 2, none⟩) hlZ).trans z2
  have z3 := (g.frozen (p := ⟨b1, 3, none⟩) hlZ).trans z3
  have gg := gY.trans (g.mono gY.size)
  clear y0 y1 y2 y3 g gY hlC hlZ
  obtain ⟨y0, y1, y2, y3⟩ := C
  obtain ⟨x0, x1, x2, x3⟩ := Z
  dsimp only at y0 y1 y2 y3 x0 x1 x2 x3
  go_wp2_with fail
  refine bodyPost_ret (v := .agg #[.int .i64 t, .int .i64 k, .int .i64 v, .string s]) (by simp [results, Tryz.results87, go_sem, *]) rfl ?_
  exact ⟨rfl, by go_grown⟩

end Go.Proofs.YtmboclfgldgefaaGreat
