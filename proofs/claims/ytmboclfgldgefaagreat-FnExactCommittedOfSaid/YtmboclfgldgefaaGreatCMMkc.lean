/-
  Changes marked: markChangeS.
-/
import Derived.Test.YtmboclfgldgefaaGreatCMChg

namespace Go.Proofs.YtmboclfgldgefaaGreat
open Go.RowKit
set_option linter.unusedVariables false

theorem SlIn.setG {α : Type} {enc : α → List Value} {m lo hi b off i c : Nat} {w : World} {xs : List α} {x x' : α} {v : Value} (h : SlIn enc m lo hi w (some ⟨b, off, none⟩) xs) (hl : ∀ x, (enc x).length = m) (hx : xs[i]? = some x) (hc : c < m) (he : enc x' = (enc x).set c v) :
    SlIn enc m lo hi (w.setCell ⟨b, off + i * m + c, none⟩ v) (some ⟨b, off, none⟩) (xs.set i x') := by
  rcases h with rfl | ⟨b', off', e, h1, h2, hcs⟩
  · simp at hx
  · cases e
    have hil : i < xs.length := (List.getElem?_eq_some_iff.1 hx).1
    refine .inr ⟨b, off, rfl, h1, h2, fun i' y hy j u hu => ?_⟩
    rw [World.frozen?_setCell]
    by_cases e1 : i' = i
    · subst e1
      rw [List.getElem?_set_self hil] at hy
      cases hy
      rw [he] at hu
      have hj : j < m := by
        have := (List.getElem?_eq_some_iff.1 hu).1
        rw [List.length_set, hl] at this
        exact this
      obtain ⟨u0, hu0⟩ : ∃ u0, (enc x)[j]? = some u0 := ⟨_, List.getElem?_eq_getElem (by rw [hl]; exact hj)⟩
      have hold := hcs i' x hx j u0 hu0
      by_cases e2 : j = c
      · subst e2
        rw [List.getElem?_set_self (by rw [hl]; exact hj)] at hu
        cases hu
        exact ⟨World.cell?_setCell_same _ _ _ hold.1, hold.2⟩
      · rw [List.getElem?_set_ne (fun e => e2 e.symm)] at hu
        rw [hu0] at hu
        cases hu
        rw [World.cell?_setCell_other _ _ _ _ (fun e => e2 (by have := congrArg Addr.off e; simp at this; omega))]
        exact hold
    · rw [List.getElem?_set_ne (fun e => e1 e.symm)] at hy
      have hold := hcs i' y hy j u hu
      have hj : j < m := by
        have := (List.getElem?_eq_some_iff.1 hu).1
        rw [hl] at this
        exact this
      rw [World.cell?_setCell_other _ _ _ _ (fun e => e1 (by
        have h3 := congrArg Addr.off e
        simp only at h3
        have h4 : i * m + c = i' * m + j := by omega
        have h5 : (i * m + c) / m = i := by rw [Nat.mul_comm, Nat.mul_add_div (by omega), Nat.div_eq_of_lt hc, Nat.add_zero]
        have h6 : (i' * m + j) / m = i' := by rw [Nat.mul_comm, Nat.mul_add_div (by omega), Nat.div_eq_of_lt hj, Nat.add_zero]
        rw [h4, h6] at h5
        exact h5))]
      exact hold

theorem SlIn.at10 {lo hi b off i : Nat} {w : World} {xs : List Chg} {x : Chg} (h : SlIn chE 10 lo hi w (some ⟨b, off, none⟩) xs) (hx : xs[i]? = some x) : lo ≤ b ∧ b < hi ∧ ChC w b (off + i * 10) x ∧ ∀ c, c < 10 → w.frozen? ⟨b, off + i * 10 + c, none⟩ = false := by
  rcases h with rfl | ⟨b', off', e, h1, h2, hcs⟩
  · simp at hx
  · cases e
    refine ⟨h1, h2, ChC.of (fun j u hu => (hcs i x hx j u hu).1), fun c hc => ?_⟩
    exact (hcs i x hx c _ (List.getElem?_eq_getElem (by rw [chE_len]; exact hc))).2

def mB (n : Nat) : Bool := (((n % 3 : Nat) : Int) == 0)
/-- The i-th change of marks. -/
def mkC (k : Nat) (i : Nat) : Chg := ⟨mB (k + 10 * i), ⟨(k + 10 * i + 1 : Nat), (k + 10 * i + 2 : Nat), (k + 10 * i + 3 : Nat), mtx (k + 10 * i + 4)⟩, mB (k + 10 * i + 5), ⟨(k + 10 * i + 6 : Nat), (k + 10 * i + 7 : Nat), (k + 10 * i + 8 : Nat), mtx (k + 10 * i + 9)⟩⟩
def mkLC (k j : Nat) (cs : List Chg) : List Chg := (List.range j).map (mkC k) ++ cs.drop j
theorem mkLC_len {k j : Nat} {cs : List Chg} (h : j ≤ cs.length) : (mkLC k j cs).length = cs.length := by simp [mkLC]; omega
theorem mkLC_at {k j : Nat} {cs : List Chg} (h : j < cs.length) : ∃ x, (mkLC k j cs)[j]? = some x := ⟨_, List.getElem?_eq_getElem (by rw [mkLC_len (by omega)]; exact h)⟩
theorem mkLC_set {k j : Nat} {cs : List Chg} (h : j < cs.length) : (mkLC k j cs).set j (mkC k j) = mkLC k (j + 1) cs := by
  unfold mkLC
  rw [List.range_succ, List.map_append, List.set_append_right _ _ (by simp), List.length_map, List.length_range, Nat.sub_self, List.append_assoc]
  congr 1
  rw [show cs.drop j = cs[j] :: cs.drop (j + 1) from List.drop_eq_getElem_cons h]
  rfl
theorem mkLC_all {k : Nat} {cs : List Chg} : mkLC k cs.length cs = (List.range cs.length).map (mkC k) := by unfold mkLC; rw [List.drop_length, List.append_nil]

set_option maxRecDepth 20000 in
set_option maxHeartbeats 4000000 in
theorem markChangeS_any (a : Option Addr) (lo hi : Nat) (cs : List Chg) (n c k : Nat) (w : World) (hn : cs.length = n) (hm : n ≤ 1000) (hk0 : 1 ≤ k) (hk1 : k ≤ 1000000) (ha : SlIn chE 10 lo hi w a cs) :
    Calls Tryz.prog 58 #[.slice a n c, .int .i64 k] w fun e w' => e = .returned (.int .i64 ((k + 10 * n : Nat) : Int)) ∧ Turned lo hi w w' ∧ SlIn chE 10 lo hi w' a ((List.range n).map (mkC k)) := by
  have HN : Hid (cs.length = n) := hn
  clear hn
  go_enter Tryz.func58, Tryz.ntmps58
  go_wp2_with fail
  go_loopw [5, 1] (fun i kk wr => ∃ j : Nat, j ≤ n ∧ i = .int .i64 j ∧ kk = .int .i64 ((k + 10 * j : Nat) : Int) ∧ Turned lo hi w wr ∧ SlIn chE 10 lo hi wr a (mkLC k j cs)) (fun i _ _ => n - (intOf i).toNat)
  case atStart => exact ⟨0, Nat.zero_le _, rfl, rfl, Turned.refl _ _ _, ha⟩
  case round =>
    obtain ⟨j, hj, rfl, rfl, ht, hS⟩ := hrel
    clear ha
    by_cases hlt : j < n
    · obtain ⟨x, hx⟩ := mkLC_at (k := k) (cs := cs) (j := j) (by rw [HN.out]; exact hlt)
      have HS : Hid ((mkLC k j cs).set j (mkC k j) = mkLC k (j + 1) cs) := mkLC_set (by rw [HN.out]; exact hlt)
      have hxl : j < (mkLC k j cs).length := (List.getElem?_eq_some_iff.1 hx).1
      have hjn : (j : Int) < (n : Int) := by omega
      obtain ⟨k0, hk00⟩ : ∃ k0 : Nat, k0 = k + 10 * j := ⟨_, rfl⟩
      have HK : Hid (k0 = k + 10 * j) := hk00
      have hkb : k0 ≤ 2000000 := by omega
      have hk1' : 1 ≤ k0 := by omega
      rw [← hk00]
      clear hk00
      obtain ⟨k1, hq1⟩ : ∃ k1 : Nat, k1 = k0 + 1 := ⟨_, rfl⟩
      obtain ⟨k2, hq2⟩ : ∃ k2 : Nat, k2 = k1 + 1 := ⟨_, rfl⟩
      obtain ⟨k3, hq3⟩ : ∃ k3 : Nat, k3 = k2 + 1 := ⟨_, rfl⟩
      obtain ⟨k4, hq4⟩ : ∃ k4 : Nat, k4 = k3 + 1 := ⟨_, rfl⟩
      obtain ⟨k5, hq5⟩ : ∃ k5 : Nat, k5 = k4 + 1 := ⟨_, rfl⟩
      obtain ⟨k6, hq6⟩ : ∃ k6 : Nat, k6 = k5 + 1 := ⟨_, rfl⟩
      obtain ⟨k7, hq7⟩ : ∃ k7 : Nat, k7 = k6 + 1 := ⟨_, rfl⟩
      obtain ⟨k8, hq8⟩ : ∃ k8 : Nat, k8 = k7 + 1 := ⟨_, rfl⟩
      obtain ⟨k9, hq9⟩ : ∃ k9 : Nat, k9 = k8 + 1 := ⟨_, rfl⟩
      obtain ⟨k10, hq10⟩ : ∃ k10 : Nat, k10 = k9 + 1 := ⟨_, rfl⟩
      have e1 : (k0 : Int) + 1 = (k1 : Nat) := by omega
      have e2 : (k1 : Int) + 1 = (k2 : Nat) := by omega
      have e3 : (k2 : Int) + 1 = (k3 : Nat) := by omega
      have e4 : (k3 : Int) + 1 = (k4 : Nat) := by omega
      have e5 : (k4 : Int) + 1 = (k5 : Nat) := by omega
      have e6 : (k5 : Int) + 1 = (k6 : Nat) := by omega
      have e7 : (k6 : Int) + 1 = (k7 : Nat) := by omega
      have e8 : (k7 : Int) + 1 = (k8 : Nat) := by omega
      have e9 : (k8 : Int) + 1 = (k9 : Nat) := by omega
      have e10 : (k9 : Int) + 1 = (k10 : Nat) := by omega
      have HK10 : Hid (k10 = k + 10 * (j + 1)) := by show _ = _; have := HK.out; omega
      have hk10 : k10 ≤ 3000000 := by omega
      have hk4 : 1 ≤ k4 ∧ k4 ≤ 3000000 := by omega
      have hk9 : 1 ≤ k9 ∧ k9 ≤ 3000000 := by omega
      obtain ⟨r0, hr0⟩ : ∃ r0 : Nat, r0 = k0 % 3 := ⟨_, rfl⟩
      have ra0 : Int.tmod (k0 : Int) 3 = (r0 : Nat) := by rw [Int.tmod_eq_emod_of_nonneg (by omega)]; omega
      have rb0 : (k0 : Int) % 3 = (r0 : Nat) := by omega
      obtain ⟨m0, hm0⟩ : ∃ m0 : Bool, m0 = (((r0 : Nat) : Int) == 0) := ⟨_, rfl⟩
      have rc0 : ((((r0 : Nat) : Int)) == 0) = m0 := hm0.symm
      obtain ⟨r5, hr5⟩ : ∃ r5 : Nat, r5 = k5 % 3 := ⟨_, rfl⟩
      have ra5 : Int.tmod (k5 : Int) 3 = (r5 : Nat) := by rw [Int.tmod_eq_emod_of_nonneg (by omega)]; omega
      have rb5 : (k5 : Int) % 3 = (r5 : Nat) := by omega
      obtain ⟨m5, hm5⟩ : ∃ m5 : Bool, m5 = (((r5 : Nat) : Int) == 0) := ⟨_, rfl⟩
      have rc5 : ((((r5 : Nat) : Int)) == 0) = m5 := hm5.symm
      have HM : Hid (mkC k j = ⟨m0, ⟨(k1 : Nat), (k2 : Nat), (k3 : Nat), mtx k4⟩, m5, ⟨(k6 : Nat), (k7 : Nat), (k8 : Nat), mtx k9⟩⟩) := by
        show _ = _
        rw [hm0, hm5, hr0, hr5, hq9, hq8, hq7, hq6, hq5, hq4, hq3, hq2, hq1, HK.out]
        rfl
      clear hq1 hq2 hq3 hq4 hq5 hq6 hq7 hq8 hq9 hq10 hr0 hr5 hm0 hm5
      generalize mkLC k j cs = zs at hS hx HS hxl
      obtain ⟨b, off, rfl⟩ : ∃ b off, a = some ⟨b, off, none⟩ := by
        rcases hS with rfl | ⟨b, off, e, _⟩
        · simp at hx
        · exact ⟨b, off, e⟩
      obtain ⟨x0, ⟨xt, xk, xv, xs⟩, x5, ⟨yt, yk, yv, ys⟩⟩ := x
      obtain ⟨hlo, hhi, ⟨c0, c1, c2, c3, c4, c5, c6, c7, c8, c9⟩, hf⟩ := hS.at10 hx
      have f0 := hf 0 (by omega)
      simp only [Nat.add_zero] at f0
      have S1 := hS.setG chE_len (x' := ⟨m0, ⟨xt, xk, xv, xs⟩, x5, ⟨yt, yk, yv, ys⟩⟩) (c := 0) (v := .bool m0) hx (by omega) rfl
      have T1 := ht.setCell (p := ⟨b, off + j * 10, none⟩) hlo hhi (.bool m0)
      simp only [Nat.add_zero] at S1
      go_upto_region 6 with (fail)
      clear c0 c1 c2 c3 c4 c5 c6 c7 c8 c9 f0 hf hS ht 
      generalize wr.setCell ⟨b, off + j * 10, none⟩ (.bool m0) = V1 at S1 T1 ⊢
      have hx1 : (zs.set j ⟨m0, ⟨xt, xk, xv, xs⟩, x5, ⟨yt, yk, yv, ys⟩⟩)[j]? = some ⟨m0, ⟨xt, xk, xv, xs⟩, x5, ⟨yt, yk, yv, ys⟩⟩ := List.getElem?_set_self hxl
      obtain ⟨_, _, ⟨c0, c1, c2, c3, c4, c5, c6, c7, c8, c9⟩, hf⟩ := S1.at10 hx1
      have f1 := hf 1 (by omega)
      have S2 := S1.setG chE_len (x' := ⟨m0, ⟨(k1 : Nat), xk, xv, xs⟩, x5, ⟨yt, yk, yv, ys⟩⟩) (c := 1) (v := .int .i64 (k1 : Nat)) hx1 (by omega) rfl
      have T2 := T1.setCell (p := ⟨b, off + j * 10 + 1, none⟩) hlo hhi (.int .i64 (k1 : Nat))
      rw [List.set_set] at S2
      go_upto_region 8 with (fail)
      clear c0 c1 c2 c3 c4 c5 c6 c7 c8 c9 f1 hf S1 T1 hx1
      generalize V1.setCell ⟨b, off + j * 10 + 1, none⟩ (.int .i64 (k1 : Nat)) = V2 at S2 T2 ⊢
      have hx2 : (zs.set j ⟨m0, ⟨(k1 : Nat), xk, xv, xs⟩, x5, ⟨yt, yk, yv, ys⟩⟩)[j]? = some ⟨m0, ⟨(k1 : Nat), xk, xv, xs⟩, x5, ⟨yt, yk, yv, ys⟩⟩ := List.getElem?_set_self hxl
      obtain ⟨_, _, ⟨c0, c1, c2, c3, c4, c5, c6, c7, c8, c9⟩, hf⟩ := S2.at10 hx2
      have f2 := hf 2 (by omega)
      have S3 := S2.setG chE_len (x' := ⟨m0, ⟨(k1 : Nat), (k2 : Nat), xv, xs⟩, x5, ⟨yt, yk, yv, ys⟩⟩) (c := 2) (v := .int .i64 (k2 : Nat)) hx2 (by omega) rfl
      have T3 := T2.setCell (p := ⟨b, off + j * 10 + 2, none⟩) hlo hhi (.int .i64 (k2 : Nat))
      rw [List.set_set] at S3
      go_upto_region 10 with (fail)
      clear c0 c1 c2 c3 c4 c5 c6 c7 c8 c9 f2 hf S2 T2 hx2
      generalize V2.setCell ⟨b, off + j * 10 + 2, none⟩ (.int .i64 (k2 : Nat)) = V3 at S3 T3 ⊢
      have hx3 : (zs.set j ⟨m0, ⟨(k1 : Nat), (k2 : Nat), xv, xs⟩, x5, ⟨yt, yk, yv, ys⟩⟩)[j]? = some ⟨m0, ⟨(k1 : Nat), (k2 : Nat), xv, xs⟩, x5, ⟨yt, yk, yv, ys⟩⟩ := List.getElem?_set_self hxl
      obtain ⟨_, _, ⟨c0, c1, c2, c3, c4, c5, c6, c7, c8, c9⟩, hf⟩ := S3.at10 hx3
      have f3 := hf 3 (by omega)
      have S4 := S3.setG chE_len (x' := ⟨m0, ⟨(k1 : Nat), (k2 : Nat), (k3 : Nat), xs⟩, x5, ⟨yt, yk, yv, ys⟩⟩) (c := 3) (v := .int .i64 (k3 : Nat)) hx3 (by omega) rfl
      have T4 := T3.setCell (p := ⟨b, off + j * 10 + 3, none⟩) hlo hhi (.int .i64 (k3 : Nat))
      rw [List.set_set] at S4
      go_upto_region 12 with (fail)
      clear c0 c1 c2 c3 c4 c5 c6 c7 c8 c9 f3 hf S3 T3 hx3
      generalize V3.setCell ⟨b, off + j * 10 + 3, none⟩ (.int .i64 (k3 : Nat)) = V4 at S4 T4 ⊢
      go_wp2_with fail
      refine (markText_any k4 hk4.1 (by omega) _).mono ?_
      rintro e w4 ⟨rfl, g4⟩
      have S4 := S4.below g4
      have T4 := T4.trans (Turned.ofBelow g4)
      obtain ⟨s4, hs4⟩ : ∃ s, s = mtx k4 := ⟨_, rfl⟩
      rw [← hs4] at HM ⊢
      clear hs4
      have hx4 : (zs.set j ⟨m0, ⟨(k1 : Nat), (k2 : Nat), (k3 : Nat), xs⟩, x5, ⟨yt, yk, yv, ys⟩⟩)[j]? = some ⟨m0, ⟨(k1 : Nat), (k2 : Nat), (k3 : Nat), xs⟩, x5, ⟨yt, yk, yv, ys⟩⟩ := List.getElem?_set_self hxl
      obtain ⟨_, _, ⟨c0, c1, c2, c3, c4, c5, c6, c7, c8, c9⟩, hf⟩ := S4.at10 hx4
      have f4 := hf 4 (by omega)
      have S5 := S4.setG chE_len (x' := ⟨m0, ⟨(k1 : Nat), (k2 : Nat), (k3 : Nat), s4⟩, x5, ⟨yt, yk, yv, ys⟩⟩) (c := 4) (v := .string s4) hx4 (by omega) rfl
      have T5 := T4.setCell (p := ⟨b, off + j * 10 + 4, none⟩) hlo hhi (.string s4)
      rw [List.set_set] at S5
      go_upto_region 14 with (fail)
      clear c0 c1 c2 c3 c4 c5 c6 c7 c8 c9 f4 hf S4 T4 hx4
      generalize w4.setCell ⟨b, off + j * 10 + 4, none⟩ (.string s4) = V5 at S5 T5 ⊢
      have hx5 : (zs.set j ⟨m0, ⟨(k1 : Nat), (k2 : Nat), (k3 : Nat), s4⟩, x5, ⟨yt, yk, yv, ys⟩⟩)[j]? = some ⟨m0, ⟨(k1 : Nat), (k2 : Nat), (k3 : Nat), s4⟩, x5, ⟨yt, yk, yv, ys⟩⟩ := List.getElem?_set_self hxl
      obtain ⟨_, _, ⟨c0, c1, c2, c3, c4, c5, c6, c7, c8, c9⟩, hf⟩ := S5.at10 hx5
      have f5 := hf 5 (by omega)
      have S6 := S5.setG chE_len (x' := ⟨m0, ⟨(k1 : Nat), (k2 : Nat), (k3 : Nat), s4⟩, m5, ⟨yt, yk, yv, ys⟩⟩) (c := 5) (v := .bool m5) hx5 (by omega) rfl
      have T6 := T5.setCell (p := ⟨b, off + j * 10 + 5, none⟩) hlo hhi (.bool m5)
      rw [List.set_set] at S6
      go_upto_region 16 with (fail)
      clear c0 c1 c2 c3 c4 c5 c6 c7 c8 c9 f5 hf S5 T5 hx5
      generalize V5.setCell ⟨b, off + j * 10 + 5, none⟩ (.bool m5) = V6 at S6 T6 ⊢
      have hx6 : (zs.set j ⟨m0, ⟨(k1 : Nat), (k2 : Nat), (k3 : Nat), s4⟩, m5, ⟨yt, yk, yv, ys⟩⟩)[j]? = some ⟨m0, ⟨(k1 : Nat), (k2 : Nat), (k3 : Nat), s4⟩, m5, ⟨yt, yk, yv, ys⟩⟩ := List.getElem?_set_self hxl
      obtain ⟨_, _, ⟨c0, c1, c2, c3, c4, c5, c6, c7, c8, c9⟩, hf⟩ := S6.at10 hx6
      have f6 := hf 6 (by omega)
      have S7 := S6.setG chE_len (x' := ⟨m0, ⟨(k1 : Nat), (k2 : Nat), (k3 : Nat), s4⟩, m5, ⟨(k6 : Nat), yk, yv, ys⟩⟩) (c := 6) (v := .int .i64 (k6 : Nat)) hx6 (by omega) rfl
      have T7 := T6.setCell (p := ⟨b, off + j * 10 + 6, none⟩) hlo hhi (.int .i64 (k6 : Nat))
      rw [List.set_set] at S7
      go_upto_region 18 with (fail)
      clear c0 c1 c2 c3 c4 c5 c6 c7 c8 c9 f6 hf S6 T6 hx6
      generalize V6.setCell ⟨b, off + j * 10 + 6, none⟩ (.int .i64 (k6 : Nat)) = V7 at S7 T7 ⊢
      have hx7 : (zs.set j ⟨m0, ⟨(k1 : Nat), (k2 : Nat), (k3 : Nat), s4⟩, m5, ⟨(k6 : Nat), yk, yv, ys⟩⟩)[j]? = some ⟨m0, ⟨(k1 : Nat), (k2 : Nat), (k3 : Nat), s4⟩, m5, ⟨(k6 : Nat), yk, yv, ys⟩⟩ := List.getElem?_set_self hxl
      obtain ⟨_, _, ⟨c0, c1, c2, c3, c4, c5, c6, c7, c8, c9⟩, hf⟩ := S7.at10 hx7
      have f7 := hf 7 (by omega)
      have S8 := S7.setG chE_len (x' := ⟨m0, ⟨(k1 : Nat), (k2 : Nat), (k3 : Nat), s4⟩, m5, ⟨(k6 : Nat), (k7 : Nat), yv, ys⟩⟩) (c := 7) (v := .int .i64 (k7 : Nat)) hx7 (by omega) rfl
      have T8 := T7.setCell (p := ⟨b, off + j * 10 + 7, none⟩) hlo hhi (.int .i64 (k7 : Nat))
      rw [List.set_set] at S8
      go_upto_region 20 with (fail)
      clear c0 c1 c2 c3 c4 c5 c6 c7 c8 c9 f7 hf S7 T7 hx7
      generalize V7.setCell ⟨b, off + j * 10 + 7, none⟩ (.int .i64 (k7 : Nat)) = V8 at S8 T8 ⊢
      have hx8 : (zs.set j ⟨m0, ⟨(k1 : Nat), (k2 : Nat), (k3 : Nat), s4⟩, m5, ⟨(k6 : Nat), (k7 : Nat), yv, ys⟩⟩)[j]? = some ⟨m0, ⟨(k1 : Nat), (k2 : Nat), (k3 : Nat), s4⟩, m5, ⟨(k6 : Nat), (k7 : Nat), yv, ys⟩⟩ := List.getElem?_set_self hxl
      obtain ⟨_, _, ⟨c0, c1, c2, c3, c4, c5, c6, c7, c8, c9⟩, hf⟩ := S8.at10 hx8
      have f8 := hf 8 (by omega)
      have S9 := S8.setG chE_len (x' := ⟨m0, ⟨(k1 : Nat), (k2 : Nat), (k3 : Nat), s4⟩, m5, ⟨(k6 : Nat), (k7 : Nat), (k8 : Nat), ys⟩⟩) (c := 8) (v := .int .i64 (k8 : Nat)) hx8 (by omega) rfl
      have T9 := T8.setCell (p := ⟨b, off + j * 10 + 8, none⟩) hlo hhi (.int .i64 (k8 : Nat))
      rw [List.set_set] at S9
      go_upto_region 22 with (fail)
      clear c0 c1 c2 c3 c4 c5 c6 c7 c8 c9 f8 hf S8 T8 hx8
      generalize V8.setCell ⟨b, off + j * 10 + 8, none⟩ (.int .i64 (k8 : Nat)) = V9 at S9 T9 ⊢
      go_wp2_with fail
      refine (markText_any k9 hk9.1 (by omega) _).mono ?_
      rintro e w9 ⟨rfl, g9⟩
      have S9 := S9.below g9
      have T9 := T9.trans (Turned.ofBelow g9)
      obtain ⟨s9, hs9⟩ : ∃ s, s = mtx k9 := ⟨_, rfl⟩
      rw [← hs9] at HM ⊢
      clear hs9
      have hx9 : (zs.set j ⟨m0, ⟨(k1 : Nat), (k2 : Nat), (k3 : Nat), s4⟩, m5, ⟨(k6 : Nat), (k7 : Nat), (k8 : Nat), ys⟩⟩)[j]? = some ⟨m0, ⟨(k1 : Nat), (k2 : Nat), (k3 : Nat), s4⟩, m5, ⟨(k6 : Nat), (k7 : Nat), (k8 : Nat), ys⟩⟩ := List.getElem?_set_self hxl
      obtain ⟨_, _, ⟨c0, c1, c2, c3, c4, c5, c6, c7, c8, c9⟩, hf⟩ := S9.at10 hx9
      have f9 := hf 9 (by omega)
      have S10 := S9.setG chE_len (x' := ⟨m0, ⟨(k1 : Nat), (k2 : Nat), (k3 : Nat), s4⟩, m5, ⟨(k6 : Nat), (k7 : Nat), (k8 : Nat), s9⟩⟩) (c := 9) (v := .string s9) hx9 (by omega) rfl
      have T10 := T9.setCell (p := ⟨b, off + j * 10 + 9, none⟩) hlo hhi (.string s9)
      rw [List.set_set] at S10
      have HS4 : Hid (SlIn chE 10 lo hi (w9.setCell ⟨b, off + j * 10 + 9, none⟩ (.string s9)) (some ⟨b, off, none⟩) (mkLC k (j + 1) cs)) := by rw [← HS.out, HM.out]; exact S10
      clear S10 S9 T9 hf hx9 g9
      go_wp2_with fail
      go_roundw
      case rel => exact ⟨j + 1, by omega, by go_num, by rw [← HK10.out], T10, HS4.out⟩
      case measure => simp [intOf]; omega
    · have e : j = n := by omega
      subst e
      have HE : Hid (mkLC k j cs = (List.range j).map (mkC k)) := by show _ = _; have := mkLC_all (k := k) (cs := cs); rw [HN.out] at this; exact this
      go_wp2_with fail
      go_ret
      exact ⟨rfl, ht, by rw [← HE.out]; exact hS⟩

end Go.Proofs.YtmboclfgldgefaaGreat
