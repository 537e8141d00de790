/-
  The model's ReadRecord.
-/
import Derived.Test.YtcjkjenebnodbaaDoorSIrr

namespace Go.Proofs.YtcjkjenebnodbaaDoor
open Go.RowKit
set_option linter.unusedVariables false

/-- What the model carries. -/
structure SrS (w : World) (rb : Nat) (y1 y2 y3 : Int) (a : Option Addr) (k c : Nat) (P : Nat → Int) (V : Nat → Value) (Z : Nat → List Int) (B : Nat → Nat) (X : World) : Prop where
  r : RcAt X rb y1 y2 y3 a k c
  s : A6 w X
  d : Dlt (w.heap.size + 1) X (.slice a k c) k P V Z B
theorem SrS.up {w : World} {rb : Nat} {y1 y2 y3 : Int} {a : Option Addr} {k c : Nat} {P : Nat → Int} {V : Nat → Value} {Z : Nat → List Int} {B : Nat → Nat} {X Y : World} (h : SrS w rb y1 y2 y3 a k c P V Z B X) (hb : Below X.heap.size X Y) : SrS w rb y1 y2 y3 a k c P V Z B Y := ⟨h.r.up hb, h.s.up hb, h.d.below hb⟩

theorem strEq {xs ys : List Int} (hx : ∀ z ∈ xs, 0 ≤ z ∧ z ≤ 255) (hy : ∀ z ∈ ys, 0 ≤ z ∧ z ≤ 255) : ((strOfNums xs).toList == (strOfNums ys).toList) = decide (xs = ys) := by
  rw [Bool.eq_iff_iff, Go.Lib.strOfNums_toList, Go.Lib.strOfNums_toList, decide_eq_true_eq, beq_iff_eq]
  exact ⟨fun e => strOf_inj xs ys hx hy e, fun e => by rw [e]⟩

set_option maxHeartbeats 4000000 in
theorem specReadRecord_any (zs : List Int) (a : Option Addr) (cap : Nat) (w : World) (hm : zs.length ≤ 1048576) (hcap : zs.length ≤ cap) (hcm : cap ≤ 9223372036854775807) (hf : Reads w a zs) (hz : ∀ z ∈ zs, 0 ≤ z ∧ z ≤ 255) :
    Calls Tryd.prog 8 #[.slice a zs.length cap] w fun e w' => RRPost w zs e w' := by
  have hA := a6_new w
  by_cases h7 : zs.length < 7
  · have hno : ¬ OkI zs := fun h => by have := (okI_okS h).1; omega
    have HN : Hid (qR zs = 5 ∧ uR zs = 0 ∧ kR zs 1 = 0 ∧ kR zs 2 = 0 ∧ kR zs 3 = 0 ∧ nR zs = 0) := rr_no hno
    have h7' : (zs.length : Int) < 7 := by omega
    have h7d : decide ((zs.length : Int) < 7) = true := by simpa using h7'
    clear hno
    go_enter Tryd.func8, Tryd.ntmps8
    go_upto_region 1 with (fail)
    generalize w.alloc (.cells #[.int .i64 0, .int .i64 0, .int .i64 0, .int .i64 0, .int .i64 0, .slice none 0 0] 29) = Y at hA ⊢
    obtain ⟨a0, a1, a2, a3, a4, a5, f0, f1, f2, f3, f4, f5, g, hs⟩ := hA
    go_wp2_with fail
    refine bodyPost_ret (v := .agg #[.int .i64 5, .int .i64 0, .int .i64 0, .int .i64 0, .int .i64 0, .slice none 0 0]) (by simp [results, Tryd.results8, go_sem, *]) rfl ?_
    obtain ⟨e1, e2, e3, e4, e5, e6⟩ := HN.out
    exact ⟨none, 0, fun _ => none, fun _ => 0, fun _ => 0, by rw [e1, e2, e3, e4, e5, e6]; rfl, by go_grown, by rw [e6]; exact .inl rfl⟩
  obtain ⟨b, off, rfl, hfr⟩ : ∃ b off, a = some ⟨b, off, none⟩ ∧ From w b off zs 0 := by
    rcases hf with h | ⟨b, off, h, hc⟩
    · rw [h] at h7; simp at h7
    · exact ⟨b, off, h, fun i hi => by rw [Nat.zero_add] at hi ⊢; exact hc i hi⟩
  have HB : Hid (∀ i, i < zs.length → 0 ≤ zs.getD i 0 ∧ zs.getD i 0 ≤ 255) := fun i hi => hz _ (by simp [List.getD, List.getElem?_eq_getElem hi])
  have HF : Hid (∀ X, Below w.heap.size w X → From X b off zs 0) := fun X gX i hi => (gX.cell (World.block_lt_of_cell? w _ (hfr i hi))).trans (hfr i hi)
  obtain ⟨n0, hn0⟩ : ∃ x : Nat, zs.getD 0 0 = (x : Int) := ⟨(zs.getD 0 0).toNat, by have := HB.out 0 (by omega); omega⟩
  have hb0 : n0 ≤ 255 := by have := HB.out 0 (by omega); omega
  have HL0 : Hid (len0 zs = n0) := by show _ = _; unfold len0; rw [hn0]; omega
  have HE0 : Hid (∀ X, Below w.heap.size w X → X.cell? ⟨b, off, none⟩ = some (.int .u8 n0)) := fun X gX => by
    have h1 := HF.out X gX 0 (by omega)
    rw [Nat.zero_add, hn0] at h1
    exact h1
  have HZ : Hid (∀ z ∈ zs, 0 ≤ z ∧ z ≤ 255) := hz
  obtain ⟨n, hn⟩ : ∃ n, n = zs.length := ⟨_, rfl⟩
  have HNn : Hid (zs.length = n) := hn.symm
  rw [← hn] at h7 hm hcap ⊢
  have h7' : ¬ ((n : Int) < 7) := by omega
  have h7d : decide ((n : Int) < 7) = false := by simpa using h7'
  have hl0 : (0 : Int) < (n : Int) := by omega
  have hl0' : 0 < n := by omega
  clear hn0 hf hfr hz hn
  by_cases hs : n0 < 7 ∨ n < n0
  · have hno : ¬ OkI zs := fun h => by have h2 := okI_okS h; have := h2.2.1; have := h2.2.2.1; rw [HL0.out] at *; rw [HNn.out] at *; omega
    have HN : Hid (qR zs = 5 ∧ uR zs = 0 ∧ kR zs 1 = 0 ∧ kR zs 2 = 0 ∧ kR zs 3 = 0 ∧ nR zs = 0) := rr_no hno
    clear hno
    by_cases hs1 : n0 < 7
    · have d1 : (n0 : Int) < 7 := by omega
      have d1d : decide ((n0 : Int) < 7) = true := by simpa using d1
      go_enter Tryd.func8, Tryd.ntmps8
      go_upto_region 1 with (fail)
      generalize w.alloc (.cells #[.int .i64 0, .int .i64 0, .int .i64 0, .int .i64 0, .int .i64 0, .slice none 0 0] 29) = Y at hA ⊢
      have e0 := HE0.out _ hA.g
      obtain ⟨a0, a1, a2, a3, a4, a5, f0, f1, f2, f3, f4, f5, g, hs⟩ := hA
      go_wp2_with fail
      refine bodyPost_ret (v := .agg #[.int .i64 5, .int .i64 0, .int .i64 0, .int .i64 0, .int .i64 0, .slice none 0 0]) (by simp [results, Tryd.results8, go_sem, *]) rfl ?_
      obtain ⟨e1, e2, e3, e4, e5, e6⟩ := HN.out
      exact ⟨none, 0, fun _ => none, fun _ => 0, fun _ => 0, by rw [e1, e2, e3, e4, e5, e6]; rfl, by go_grown, by rw [e6]; exact .inl rfl⟩
    · have d1 : ¬ ((n0 : Int) < 7) := by omega
      have d1d : decide ((n0 : Int) < 7) = false := by simpa using d1
      have d2 : (n : Int) < (n0 : Int) := by omega
      have d2d : decide ((n : Int) < (n0 : Int)) = true := by simpa using d2
      go_enter Tryd.func8, Tryd.ntmps8
      go_upto_region 1 with (fail)
      generalize w.alloc (.cells #[.int .i64 0, .int .i64 0, .int .i64 0, .int .i64 0, .int .i64 0, .slice none 0 0] 29) = Y at hA ⊢
      have e0 := HE0.out _ hA.g
      obtain ⟨a0, a1, a2, a3, a4, a5, f0, f1, f2, f3, f4, f5, g, hs⟩ := hA
      go_wp2_with fail
      refine bodyPost_ret (v := .agg #[.int .i64 5, .int .i64 0, .int .i64 0, .int .i64 0, .int .i64 0, .slice none 0 0]) (by simp [results, Tryd.results8, go_sem, *]) rfl ?_
      obtain ⟨e1, e2, e3, e4, e5, e6⟩ := HN.out
      exact ⟨none, 0, fun _ => none, fun _ => 0, fun _ => 0, by rw [e1, e2, e3, e4, e5, e6]; rfl, by go_grown, by rw [e6]; exact .inl rfl⟩
  have d1 : ¬ ((n0 : Int) < 7) := by omega
  have d1d : decide ((n0 : Int) < 7) = false := by simpa using d1
  have d2 : ¬ ((n : Int) < (n0 : Int)) := by omega
  have d2d : decide ((n : Int) < (n0 : Int)) = false := by simpa using d2
  have d3 : (n0 : Int) ≤ (cap : Int) := by omega
  have d4 : (0 : Int) ≤ (n0 : Int) := by omega
  have hc0 : ¬ cap = 0 := by omega
  obtain ⟨ys, hys⟩ : ∃ ys, ys = zs.take n0 := ⟨_, rfl⟩
  have hyl : ys.length = n0 := by rw [hys, List.length_take, HNn.out]; omega
  have HYl : Hid (ys.length = n0) := hyl
  have HYb : Hid (∀ z ∈ ys, 0 ≤ z ∧ z ≤ 255) := fun z h => by rw [hys] at h; exact HZ.out z (List.mem_of_mem_take h)
  have HFy : Hid (∀ X, Below w.heap.size w X → From X b off ys 0) := fun X gX i hi => by
    have h1 := HF.out X gX i (by rw [HNn.out]; omega)
    rw [h1, hys]
    simp only [Nat.zero_add] at hi ⊢
    rw [(Agree.take zs n0).at' i (by omega)]
  have HRd : Hid (∀ X, Below w.heap.size w X → Calls Tryd.prog 28 #[.slice (some ⟨b, off, none⟩) n0 cap] X fun e w' => RrPost X ys e w') := fun X gX => by
    have h := l4Read_any ys b off cap X (by omega) (by omega) (by omega) hcm (HFy.out X gX) HYb.out
    rw [hyl] at h
    exact h
  have HCv : Hid (∀ u, Below w.heap.size w u → (convert 22 9 (.slice (some ⟨b, off, none⟩) n0 cap)).run Tryd.prog u = .ok (.string (strOfNums ys)) u) := fun u gu => convert_any u _ n0 cap ys hyl (.inr ⟨b, off, rfl, fun i hi => by have := HFy.out u gu i (by omega); rw [Nat.zero_add] at this; exact this⟩)
  have HOS : Hid (OkI zs ↔ (rdQ ys = 0 ∧ rdB ys = ys)) := by
    show _ ↔ _
    rw [ok_iff]
    unfold OkS
    rw [HL0.out, ← hys, HNn.out]
    constructor
    · intro h; exact h.2.2.2
    · intro h; exact ⟨by omega, by omega, by omega, h⟩
  have HAg : Hid (Agree n0 zs ys) := by show Agree n0 zs ys; rw [hys]; exact Agree.take zs n0
  obtain ⟨y1, hy1⟩ : ∃ y, y = ys.getD 1 0 := ⟨_, rfl⟩
  obtain ⟨y2, hy2⟩ : ∃ y, y = ys.getD 2 0 := ⟨_, rfl⟩
  obtain ⟨y3, hy3⟩ : ∃ y, y = ys.getD 3 0 := ⟨_, rfl⟩
  obtain ⟨k, hk⟩ : ∃ k, k = cnt ys := ⟨_, rfl⟩
  have HYs : Hid (ys.getD 1 0 = y1 ∧ ys.getD 2 0 = y2 ∧ ys.getD 3 0 = y3 ∧ cnt ys = k) := ⟨hy1.symm, hy2.symm, hy3.symm, hk.symm⟩
  have hk255 : k ≤ 255 := by
    have h1 := cnt_le (zs := ys)
    rw [HAg.out.at' 4 (by omega)] at h1
    have := HB.out 4 (by rw [HNn.out]; omega)
    omega
  have HQe : Hid (rdQ ys = recQ y1 y2 y3 k (rP ys) (rZ ys)) := by show _ = _; unfold rdQ; rw [hy1, hy2, hy3, hk]
  have HBe : Hid (rdB ys = packB y1 y2 y3 k (rP ys) (rZ ys)) := by show _ = _; unfold rdB; rw [hy1, hy2, hy3, hk]
  have HZs : Hid (∀ i, i < k → (rZ ys i).length ≤ 1048576) := fun i _ => rZ_small (by omega) i
  have HZb : Hid (∀ i, i < k → ∀ z ∈ rZ ys i, 0 ≤ z ∧ z ≤ 255) := fun i _ => rZ_bd HYb.out i
  obtain ⟨q, hq⟩ : ∃ q, q = recQ y1 y2 y3 k (rP ys) (rZ ys) := ⟨_, rfl⟩
  have HQ : Hid (recQ y1 y2 y3 k (rP ys) (rZ ys) = q) := hq.symm
  clear hys hyl hy1 hy2 hy3 hk hs hq
  go_enter Tryd.func8, Tryd.ntmps8
  go_upto_region 1 with (fail)
  generalize w.alloc (.cells #[.int .i64 0, .int .i64 0, .int .i64 0, .int .i64 0, .int .i64 0, .slice none 0 0] 29) = Y at hA ⊢
  have e0 := HE0.out _ hA.g
  go_wp2_with fail
  refine (HRd.out _ hA.g).mono ?_
  rintro e w4 ⟨a4, c4, V4, B4, rfl, g4, hD4⟩
  obtain ⟨z1, z2, z3, z4⟩ := HYs.out
  rw [z1, z2, z3, z4]
  rw [z4] at hD4
  have hAs := hA.s
  have hA := hA.up g4
  have hD4 := hD4.mono (n₁ := w.heap.size + 1) hAs
  clear g4 e0 z1 z2 z3 z4 hAs
  go_upto_region 5 with (fail)
  generalize hY4 : World.alloc w4 _ = Y4
  have gA : Below w4.heap.size w4 Y4 := by rw [← hY4]; go_grown
  have hHeld : SrS w w4.heap.size y1 y2 y3 a4 k c4 (rP ys) V4 (rZ ys) B4 Y4 := ⟨by rw [← hY4]; exact ⟨by simp [go_sem], by simp [go_sem], by simp [go_sem], by simp [go_sem]⟩, hA.up gA, hD4.below gA⟩
  clear hY4 gA hA hD4
  generalize w4.heap.size = rb at hHeld ⊢
  have hHeld := hHeld.up (show Below Y4.heap.size Y4 Y4.drew from (Below.refl _ _).drew)
  by_cases hq0 : q = 0
  · have hrq : recQ y1 y2 y3 k (rP ys) (rZ ys) = 0 := HQ.out.trans hq0
    have hok := rec_runs hrq HZb.out
    have HOk : Hid (RunsOk k (rZ ys)) := hok
    obtain ⟨us, hus⟩ : ∃ us, us = packB y1 y2 y3 k (rP ys) (rZ ys) := ⟨_, rfl⟩
    have HPk : Hid (packB y1 y2 y3 k (rP ys) (rZ ys) = us) := hus.symm
    have hub : ∀ z ∈ us, 0 ≤ z ∧ z ≤ 255 := by rw [hus]; exact packB_bd hok.few hok.tot hok.both
    have hst := strEq hub HYb.out
    have HNe : Hid (∀ i, i < k → rZ ys i ≠ []) := fun i hi e => by have := (hok.len i hi).1; rw [e] at this; simp at this
    have HOy : Hid (OkI zs ↔ us = ys) := by
      show _ ↔ _
      rw [HOS.out, HQe.out, hrq, HBe.out, HPk.out]
      simp
    subst hq0
    clear hrq hok hus hub
    by_cases heq : us = ys
    · have hok : OkI zs := HOy.out.2 heq
      have HY : Hid (qR zs = 0 ∧ uR zs = len0 zs ∧ kR zs 1 = zs.getD 1 0 ∧ kR zs 2 = zs.getD 2 0 ∧ kR zs 3 = zs.getD 3 0 ∧ nR zs = cnt zs) := rr_yes hok
      have HEq : Hid (((strOfNums us).toList == (strOfNums ys).toList) = true) := by show _ = _; rw [hst]; exact decide_eq_true heq
      have hol := ok_len hok
      have hra := read_agree HAg.out (by omega) (by rw [HYl.out]; exact Nat.le_refl _) hol.2.2.2.1 (by rw [HL0.out] at hol; omega)
      have HCk : Hid (cnt zs = k) := by show _ = _; rw [← hra.1]; exact HYs.out.2.2.2
      have HPZ : Hid ((∀ i, i < k → rP ys i = rP zs i) ∧ (∀ i, i < k → rZ ys i = rZ zs i)) := by
        have hpo : ∀ i, i < k → pos zs (i + 1) ≤ n0 := fun i hi => by
          have h1 := pos_mono zs (i + 1) (cnt zs) (by rw [HCk.out]; omega)
          have h2 := hol.2.2.2.2
          rw [HL0.out] at h2
          omega
        exact ⟨fun i hi => rP_agree HAg.out i (fun j hj => hpo j (by omega)), fun i hi => rZ_agree HAg.out i (fun j hj => hpo j (by omega))⟩
      have HX : Hid (zs.getD 1 0 = y1 ∧ zs.getD 2 0 = y2 ∧ zs.getD 3 0 = y3) := ⟨by rw [← HAg.out.at' 1 (by omega)]; exact HYs.out.1, by rw [← HAg.out.at' 2 (by omega)]; exact HYs.out.2.1, by rw [← HAg.out.at' 3 (by omega)]; exact HYs.out.2.2.1⟩
      clear heq hok hol hra hst
      refine wp_region_held_drew (S := fun X => SrS w rb y1 y2 y3 a4 k c4 (rP ys) V4 (rZ ys) B4 X) (by kernel_rfl) hHeld (fun hHeld => ?_)
      generalize Y4.drew = D at hHeld ⊢
      obtain ⟨A4, C4, hrd⟩ := hHeld.d.readsAt
      refine wpAnyH_ready (rs := [0]) (by kernel_rfl) (by simp) ?_
      refine AllReadyH.cons rfl (fun K hK => ?_) AllReadyH.nil
      go_simp
      go_wp2_with (go_at_call 29; refine (l4Fault_any rb y1 y2 y3 a4 k c4 (rP ys) A4 C4 (rZ ys) _ (by omega) HZs hrd hHeld.r).mono ?_; rintro e w6 ⟨rfl, q6, rfl⟩; rw [HQ.out])
      refine hK.out _ _ (hHeld.up (below_draws (Below.refl _ _) _)) (fun hHeld => ?_)
      clear hK K
      try simp only [Act.put]
      try simp only [List.setIfInBounds_toArray]
      try simp only [List.set]
      refine wpAnyH_take (i := 1) (v := ?v4) rfl (by kernel_rfl) (by kernel_rfl) (by kernel_rfl) (fun _ _ _ h => h) (Or.inl ⟨by kernel_rfl, ?h4⟩) hHeld ?_
      case h4 => intro u hSw; (try dsimp only at hSw); go_simp; try with_reducible rfl
      try simp only [List.getElem_toArray]
      try simp only [List.getElem_cons_succ]
      try simp only [List.getElem_cons_zero]
      try simp only [Act.put]
      try simp only [List.setIfInBounds_toArray]
      try simp only [List.set]
      refine wpAnyH_take (i := 2) (v := ?v5) rfl (by kernel_rfl) (by kernel_rfl) (by kernel_rfl) (fun _ _ _ h => h) (Or.inl ⟨by kernel_rfl, ?h5⟩) hHeld ?_
      case h5 => intro u hSw; (try dsimp only at hSw); go_simp; try with_reducible rfl
      try simp only [List.getElem_toArray]
      try simp only [List.getElem_cons_succ]
      try simp only [List.getElem_cons_zero]
      try simp only [Act.put]
      try simp only [List.setIfInBounds_toArray]
      try simp only [List.set]
      refine wpAnyH_take (i := 5) (v := ?v6) rfl (by kernel_rfl) (by kernel_rfl) (by kernel_rfl) (fun _ _ _ h => h) (Or.inl ⟨by kernel_rfl, ?h6⟩) hHeld ?_
      case h6 => intro u hSw; (try dsimp only at hSw); go_simp; try with_reducible rfl
      try simp only [List.getElem_toArray]
      try simp only [List.getElem_cons_succ]
      try simp only [List.getElem_cons_zero]
      try simp only [Act.put]
      try simp only [List.setIfInBounds_toArray]
      try simp only [List.set]
      refine wpAnyH_take (i := 6) (v := ?v7) rfl (by kernel_rfl) (by kernel_rfl) (by kernel_rfl) (fun _ _ _ h => h) (Or.inl ⟨by kernel_rfl, ?h7⟩) hHeld ?_
      case h7 => intro u hSw; (try dsimp only at hSw); go_simp; try with_reducible rfl
      try simp only [List.getElem_toArray]
      try simp only [List.getElem_cons_succ]
      try simp only [List.getElem_cons_zero]
      try simp only [Act.put]
      try simp only [List.setIfInBounds_toArray]
      try simp only [List.set]
      refine wpAnyH_take (i := 7) (v := ?v8) rfl (by kernel_rfl) (by kernel_rfl) (by kernel_rfl) (fun _ _ _ h => h) (Or.inl ⟨by kernel_rfl, ?h8⟩) hHeld ?_
      case h8 => intro u hSw; (try dsimp only at hSw); go_simp; try with_reducible rfl
      try simp only [List.getElem_toArray]
      try simp only [List.getElem_cons_succ]
      try simp only [List.getElem_cons_zero]
      try simp only [Act.put]
      try simp only [List.setIfInBounds_toArray]
      try simp only [List.set]
      refine wpAnyH_take (i := 8) (v := ?v9) rfl (by kernel_rfl) (by kernel_rfl) (by kernel_rfl) (fun _ _ _ h => h) (Or.inl ⟨by kernel_rfl, ?h9⟩) hHeld ?_
      case h9 => intro u hSw; have k2 := HCv.out u hSw.s.g; go_simp; try with_reducible rfl
      try simp only [List.getElem_toArray]
      try simp only [List.getElem_cons_succ]
      try simp only [List.getElem_cons_zero]
      try simp only [Act.put]
      try simp only [List.setIfInBounds_toArray]
      try simp only [List.set]
      obtain ⟨A5, C5, hrd5⟩ := hHeld.d.readsAt
      refine wpAnyH_ready (rs := [3]) (by kernel_rfl) (by simp) ?_
      refine AllReadyH.cons rfl (fun K hK => ?_) AllReadyH.nil
      go_simp
      go_wp2_with (go_at_call 23; refine (l4Pack_any rb y1 y2 y3 a4 k c4 (rP ys) A5 C5 (rZ ys) _ HOk.out hrd5 hHeld.r).mono ?_; rintro e w7 ⟨g7, d7, rfl, _, gb7, y7⟩; rw [HPk.out])
      rw [HPk.out] at y7
      refine hK.out _ _ (hHeld.up gb7) (fun hHeld => ?_)
      clear hK K gb7 hrd5
      try simp only [Act.put]
      try simp only [List.setIfInBounds_toArray]
      try simp only [List.set]
      have k1 := convert_any w7 (some ⟨g7, 0, none⟩) us.length d7 us rfl y7.reads
      have hst := HEq.out
      generalize strOfNums us = su at k1 hst
      generalize strOfNums ys = sy at hst ⊢
      refine wpAnyH_ready (rs := [4]) (by kernel_rfl) (by simp) ?_
      refine AllReadyH.cons rfl (fun K hK => ?_) AllReadyH.nil
      go_simp
      refine hK.out _ _ hHeld (fun hHeld => ?_)
      clear hK K k1 y7
      try simp only [Act.put]
      try simp only [List.setIfInBounds_toArray]
      try simp only [List.set]
      refine wpAnyH_take (i := 9) (v := ?v10) rfl (by kernel_rfl) (by kernel_rfl) (by kernel_rfl) (fun _ _ _ h => h) (Or.inl ⟨by kernel_rfl, ?h10⟩) hHeld ?_
      case h10 => intro u hSw; (try dsimp only at hSw); go_simp; try with_reducible rfl
      try simp only [List.getElem_toArray]
      try simp only [List.getElem_cons_succ]
      try simp only [List.getElem_cons_zero]
      try simp only [Act.put]
      try simp only [List.setIfInBounds_toArray]
      try simp only [List.set]
      refine wpAnyH_take (i := 10) (v := ?v11) rfl (by kernel_rfl) (by kernel_rfl) (by kernel_rfl) (fun _ _ _ h => h) (Or.inl ⟨by kernel_rfl, ?h11⟩) hHeld ?_
      case h11 => intro u hSw; (try dsimp only at hSw); go_simp; try with_reducible rfl
      try simp only [List.getElem_toArray]
      try simp only [List.getElem_cons_succ]
      try simp only [List.getElem_cons_zero]
      try simp only [Act.put]
      try simp only [List.setIfInBounds_toArray]
      try simp only [List.set]
      refine wpAnyH_done (by kernel_rfl) ?_ _
      obtain ⟨c0, c1, c2, c3⟩ := hHeld.r
      have hD := hHeld.d
      obtain ⟨a0, a1, a2, a3, a4', a5, f0, f1, f2, f3, f4, f5, g, hs⟩ := hHeld.s
      clear hHeld hrd
      go_wp2_with fail
      refine bodyPost_ret (v := .agg #[.int .i64 0, .int .i64 n0, .int .i64 y1, .int .i64 y2, .int .i64 y3, .slice a4 k c4]) (by simp [results, Tryd.results8, go_sem, *]) rfl ?_
      obtain ⟨e1, e2, e3, e4, e5, e6⟩ := HY.out
      obtain ⟨A9, C9, F9, hO⟩ := (hD.six (b := w.heap.size) (by omega) (.int .i64 0) (.int .i64 n0) (.int .i64 y1) (.int .i64 y2) (.int .i64 y3) (.slice a4 k c4)).ownAt HNe.out
      refine ⟨a4, c4, A9, C9, F9, by rw [e1, e2, e3, e4, e5, e6, HL0.out, HX.out.1, HX.out.2.1, HX.out.2.2, HCk.out], by go_grown, ?_⟩
      rw [e6, HCk.out]
      exact (hO.congr HPZ.out.1 HPZ.out.2).mono (by omega) (Nat.le_refl _)
    · have hno : ¬ OkI zs := fun h => heq (HOy.out.1 h)
      have HN : Hid (qR zs = 5 ∧ uR zs = 0 ∧ kR zs 1 = 0 ∧ kR zs 2 = 0 ∧ kR zs 3 = 0 ∧ nR zs = 0) := rr_no hno
      have HEq : Hid (((strOfNums us).toList == (strOfNums ys).toList) = false) := by show _ = _; rw [hst]; exact decide_eq_false heq
      clear heq hno hst
      refine wp_region_held_drew (S := fun X => SrS w rb y1 y2 y3 a4 k c4 (rP ys) V4 (rZ ys) B4 X) (by kernel_rfl) hHeld (fun hHeld => ?_)
      generalize Y4.drew = D at hHeld ⊢
      obtain ⟨A4, C4, hrd⟩ := hHeld.d.readsAt
      refine wpAnyH_ready (rs := [0]) (by kernel_rfl) (by simp) ?_
      refine AllReadyH.cons rfl (fun K hK => ?_) AllReadyH.nil
      go_simp
      go_wp2_with (go_at_call 29; refine (l4Fault_any rb y1 y2 y3 a4 k c4 (rP ys) A4 C4 (rZ ys) _ (by omega) HZs hrd hHeld.r).mono ?_; rintro e w6 ⟨rfl, q6, rfl⟩; rw [HQ.out])
      refine hK.out _ _ (hHeld.up (below_draws (Below.refl _ _) _)) (fun hHeld => ?_)
      clear hK K
      try simp only [Act.put]
      try simp only [List.setIfInBounds_toArray]
      try simp only [List.set]
      refine wpAnyH_take (i := 1) (v := ?v12) rfl (by kernel_rfl) (by kernel_rfl) (by kernel_rfl) (fun _ _ _ h => h) (Or.inl ⟨by kernel_rfl, ?h12⟩) hHeld ?_
      case h12 => intro u hSw; (try dsimp only at hSw); go_simp; try with_reducible rfl
      try simp only [List.getElem_toArray]
      try simp only [List.getElem_cons_succ]
      try simp only [List.getElem_cons_zero]
      try simp only [Act.put]
      try simp only [List.setIfInBounds_toArray]
      try simp only [List.set]
      refine wpAnyH_take (i := 2) (v := ?v13) rfl (by kernel_rfl) (by kernel_rfl) (by kernel_rfl) (fun _ _ _ h => h) (Or.inl ⟨by kernel_rfl, ?h13⟩) hHeld ?_
      case h13 => intro u hSw; (try dsimp only at hSw); go_simp; try with_reducible rfl
      try simp only [List.getElem_toArray]
      try simp only [List.getElem_cons_succ]
      try simp only [List.getElem_cons_zero]
      try simp only [Act.put]
      try simp only [List.setIfInBounds_toArray]
      try simp only [List.set]
      refine wpAnyH_take (i := 5) (v := ?v14) rfl (by kernel_rfl) (by kernel_rfl) (by kernel_rfl) (fun _ _ _ h => h) (Or.inl ⟨by kernel_rfl, ?h14⟩) hHeld ?_
      case h14 => intro u hSw; (try dsimp only at hSw); go_simp; try with_reducible rfl
      try simp only [List.getElem_toArray]
      try simp only [List.getElem_cons_succ]
      try simp only [List.getElem_cons_zero]
      try simp only [Act.put]
      try simp only [List.setIfInBounds_toArray]
      try simp only [List.set]
      refine wpAnyH_take (i := 6) (v := ?v15) rfl (by kernel_rfl) (by kernel_rfl) (by kernel_rfl) (fun _ _ _ h => h) (Or.inl ⟨by kernel_rfl, ?h15⟩) hHeld ?_
      case h15 => intro u hSw; (try dsimp only at hSw); go_simp; try with_reducible rfl
      try simp only [List.getElem_toArray]
      try simp only [List.getElem_cons_succ]
      try simp only [List.getElem_cons_zero]
      try simp only [Act.put]
      try simp only [List.setIfInBounds_toArray]
      try simp only [List.set]
      refine wpAnyH_take (i := 7) (v := ?v16) rfl (by kernel_rfl) (by kernel_rfl) (by kernel_rfl) (fun _ _ _ h => h) (Or.inl ⟨by kernel_rfl, ?h16⟩) hHeld ?_
      case h16 => intro u hSw; (try dsimp only at hSw); go_simp; try with_reducible rfl
      try simp only [List.getElem_toArray]
      try simp only [List.getElem_cons_succ]
      try simp only [List.getElem_cons_zero]
      try simp only [Act.put]
      try simp only [List.setIfInBounds_toArray]
      try simp only [List.set]
      refine wpAnyH_take (i := 8) (v := ?v17) rfl (by kernel_rfl) (by kernel_rfl) (by kernel_rfl) (fun _ _ _ h => h) (Or.inl ⟨by kernel_rfl, ?h17⟩) hHeld ?_
      case h17 => intro u hSw; have k2 := HCv.out u hSw.s.g; go_simp; try with_reducible rfl
      try simp only [List.getElem_toArray]
      try simp only [List.getElem_cons_succ]
      try simp only [List.getElem_cons_zero]
      try simp only [Act.put]
      try simp only [List.setIfInBounds_toArray]
      try simp only [List.set]
      obtain ⟨A5, C5, hrd5⟩ := hHeld.d.readsAt
      refine wpAnyH_ready (rs := [3]) (by kernel_rfl) (by simp) ?_
      refine AllReadyH.cons rfl (fun K hK => ?_) AllReadyH.nil
      go_simp
      go_wp2_with (go_at_call 23; refine (l4Pack_any rb y1 y2 y3 a4 k c4 (rP ys) A5 C5 (rZ ys) _ HOk.out hrd5 hHeld.r).mono ?_; rintro e w7 ⟨g7, d7, rfl, _, gb7, y7⟩; rw [HPk.out])
      rw [HPk.out] at y7
      refine hK.out _ _ (hHeld.up gb7) (fun hHeld => ?_)
      clear hK K gb7 hrd5
      try simp only [Act.put]
      try simp only [List.setIfInBounds_toArray]
      try simp only [List.set]
      have k1 := convert_any w7 (some ⟨g7, 0, none⟩) us.length d7 us rfl y7.reads
      have hst := HEq.out
      generalize strOfNums us = su at k1 hst
      generalize strOfNums ys = sy at hst ⊢
      refine wpAnyH_ready (rs := [4]) (by kernel_rfl) (by simp) ?_
      refine AllReadyH.cons rfl (fun K hK => ?_) AllReadyH.nil
      go_simp
      refine hK.out _ _ hHeld (fun hHeld => ?_)
      clear hK K k1 y7
      try simp only [Act.put]
      try simp only [List.setIfInBounds_toArray]
      try simp only [List.set]
      refine wpAnyH_take (i := 9) (v := ?v18) rfl (by kernel_rfl) (by kernel_rfl) (by kernel_rfl) (fun _ _ _ h => h) (Or.inl ⟨by kernel_rfl, ?h18⟩) hHeld ?_
      case h18 => intro u hSw; (try dsimp only at hSw); go_simp; try with_reducible rfl
      try simp only [List.getElem_toArray]
      try simp only [List.getElem_cons_succ]
      try simp only [List.getElem_cons_zero]
      try simp only [Act.put]
      try simp only [List.setIfInBounds_toArray]
      try simp only [List.set]
      refine wpAnyH_take (i := 10) (v := ?v19) rfl (by kernel_rfl) (by kernel_rfl) (by kernel_rfl) (fun _ _ _ h => h) (Or.inl ⟨by kernel_rfl, ?h19⟩) hHeld ?_
      case h19 => intro u hSw; (try dsimp only at hSw); go_simp; try with_reducible rfl
      try simp only [List.getElem_toArray]
      try simp only [List.getElem_cons_succ]
      try simp only [List.getElem_cons_zero]
      try simp only [Act.put]
      try simp only [List.setIfInBounds_toArray]
      try simp only [List.set]
      refine wpAnyH_done (by kernel_rfl) ?_ _
      have hA := hHeld.s
      clear hHeld hrd
      obtain ⟨a0, a1, a2, a3, a4, a5, f0, f1, f2, f3, f4, f5, g, hs⟩ := hA
      go_wp2_with fail
      refine bodyPost_ret (v := .agg #[.int .i64 5, .int .i64 0, .int .i64 0, .int .i64 0, .int .i64 0, .slice none 0 0]) (by simp [results, Tryd.results8, go_sem, *]) rfl ?_
      obtain ⟨e1, e2, e3, e4, e5, e6⟩ := HN.out
      exact ⟨none, 0, fun _ => none, fun _ => 0, fun _ => 0, by rw [e1, e2, e3, e4, e5, e6]; rfl, by go_grown, by rw [e6]; exact .inl rfl⟩
  · have hno : ¬ OkI zs := fun h => hq0 (by rw [← HQ.out, ← HQe.out]; exact (HOS.out.1 h).1)
    have HN : Hid (qR zs = 5 ∧ uR zs = 0 ∧ kR zs 1 = 0 ∧ kR zs 2 = 0 ∧ kR zs 3 = 0 ∧ nR zs = 0) := rr_no hno
    have dq : (q != 0) = true := by simpa using hq0
    clear hno hq0
    · refine wp_region_held_drew (S := fun X => SrS w rb y1 y2 y3 a4 k c4 (rP ys) V4 (rZ ys) B4 X) (by kernel_rfl) hHeld (fun hHeld => ?_)
      generalize Y4.drew = D at hHeld ⊢
      obtain ⟨A4, C4, hrd⟩ := hHeld.d.readsAt
      refine wpAnyH_ready (rs := [0]) (by kernel_rfl) (by simp) ?_
      refine AllReadyH.cons rfl (fun K hK => ?_) AllReadyH.nil
      go_simp
      go_wp2_with (go_at_call 29; refine (l4Fault_any rb y1 y2 y3 a4 k c4 (rP ys) A4 C4 (rZ ys) _ (by omega) HZs hrd hHeld.r).mono ?_; rintro e w6 ⟨rfl, q6, rfl⟩; rw [HQ.out])
      refine hK.out _ _ (hHeld.up (below_draws (Below.refl _ _) _)) (fun hHeld => ?_)
      clear hK K
      try simp only [Act.put]
      try simp only [List.setIfInBounds_toArray]
      try simp only [List.set]
      refine wpAnyH_take (i := 1) (v := ?v1) rfl (by kernel_rfl) (by kernel_rfl) (by kernel_rfl) (fun _ _ _ h => h) (Or.inl ⟨by kernel_rfl, ?h1⟩) hHeld ?_
      case h1 => intro u hSw; (try dsimp only at hSw); go_simp; try with_reducible rfl
      try simp only [List.getElem_toArray]
      try simp only [List.getElem_cons_succ]
      try simp only [List.getElem_cons_zero]
      try simp only [Act.put]
      try simp only [List.setIfInBounds_toArray]
      try simp only [List.set]
      refine wpAnyH_take (i := 2) (v := ?v2) rfl (by kernel_rfl) (by kernel_rfl) (by kernel_rfl) (fun _ _ _ h => h) (Or.inl ⟨by kernel_rfl, ?h2⟩) hHeld ?_
      case h2 => intro u hSw; (try dsimp only at hSw); go_simp; try with_reducible rfl
      try simp only [List.getElem_toArray]
      try simp only [List.getElem_cons_succ]
      try simp only [List.getElem_cons_zero]
      try simp only [Act.put]
      try simp only [List.setIfInBounds_toArray]
      try simp only [List.set]
      refine wpAnyH_take (i := 3) (v := undef) rfl (by kernel_rfl) (by kernel_rfl) (by kernel_rfl) (fun _ _ _ h => h) (Or.inr ⟨by kernel_rfl, rfl⟩) hHeld ?_
      try simp only [List.getElem_toArray]
      try simp only [List.getElem_cons_succ]
      try simp only [List.getElem_cons_zero]
      try simp only [Act.put]
      try simp only [List.setIfInBounds_toArray]
      try simp only [List.set]
      refine wpAnyH_take (i := 4) (v := undef) rfl (by kernel_rfl) (by kernel_rfl) (by kernel_rfl) (fun _ _ _ h => h) (Or.inr ⟨by kernel_rfl, rfl⟩) hHeld ?_
      try simp only [List.getElem_toArray]
      try simp only [List.getElem_cons_succ]
      try simp only [List.getElem_cons_zero]
      try simp only [Act.put]
      try simp only [List.setIfInBounds_toArray]
      try simp only [List.set]
      refine wpAnyH_take (i := 5) (v := undef) rfl (by kernel_rfl) (by kernel_rfl) (by kernel_rfl) (fun _ _ _ h => h) (Or.inr ⟨by kernel_rfl, rfl⟩) hHeld ?_
      try simp only [List.getElem_toArray]
      try simp only [List.getElem_cons_succ]
      try simp only [List.getElem_cons_zero]
      try simp only [Act.put]
      try simp only [List.setIfInBounds_toArray]
      try simp only [List.set]
      refine wpAnyH_take (i := 6) (v := undef) rfl (by kernel_rfl) (by kernel_rfl) (by kernel_rfl) (fun _ _ _ h => h) (Or.inr ⟨by kernel_rfl, rfl⟩) hHeld ?_
      try simp only [List.getElem_toArray]
      try simp only [List.getElem_cons_succ]
      try simp only [List.getElem_cons_zero]
      try simp only [Act.put]
      try simp only [List.setIfInBounds_toArray]
      try simp only [List.set]
      refine wpAnyH_take (i := 7) (v := undef) rfl (by kernel_rfl) (by kernel_rfl) (by kernel_rfl) (fun _ _ _ h => h) (Or.inr ⟨by kernel_rfl, rfl⟩) hHeld ?_
      try simp only [List.getElem_toArray]
      try simp only [List.getElem_cons_succ]
      try simp only [List.getElem_cons_zero]
      try simp only [Act.put]
      try simp only [List.setIfInBounds_toArray]
      try simp only [List.set]
      refine wpAnyH_take (i := 8) (v := undef) rfl (by kernel_rfl) (by kernel_rfl) (by kernel_rfl) (fun _ _ _ h => h) (Or.inr ⟨by kernel_rfl, rfl⟩) hHeld ?_
      try simp only [List.getElem_toArray]
      try simp only [List.getElem_cons_succ]
      try simp only [List.getElem_cons_zero]
      try simp only [Act.put]
      try simp only [List.setIfInBounds_toArray]
      try simp only [List.set]
      refine wpAnyH_take (i := 9) (v := undef) rfl (by kernel_rfl) (by kernel_rfl) (by kernel_rfl) (fun _ _ _ h => h) (Or.inr ⟨by kernel_rfl, rfl⟩) hHeld ?_
      try simp only [List.getElem_toArray]
      try simp only [List.getElem_cons_succ]
      try simp only [List.getElem_cons_zero]
      try simp only [Act.put]
      try simp only [List.setIfInBounds_toArray]
      try simp only [List.set]
      refine wpAnyH_take (i := 10) (v := ?v3) rfl (by kernel_rfl) (by kernel_rfl) (by kernel_rfl) (fun _ _ _ h => h) (Or.inl ⟨by kernel_rfl, ?h3⟩) hHeld ?_
      case h3 => intro u hSw; (try dsimp only at hSw); go_simp; try with_reducible rfl
      try simp only [List.getElem_toArray]
      try simp only [List.getElem_cons_succ]
      try simp only [List.getElem_cons_zero]
      try simp only [Act.put]
      try simp only [List.setIfInBounds_toArray]
      try simp only [List.set]
      refine wpAnyH_done (by kernel_rfl) ?_ _
      have hA := hHeld.s
      clear hHeld hrd
      obtain ⟨a0, a1, a2, a3, a4, a5, f0, f1, f2, f3, f4, f5, g, hs⟩ := hA
      go_wp2_with fail
      refine bodyPost_ret (v := .agg #[.int .i64 5, .int .i64 0, .int .i64 0, .int .i64 0, .int .i64 0, .slice none 0 0]) (by simp [results, Tryd.results8, go_sem, *]) rfl ?_
      obtain ⟨e1, e2, e3, e4, e5, e6⟩ := HN.out
      exact ⟨none, 0, fun _ => none, fun _ => 0, fun _ => 0, by rw [e1, e2, e3, e4, e5, e6]; rfl, by go_grown, by rw [e6]; exact .inl rfl⟩

end Go.Proofs.YtcjkjenebnodbaaDoor
