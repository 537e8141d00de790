/-
  The contract of fault: the fault of a page as the program asks it.
-/
import Derived.Test.YtonngopnhpmjaaaBWr
import Derived.Test.YtonngopnhpmjaaaBCom

namespace Go.Proofs.Ytonngopnhpmjaaa
open Go.RowKit
set_option linter.unusedVariables false

def headB (zs : List Int) : Bool := decide (16 < nb zs 0) || decide (nb zs 1 < 2 + 2 * nb zs 0) || decide (64 < nb zs 1)
def wrgS (zs : List Int) (s : Nat) : Bool := wrongB (nb zs 1) (nb zs (2 + 2 * s)) (nb zs (3 + 2 * s))
/-- Is one of the first k slots wrong? -/
def wrgN (zs : List Int) : Nat → Bool
  | 0 => false
  | k + 1 => wrgN zs k || wrgS zs k
def faultP (zs : List Int) : Int := if headB zs = true then 3 else if wrgN zs (nb zs 0) = true then 3 else if (comB zs (nb zs 0) || endB zs) = true then 8 else 0

theorem wrgN_more (zs : List Int) (k : Nat) (h : wrgN zs k = true) : ∀ m, wrgN zs (k + m) = true
  | 0 => h
  | m + 1 => by rw [← Nat.add_assoc, wrgN, wrgN_more zs k h m]; rfl
theorem wrgN_at (zs : List Int) : ∀ k, wrgN zs k = false → ∀ s, s < k → wrgS zs s = false
  | 0, _, s, hs => by omega
  | k + 1, h, s, hs => by
    rw [wrgN, Bool.or_eq_false_iff] at h
    by_cases e : s = k
    · rw [e]; exact h.2
    · exact wrgN_at zs k h.1 s (by omega)
theorem wrongB_end (low p l : Nat) (h : wrongB low p l = false) : p + l ≤ 64 := by
  unfold wrongB at h
  by_cases h1 : p = 0 ∧ l = 0
  · omega
  · have : (p == 0 && l == 0) = false := by simp; omega
    rw [this] at h
    simp at h
    omega

def PgS (w : World) (zs : List Int) (V : World) : Prop := Arr V w.heap.size zs ∧ Below w.heap.size w V
theorem pgKeep {w : World} {zs : List Int} {W V : World} (h : PgS w zs W) (hb : Below W.heap.size W V) : PgS w zs V := ⟨h.1.grown hb, h.2.trans (hb.mono h.2.size)⟩

set_option maxHeartbeats 4000000 in
theorem fault_any (zs : List Int) (w : World) (h : IsPg zs) :
    Calls Try.prog 203 #[.agg (pgC zs)] w fun e w' => e = .returned (.int .i64 (faultP zs)) ∧ Below w.heap.size w w' := by
  obtain ⟨X, hX, hA, g⟩ := boxed zs w h
  have hnl := nb_lt h 0
  have hml := nb_lt h 1
  obtain ⟨n, hn⟩ : ∃ n, n = nb zs 0 := ⟨_, rfl⟩
  obtain ⟨m, hm⟩ : ∃ m, m = nb zs 1 := ⟨_, rfl⟩
  have HN : Hid (n = nb zs 0) := hn
  have HM : Hid (m = nb zs 1) := hm
  have HB : Hid (headB zs = (decide (16 < n) || decide (m < 2 + 2 * n) || decide (64 < m))) := by show _ = _; rw [hn, hm]; rfl
  rw [← hn] at hnl
  rw [← hm] at hml
  clear hn hm
  go_enter Try.func203, Try.ntmps203
  go_upto_region 1 with (fail)
  clear hX
  refine wp_region_held_drew (S := fun V => Arr V w.heap.size zs ∧ Below w.heap.size w V) (by kernel_rfl) ⟨hA.grown (Below.refl _ _).drew, g.drew⟩ (fun hHeld => ?_)
  refine wpAnyH_take (i := 0) (v := .agg (pgC zs)) rfl (by kernel_rfl) (by kernel_rfl) (by kernel_rfl) (fun _ _ _ h => h) (yieldsIf_loadPg (by kernel_rfl) _ rfl w.heap.size rfl zs (fun W hS => hS.1)) hHeld ?_
  try simp only [List.getElem_toArray]
  try simp only [List.getElem_cons_succ]
  try simp only [List.getElem_cons_zero]
  try simp only [Act.put]
  try simp only [List.setIfInBounds_toArray]
  try simp only [List.set]
  refine wpAnyH_take (i := 2) (v := .agg (pgC zs)) rfl (by kernel_rfl) (by kernel_rfl) (by kernel_rfl) (fun _ _ _ h => h) (yieldsIf_loadPg (by kernel_rfl) _ rfl w.heap.size rfl zs (fun W hS => hS.1)) hHeld ?_
  try simp only [List.getElem_toArray]
  try simp only [List.getElem_cons_succ]
  try simp only [List.getElem_cons_zero]
  try simp only [Act.put]
  try simp only [List.setIfInBounds_toArray]
  try simp only [List.set]
  refine wpAnyH_ready (rs := [1]) (by kernel_rfl) (by simp) ?_
  refine AllReadyH.cons rfl (fun K hK => ?_) AllReadyH.nil
  go_simp
  go_wp2_with (go_at_call 187; refine (slots_any zs _ h).mono ?_; rintro e w' ⟨rfl, hb⟩; rw [← HN.out])
  refine hK.out _ _ (pgKeep hHeld hb) (fun hHeld => ?_)
  clear hK K
  try simp only [Act.put]
  try simp only [List.setIfInBounds_toArray]
  try simp only [List.set]
  refine wpAnyH_ready (rs := [3]) (by kernel_rfl) (by simp) ?_
  refine AllReadyH.cons rfl (fun K hK => ?_) AllReadyH.nil
  go_simp
  go_wp2_with (go_at_call 212; refine (low_any zs _ h).mono ?_; rintro e w' ⟨rfl, hb⟩; rw [← HM.out])
  refine hK.out _ _ (pgKeep hHeld hb) (fun hHeld => ?_)
  clear hK K
  try simp only [Act.put]
  try simp only [List.setIfInBounds_toArray]
  try simp only [List.set]
  refine wpAnyH_take (i := 4) (v := .int .u64 n) rfl (by kernel_rfl) (by kernel_rfl) (by kernel_rfl) (fun _ _ _ h => h) (Or.inl ⟨by kernel_rfl, fun u hSw => by (try dsimp only at hSw); go_simp; try with_reducible rfl⟩) hHeld ?_
  try simp only [List.getElem_toArray]
  try simp only [List.getElem_cons_succ]
  try simp only [List.getElem_cons_zero]
  try simp only [Act.put]
  try simp only [List.setIfInBounds_toArray]
  try simp only [List.set]
  refine wpAnyH_take (i := 5) (v := .int .u64 m) rfl (by kernel_rfl) (by kernel_rfl) (by kernel_rfl) (fun _ _ _ h => h) (Or.inl ⟨by kernel_rfl, fun u hSw => by (try dsimp only at hSw); go_simp; try with_reducible rfl⟩) hHeld ?_
  try simp only [List.getElem_toArray]
  try simp only [List.getElem_cons_succ]
  try simp only [List.getElem_cons_zero]
  try simp only [Act.put]
  try simp only [List.setIfInBounds_toArray]
  try simp only [List.set]
  refine wpAnyH_done (by kernel_rfl) ?_ _
  obtain ⟨hA, g⟩ := hHeld
  have h3 : headB zs = true → faultP zs = 3 := fun hh => by rw [faultP, if_pos hh]
  have H3 : Hid (headB zs = true → faultP zs = 3) := h3
  clear h3
  by_cases c1 : 16 < n
  · have HF : Hid (faultP zs = 3) := H3.out (by rw [HB.out]; simp [c1])
    have d1 : decide (16 < n) = true := by simpa using c1
    have i1 : (16 : Int) < (n : Int) := by omega
    go_wp2_with fail
    go_ret
    exact ⟨by rw [HF.out]; rfl, g⟩
  by_cases c2 : m < 2 + 2 * n
  · have HF : Hid (faultP zs = 3) := H3.out (by rw [HB.out]; simp [c2])
    have d1 : decide (16 < n) = false := by simpa using c1
    have i1 : ¬ (16 : Int) < (n : Int) := by omega
    go_wp2_with fail
    refine (dirEnd_any n _ (by omega)).mono ?_
    rintro e w4 ⟨rfl, rfl⟩
    obtain ⟨q, hq⟩ : ∃ q, q = 2 + 2 * n := ⟨_, rfl⟩
    rw [← hq] at c2 ⊢
    clear hq
    have d2 : decide (m < q) = true := by simpa using c2
    have i2 : (m : Int) < (q : Int) := by omega
    go_wp2_with fail
    go_ret
    exact ⟨by rw [HF.out]; rfl, g⟩
  by_cases c3 : 64 < m
  · have HF : Hid (faultP zs = 3) := H3.out (by rw [HB.out]; simp [c3])
    have d1 : decide (16 < n) = false := by simpa using c1
    have i1 : ¬ (16 : Int) < (n : Int) := by omega
    go_wp2_with fail
    refine (dirEnd_any n _ (by omega)).mono ?_
    rintro e w4 ⟨rfl, rfl⟩
    obtain ⟨q, hq⟩ : ∃ q, q = 2 + 2 * n := ⟨_, rfl⟩
    rw [← hq] at c2 ⊢
    clear hq
    have d2 : decide (m < q) = false := by simpa using c2
    have i2 : ¬ (m : Int) < (q : Int) := by omega
    have d3 : decide (64 < m) = true := by simpa using c3
    have i3 : (64 : Int) < (m : Int) := by omega
    go_wp2_with fail
    go_ret
    exact ⟨by rw [HF.out]; rfl, g⟩
  have H0 : Hid (faultP zs = if wrgN zs n = true then 3 else if (comB zs n || endB zs) = true then 8 else 0) := by
    show _ = _
    rw [faultP, if_neg (by rw [HB.out]; simp [c1, c2, c3]), ← HN.out]
  have d1 : decide (16 < n) = false := by simpa using c1
  have i1 : ¬ (16 : Int) < (n : Int) := by omega
  go_wp2_with fail
  refine (dirEnd_any n _ (by omega)).mono ?_
  rintro e w4 ⟨rfl, rfl⟩
  obtain ⟨q, hq⟩ : ∃ q, q = 2 + 2 * n := ⟨_, rfl⟩
  rw [← hq] at c2 ⊢
  clear hq
  have d2 : decide (m < q) = false := by simpa using c2
  have i2 : ¬ (m : Int) < (q : Int) := by omega
  have d3 : decide (64 < m) = false := by simpa using c3
  have i3 : ¬ (64 : Int) < (m : Int) := by omega
  go_wp2_with fail
  clear d1 i1 d2 i2 d3 i3 c2 H3 HB
  go_loopw [23] (fun i wr => ∃ k : Nat, k ≤ n ∧ i = .int .u64 k ∧ Hid (wrgN zs k = false) ∧ Arr wr w.heap.size zs ∧ Below w.heap.size w wr) (fun i _ => n - (intOf i).toNat)
  case atStart => exact ⟨0, by omega, rfl, rfl, hA, g⟩
  case round =>
    obtain ⟨k, hk, rfl, HW, hA, g⟩ := hrel
    by_cases hlt : k < n
    · have hi : (k : Int) < (n : Int) := by omega
      cases hs : wrgS zs k
      · have HS : Hid (wrongB (nb zs 1) (nb zs (2 + 2 * k)) (nb zs (3 + 2 * k)) = false) := hs
        have HW' : Hid (wrgN zs (k + 1) = false) := by show _ = _; rw [wrgN, HW.out, hs]; rfl
        clear hs
        go_upto_region 7 with (fail)
        refine wp_region_held_drew (S := fun V => Arr V w.heap.size zs ∧ Below w.heap.size w V) (by kernel_rfl) ⟨hA.grown (Below.refl _ _).drew, g.drew⟩ (fun hHeld => ?_)
        refine wpAnyH_take (i := 0) (v := .agg (pgC zs)) rfl (by kernel_rfl) (by kernel_rfl) (by kernel_rfl) (fun _ _ _ h => h) (yieldsIf_loadPg (by kernel_rfl) _ rfl w.heap.size rfl zs (fun W hS => hS.1)) hHeld ?_
        try simp only [List.getElem_toArray]
        try simp only [List.getElem_cons_succ]
        try simp only [List.getElem_cons_zero]
        try simp only [Act.put]
        try simp only [List.setIfInBounds_toArray]
        try simp only [List.set]
        refine wpAnyH_take (i := 1) (v := .agg (pgC zs)) rfl (by kernel_rfl) (by kernel_rfl) (by kernel_rfl) (fun _ _ _ h => h) (yieldsIf_loadPg (by kernel_rfl) _ rfl w.heap.size rfl zs (fun W hS => hS.1)) hHeld ?_
        try simp only [List.getElem_toArray]
        try simp only [List.getElem_cons_succ]
        try simp only [List.getElem_cons_zero]
        try simp only [Act.put]
        try simp only [List.setIfInBounds_toArray]
        try simp only [List.set]
        refine wpAnyH_take (i := 2) (v := .int .u64 k) rfl (by kernel_rfl) (by kernel_rfl) (by kernel_rfl) (fun _ _ _ h => h) (Or.inl ⟨by kernel_rfl, fun u hSw => by (try dsimp only at hSw); go_simp; try with_reducible rfl⟩) hHeld ?_
        try simp only [List.getElem_toArray]
        try simp only [List.getElem_cons_succ]
        try simp only [List.getElem_cons_zero]
        try simp only [Act.put]
        try simp only [List.setIfInBounds_toArray]
        try simp only [List.set]
        refine wpAnyH_ready (rs := [3]) (by kernel_rfl) (by simp) ?_
        refine AllReadyH.cons rfl (fun K hK => ?_) AllReadyH.nil
        go_simp
        go_wp2_with (go_at_call 188; refine (spanOf_any zs k _ h (by omega)).mono ?_; rintro e w' ⟨rfl, hb⟩)
        refine hK.out _ _ (pgKeep hHeld hb) (fun hHeld => ?_)
        clear hK K
        try simp only [Act.put]
        try simp only [List.setIfInBounds_toArray]
        try simp only [List.set]
        refine wpAnyH_ready (rs := [4]) (by kernel_rfl) (by simp) ?_
        refine AllReadyH.cons rfl (fun K hK => ?_) AllReadyH.nil
        go_simp
        go_wp2_with (go_at_call 213; refine (isSpanWrong_any zs _ _ _ h (nb_lt h _) (nb_lt h _)).mono ?_; rintro e w' ⟨rfl, hb⟩; rw [HS.out])
        refine hK.out _ _ (pgKeep hHeld hb) (fun hHeld => ?_)
        clear hK K
        try simp only [Act.put]
        try simp only [List.setIfInBounds_toArray]
        try simp only [List.set]
        refine wpAnyH_done (by kernel_rfl) ?_ _
        obtain ⟨hA, g⟩ := hHeld
        go_wp2_with fail
        go_roundw
        case rel => exact ⟨k + 1, by omega, by go_num, HW', hA, g⟩
        case measure => simp [intOf]; omega
      · have HS : Hid (wrongB (nb zs 1) (nb zs (2 + 2 * k)) (nb zs (3 + 2 * k)) = true) := hs
        have HF : Hid (faultP zs = 3) := by
          have h2 := wrgN_more zs (k + 1) (by rw [wrgN, hs]; simp) (n - (k + 1))
          rw [show k + 1 + (n - (k + 1)) = n by omega] at h2
          show _ = _
          rw [H0.out, if_pos h2]
        clear hs
        go_upto_region 7 with (fail)
        refine wp_region_held_drew (S := fun V => Arr V w.heap.size zs ∧ Below w.heap.size w V) (by kernel_rfl) ⟨hA.grown (Below.refl _ _).drew, g.drew⟩ (fun hHeld => ?_)
        refine wpAnyH_take (i := 0) (v := .agg (pgC zs)) rfl (by kernel_rfl) (by kernel_rfl) (by kernel_rfl) (fun _ _ _ h => h) (yieldsIf_loadPg (by kernel_rfl) _ rfl w.heap.size rfl zs (fun W hS => hS.1)) hHeld ?_
        try simp only [List.getElem_toArray]
        try simp only [List.getElem_cons_succ]
        try simp only [List.getElem_cons_zero]
        try simp only [Act.put]
        try simp only [List.setIfInBounds_toArray]
        try simp only [List.set]
        refine wpAnyH_take (i := 1) (v := .agg (pgC zs)) rfl (by kernel_rfl) (by kernel_rfl) (by kernel_rfl) (fun _ _ _ h => h) (yieldsIf_loadPg (by kernel_rfl) _ rfl w.heap.size rfl zs (fun W hS => hS.1)) hHeld ?_
        try simp only [List.getElem_toArray]
        try simp only [List.getElem_cons_succ]
        try simp only [List.getElem_cons_zero]
        try simp only [Act.put]
        try simp only [List.setIfInBounds_toArray]
        try simp only [List.set]
        refine wpAnyH_take (i := 2) (v := .int .u64 k) rfl (by kernel_rfl) (by kernel_rfl) (by kernel_rfl) (fun _ _ _ h => h) (Or.inl ⟨by kernel_rfl, fun u hSw => by (try dsimp only at hSw); go_simp; try with_reducible rfl⟩) hHeld ?_
        try simp only [List.getElem_toArray]
        try simp only [List.getElem_cons_succ]
        try simp only [List.getElem_cons_zero]
        try simp only [Act.put]
        try simp only [List.setIfInBounds_toArray]
        try simp only [List.set]
        refine wpAnyH_ready (rs := [3]) (by kernel_rfl) (by simp) ?_
        refine AllReadyH.cons rfl (fun K hK => ?_) AllReadyH.nil
        go_simp
        go_wp2_with (go_at_call 188; refine (spanOf_any zs k _ h (by omega)).mono ?_; rintro e w' ⟨rfl, hb⟩)
        refine hK.out _ _ (pgKeep hHeld hb) (fun hHeld => ?_)
        clear hK K
        try simp only [Act.put]
        try simp only [List.setIfInBounds_toArray]
        try simp only [List.set]
        refine wpAnyH_ready (rs := [4]) (by kernel_rfl) (by simp) ?_
        refine AllReadyH.cons rfl (fun K hK => ?_) AllReadyH.nil
        go_simp
        go_wp2_with (go_at_call 213; refine (isSpanWrong_any zs _ _ _ h (nb_lt h _) (nb_lt h _)).mono ?_; rintro e w' ⟨rfl, hb⟩; rw [HS.out])
        refine hK.out _ _ (pgKeep hHeld hb) (fun hHeld => ?_)
        clear hK K
        try simp only [Act.put]
        try simp only [List.setIfInBounds_toArray]
        try simp only [List.set]
        refine wpAnyH_done (by kernel_rfl) ?_ _
        obtain ⟨hA, g⟩ := hHeld
        go_wp2_with fail
        go_ret
        exact ⟨by rw [HF.out]; rfl, g⟩
    · have e : k = n := by omega
      subst e
      have H1 : Hid (faultP zs = if (comB zs k || endB zs) = true then 8 else 0) := by show _ = _; rw [H0.out, if_neg (by rw [HW.out]; simp)]
      have HX : Hid (∀ s, s < nb zs 0 → nb zs (2 + 2 * s) + nb zs (3 + 2 * s) ≤ 64) := fun s hs => wrongB_end _ _ _ (wrgN_at zs k HW.out s (by rw [HN.out]; exact hs))
      have hc0 : nb zs 0 ≤ 16 := by rw [← HN.out]; omega
      have HC0 : Hid (nb zs 0 ≤ 16) := hc0
      clear hc0
      go_wp2_with (refine wpList_loadPg rfl _ rfl _ rfl zs (by assumption) ?_)
      refine (hasCommon_any zs _ h HC0.out HX.out).mono ?_
      rintro e w5 ⟨rfl, g5⟩
      rw [← HN.out]
      have hA := hA.grown g5
      have g : Below w.heap.size w w5 := g.trans (g5.mono g.size)
      clear g5
      cases hcom : comB zs k
      · have H2 : Hid (faultP zs = if endB zs = true then 8 else 0) := by show _ = _; rw [H1.out, hcom, Bool.false_or]
        clear hcom
        go_wp2_with (refine wpList_loadPgW (by kernel_rfl) _ rfl _ rfl zs (by assumption) ?_)
        refine (endsEmpty_any zs _ h HC0.out).mono ?_
        rintro e w6 ⟨rfl, g6⟩
        have g : Below w.heap.size w w6 := g.trans (g6.mono g.size)
        clear g6
        cases hen : endB zs
        · have HF : Hid (faultP zs = 0) := by show _ = _; rw [H2.out, hen]; rfl
          clear hen
          go_wp2_with fail
          go_ret
          exact ⟨by rw [HF.out]; rfl, g⟩
        · have HF : Hid (faultP zs = 8) := by show _ = _; rw [H2.out, hen]; rfl
          clear hen
          go_wp2_with fail
          go_ret
          exact ⟨by rw [HF.out]; rfl, g⟩
      · have HF : Hid (faultP zs = 8) := by show _ = _; rw [H1.out, hcom]; rfl
        clear hcom
        go_wp2_with fail
        go_ret
        exact ⟨by rw [HF.out]; rfl, g⟩

end Go.Proofs.Ytonngopnhpmjaaa
