/-
  The contract of dropEmptyEnd: slots at the end that tell no cell are told no more.
-/
import Derived.Test.YtnfolgoloaeanaaGreatUWr
import Derived.Test.YtnfolgoloaeanaaGreatURwf
import Derived.Test.YtnfolgoloaeanaaGreatULawA

namespace Go.Proofs.YtnfolgoloaeanaaGreat
open Go.RowKit
set_option linter.unusedVariables false

/-- One slot less. -/
def lessP (zs : List Int) : List Int := zs.set 0 (byt zs 0 - 1)
/-- No empty slot at the end, k steps at most. -/
def dropE : Nat → List Int → List Int
  | 0, zs => zs
  | k + 1, zs => if endB zs = true then dropE k (lessP zs) else zs
def dropEnd (zs : List Int) : List Int := dropE (nb zs 0) zs
theorem endB_pos {zs : List Int} (h : endB zs = true) : 0 < nb zs 0 := by
  unfold endB at h
  simp at h
  exact h.1
theorem nb_less {zs : List Int} (h : IsPg zs) (h0 : 0 < nb zs 0) : nb (lessP zs) 0 = nb zs 0 - 1 := by
  have hl := h.len
  have e : byt (lessP zs) 0 = byt zs 0 - 1 := by unfold lessP byt; simp [List.getD, hl]
  have := nb_byt h 0
  unfold nb at *
  rw [e]; omega
theorem isPg_less {zs : List Int} (h : IsPg zs) (h0 : 0 < nb zs 0) : IsPg (lessP zs) := by
  refine ⟨by unfold lessP; rw [List.length_set]; exact h.len, fun z hz => ?_⟩
  rcases List.mem_or_eq_of_mem_set hz with h1 | rfl
  · exact h.bd z h1
  · have h1 := nb_byt h 0
    have h2 := nb_lt h 0
    omega
theorem dropEnd_step {zs : List Int} (h : IsPg zs) (he : endB zs = true) : dropEnd zs = dropEnd (lessP zs) := by
  have h0 := endB_pos he
  unfold dropEnd
  rw [nb_less h h0]
  obtain ⟨k, hk⟩ : ∃ k, nb zs 0 = k + 1 := ⟨nb zs 0 - 1, by omega⟩
  rw [hk, dropE, if_pos he]; rfl
theorem dropEnd_stop {zs : List Int} (he : endB zs = false) : dropEnd zs = zs := by
  unfold dropEnd
  cases nb zs 0 with
  | zero => rfl
  | succ k => rw [dropE, if_neg (by rw [he]; decide)]

set_option maxHeartbeats 2000000 in
theorem dropEmptyEnd_any (b : Nat) (zs : List Int) (w : World) (h : Arr w b zs) (hp : IsPg zs) (hc : nb zs 0 ≤ 16) :
    Calls Tryz.prog 184 #[.pointer (some ⟨b, 0, none⟩)] w fun e w' => e = .returned (.tuple #[]) ∧ Turned b (b + 1) w w' ∧ Arr w' b (dropEnd zs) := by
  go_enter Tryz.func184, Tryz.ntmps184
  go_wp2_with fail
  go_loopw [] (fun wr => ∃ xs : List Int, Arr wr b xs ∧ IsPg xs ∧ nb xs 0 ≤ 16 ∧ Turned b (b + 1) w wr ∧ Hid (dropEnd zs = dropEnd xs)) (fun wr => (intOf ((wr.cell? ⟨b, 0, none⟩).getD (.int .u8 0))).toNat)
  case atStart => exact ⟨zs, h, hp, hc, Turned.refl _ _ _, rfl⟩
  case round =>
    clear h hp hc
    obtain ⟨xs, hA, hp, hc, ht, HD⟩ := hrel
    have hcon := endsEmpty_any xs wr hp hc
    have hm := hA.at 0 (by omega)
    go_wp2_with (first | (refine wpList_loadPg rfl _ rfl _ rfl xs (by assumption) ?_))
    refine hcon.mono ?_
    rintro e w1 ⟨rfl, g1⟩
    have hA1 := hA.grown g1
    have ht1 : Turned b (b + 1) w w1 := ht.trans (Turned.ofBelow g1)
    clear hcon
    cases he : endB xs with
    | false =>
      go_wp2_with fail
      go_end0
      refine ⟨rfl, ht1, ?_⟩
      rw [HD.out, dropEnd_stop he]
      exact hA1
    | true =>
      have h0 := endB_pos he
      have HD2 : Hid (dropEnd zs = dropEnd (lessP xs)) := HD.out.trans (dropEnd_step hp he)
      have hp2 := isPg_less hp h0
      have hn2 := nb_less hp h0
      have hA2 : Arr (w1.drew.setCell ⟨b, 0, none⟩ (.int .u8 (byt xs 0 - 1))) b (lessP xs) := (hA1.grown (Below.refl _ _).drew).set 0 (byt xs 0 - 1)
      have ht2 : Turned b (b + 1) w (w1.drew.setCell ⟨b, 0, none⟩ (.int .u8 (byt xs 0 - 1))) := (ht1.trans (Turned.ofBelow (Below.refl _ _).drew)).setCell (p := ⟨b, 0, none⟩) (Nat.le_refl _) (Nat.lt_succ_self _) _
      have c0 := hA1.at 0 (by omega)
      have f0 := hA1.frozen 0
      have m2 : (intOf (((w1.drew.setCell ⟨b, 0, none⟩ (.int .u8 (byt xs 0 - 1))).cell? ⟨b, 0, none⟩).getD (.int .u8 0))).toNat < (intOf ((wr.cell? ⟨b, 0, none⟩).getD (.int .u8 0))).toNat := by
        rw [hA2.at 0 (by omega), hm]
        have h1 := nb_byt hp2 0
        have h2 := nb_byt hp 0
        rw [h1, h2, hn2]
        simp [intOf]; omega
      have w1' : IntKind.u8.wrap (byt xs 0 - 1) = byt xs 0 - 1 := by
        have h1 := nb_byt hp 0
        have h2 := nb_lt hp 0
        rw [IntKind.wrap_u8]; omega
      have H2 : Hid (∃ ys : List Int, Arr (w1.drew.setCell ⟨b, 0, none⟩ (.int .u8 (byt xs 0 - 1))) b ys ∧ IsPg ys ∧ nb ys 0 ≤ 16 ∧ Turned b (b + 1) w (w1.drew.setCell ⟨b, 0, none⟩ (.int .u8 (byt xs 0 - 1))) ∧ Hid (dropEnd zs = dropEnd ys)) := ⟨_, hA2, hp2, by omega, ht2, HD2⟩
      have HM : Hid _ := m2
      clear hA2 ht2 hp2 hn2 HD2 HD m2 hp hc ht hA hm g1
      generalize byt xs 0 = x0 at c0 w1' H2 HM
      go_upto_region 1 with (fail)
      go_region
      all_goals go_wp2_with fail
      all_goals go_roundw
      case rel => exact H2.out
      case measure => exact HM.out


/-- The slot s tells a place and a length. -/
def spanSet (zs : List Int) (s p l : Nat) : List Int := (zs.set (2 + 2 * s) (p : Int)).set (3 + 2 * s) (l : Int)

set_option maxRecDepth 20000 in
set_option maxHeartbeats 1000000 in
theorem setSpan_any (b s p l : Nat) (zs : List Int) (w : World) (h : Arr w b zs) (hs : s < 30) (hp : p ≤ 255) (hl : l ≤ 255) :
    Calls Tryz.prog 183 #[.pointer (some ⟨b, 0, none⟩), .int .u64 s, .agg #[.int .u64 p, .int .u64 l]] w fun e w' => e = .returned (.tuple #[]) ∧ Turned b (b + 1) w w' ∧ Arr w' b (spanSet zs s p l) := by
  go_enter Tryz.func183, Tryz.ntmps183
  go_wp2_with fail
  refine (dirEnd_any s _ (by omega)).mono ?_
  rintro e w' ⟨rfl, hw'⟩
  have hlt := h.lt
  obtain ⟨m, hm⟩ : ∃ m, m = 2 + 2 * s := ⟨_, rfl⟩
  have HM : Hid (m = 2 + 2 * s) := hm
  have hm64 : m + 1 < 64 := by omega
  rw [← hm]
  have hA : Arr w' b zs := by rw [hw']; exact h.alloc _
  have x0 : w'.cell? ⟨w.heap.size, 0, none⟩ = some (.int .u64 p) := by rw [hw']; simp [go_sem]
  have x1 : w'.cell? ⟨w.heap.size, 1, none⟩ = some (.int .u64 l) := by rw [hw']; simp [go_sem]
  have ht : Turned b (b + 1) w w' := by rw [hw']; exact Turned.ofBelow ((Below.refl _ _).alloc (Nat.le_refl _) _)
  clear hm hw'
  have c0 := hA.at m (by omega)
  have c1 := hA.at (m + 1) (by omega)
  have f0 := hA.frozen m
  have f1 := hA.frozen (m + 1)
  have i1 : (m : Int) < 64 := by omega
  have i2 : (m : Int) + 1 < 64 := by omega
  have hne : ¬ (b = w.heap.size) := by omega
  have hne2 : ¬ (w.heap.size = b) := by omega
  go_wp2_with fail
  have hAd := hA.grown (w' := w'.drew) (Below.refl _ _).drew
  have w1 : IntKind.u64.wrap ((m : Int) + 1) = (m : Int) + 1 := by rw [IntKind.wrap_u64]; omega
  have w2 : IntKind.u8.wrap (p : Int) = (p : Int) := by rw [IntKind.wrap_u8]; omega
  have w3 : IntKind.u8.wrap (l : Int) = (l : Int) := by rw [IntKind.wrap_u8]; omega
  have i3 : ¬ ((m : Int) + 1 < 0) := by omega
  have i4 : decide ((m : Int) + 1 < 0) = false := by simpa using i3
  refine wp_region_held_drew (S := fun V => V.cell? ⟨w.heap.size, 0, none⟩ = some (.int .u64 p) ∧ V.cell? ⟨w.heap.size, 1, none⟩ = some (.int .u64 l) ∧ (∃ ys, Arr V b ys) ∧ Turned b (b + 1) w V) (by kernel_rfl) ⟨x0, x1, ⟨zs, hA.grown (Below.refl _ _).drew⟩, ht.trans (Turned.ofBelow (Below.refl _ _).drew)⟩ (fun hHeld => ?_)
  generalize w'.drew = D at hHeld hAd ⊢
  refine tkH (i := 0) (v := .pointer (some ⟨b, 0, none⟩)) rfl (Or.inl ⟨by kernel_rfl, fun u hSw => by (try dsimp only at hSw); go_simp; try with_reducible rfl⟩) hHeld ?_
  try simp only [Act.put, tdy]
  refine tkH (i := 1) (v := .int .u64 m) rfl (Or.inl ⟨by kernel_rfl, fun u hSw => by (try dsimp only at hSw); go_simp; try with_reducible rfl⟩) hHeld ?_
  try simp only [Act.put, tdy]
  refine tkH (i := 2) (v := .pointer (some ⟨b, 0, none⟩)) rfl (Or.inl ⟨by kernel_rfl, fun u hSw => by (try dsimp only at hSw); go_simp; try with_reducible rfl⟩) hHeld ?_
  try simp only [Act.put, tdy]
  refine tkH (i := 3) (v := .int .u64 m) rfl (Or.inl ⟨by kernel_rfl, fun u hSw => by (try dsimp only at hSw); go_simp; try with_reducible rfl⟩) hHeld ?_
  try simp only [Act.put, tdy]
  refine tkH (i := 4) (v := .int .u64 (m + 1 : Int)) rfl (Or.inl ⟨by kernel_rfl, fun u hSw => by (try dsimp only at hSw); go_simp; try with_reducible rfl⟩) hHeld ?_
  try simp only [Act.put, tdy]
  refine tkH (i := 5) (v := .pointer (some ⟨w.heap.size, 0, none⟩)) rfl (Or.inl ⟨by kernel_rfl, fun u hSw => by (try dsimp only at hSw); go_simp; try with_reducible rfl⟩) hHeld ?_
  try simp only [Act.put, tdy]
  refine tkH (i := 6) (v := .int .u64 p) rfl (Or.inl ⟨by kernel_rfl, fun u hSw => by (try dsimp only at hSw); go_simp; try with_reducible rfl⟩) hHeld ?_
  try simp only [Act.put, tdy]
  refine tkH (i := 7) (v := .int .u8 p) rfl (Or.inl ⟨by kernel_rfl, fun u hSw => by (try dsimp only at hSw); go_simp; try with_reducible rfl⟩) hHeld ?_
  try simp only [Act.put, tdy]
  refine tkH (i := 8) (v := .pointer (some ⟨w.heap.size, 1, none⟩)) rfl (Or.inl ⟨by kernel_rfl, fun u hSw => by (try dsimp only at hSw); go_simp; try with_reducible rfl⟩) hHeld ?_
  try simp only [Act.put, tdy]
  refine tkH (i := 9) (v := .int .u64 l) rfl (Or.inl ⟨by kernel_rfl, fun u hSw => by (try dsimp only at hSw); go_simp; try with_reducible rfl⟩) hHeld ?_
  try simp only [Act.put, tdy]
  refine tkH (i := 10) (v := .int .u8 l) rfl (Or.inl ⟨by kernel_rfl, fun u hSw => by (try dsimp only at hSw); go_simp; try with_reducible rfl⟩) hHeld ?_
  try simp only [Act.put, tdy]
  refine tkH (i := 11) (v := .pointer (some ⟨b, 0, none⟩)) rfl (Or.inl ⟨by kernel_rfl, fun u hSw => by (try dsimp only at hSw); go_simp; try with_reducible rfl⟩) hHeld ?_
  try simp only [Act.put, tdy]
  refine tkH (i := 12) (v := .pointer (some ⟨b, m, none⟩)) rfl (Or.inl ⟨by kernel_rfl, fun u hSw => by (try dsimp only at hSw); go_simp; try with_reducible rfl⟩) hHeld ?_
  try simp only [Act.put, tdy]
  refine tkH (i := 14) (v := .pointer (some ⟨b, 0, none⟩)) rfl (Or.inl ⟨by kernel_rfl, fun u hSw => by (try dsimp only at hSw); go_simp; try with_reducible rfl⟩) hHeld ?_
  try simp only [Act.put, tdy]
  refine wpAnyH_ready (rs := [13]) (by kernel_rfl) (by simp) ?_
  refine AllReadyH.cons rfl (fun K hK => ?_) AllReadyH.nil
  obtain ⟨x0, x1, _, ht⟩ := id hHeld
  have c0 := hAd.at (m) (by omega)
  have f0 := hAd.frozen (m)
  go_simp
  go_wp2_with fail
  generalize hV : World.setCell _ _ _ = V1
  have hA1 := hAd.set (m) (p : Int)
  rw [hV] at hA1
  have x0' : V1.cell? ⟨w.heap.size, 0, none⟩ = some (.int .u64 p) := by rw [← hV, World.cell?_setCell_other _ _ _ _ (fun e => hne (congrArg Addr.block e))]; exact x0
  have x1' : V1.cell? ⟨w.heap.size, 1, none⟩ = some (.int .u64 l) := by rw [← hV, World.cell?_setCell_other _ _ _ _ (fun e => hne (congrArg Addr.block e))]; exact x1
  have ht' : Turned b (b + 1) w V1 := by rw [← hV]; exact ht.setCell (Nat.le_refl _) (by simp) _
  refine hK.out _ _ ⟨x0', x1', ⟨_, hA1⟩, ht'⟩ (fun hHeld => ?_)
  clear hK K hV x0 x1 ht c0 f0 x0' x1'
  try simp only [Act.put, tdy]
  refine tkH (i := 15) (v := .pointer (some ⟨b, m + 1, none⟩)) rfl (Or.inl ⟨by kernel_rfl, fun u hSw => by (try dsimp only at hSw); go_simp; try with_reducible rfl⟩) hHeld ?_
  try simp only [Act.put, tdy]
  refine wpAnyH_ready (rs := [16]) (by kernel_rfl) (by simp) ?_
  refine AllReadyH.cons rfl (fun K hK => ?_) AllReadyH.nil
  obtain ⟨x0, x1, _, ht⟩ := id hHeld
  have c0 := hA1.at (m + 1) (by omega)
  have f0 := hA1.frozen (m + 1)
  go_simp
  go_wp2_with fail
  generalize hV : World.setCell _ _ _ = V2
  have hA2 := hA1.set (m + 1) (l : Int)
  rw [hV] at hA2
  have x0' : V2.cell? ⟨w.heap.size, 0, none⟩ = some (.int .u64 p) := by rw [← hV, World.cell?_setCell_other _ _ _ _ (fun e => hne (congrArg Addr.block e))]; exact x0
  have x1' : V2.cell? ⟨w.heap.size, 1, none⟩ = some (.int .u64 l) := by rw [← hV, World.cell?_setCell_other _ _ _ _ (fun e => hne (congrArg Addr.block e))]; exact x1
  have ht' : Turned b (b + 1) w V2 := by rw [← hV]; exact ht.setCell (Nat.le_refl _) (by simp) _
  refine hK.out _ _ ⟨x0', x1', ⟨_, hA2⟩, ht'⟩ (fun hHeld => ?_)
  clear hK K hV x0 x1 ht c0 f0 x0' x1' hA1
  try simp only [Act.put, tdy]
  refine wpAnyH_done (by kernel_rfl) ?_ _
  go_wp2_with fail
  go_end0
  refine ⟨rfl, hHeld.2.2.2, ?_⟩
  unfold spanSet
  rw [show 3 + 2 * s = m + 1 by rw [HM.out]; omega, ← HM.out]
  exact hA2

set_option maxRecDepth 20000 in
set_option maxHeartbeats 2000000 in
theorem cellAt_any (zs : List Int) (x : Int) (w : World) (h : IsPg zs) (hc : nb zs 0 ≤ 16) (hx : (Lit.int .i64 x).wf = true) :
    Calls Tryz.prog 181 #[.agg (pgC zs), .int .i64 x] w fun e w' => (∃ p l : Nat, e = .returned (.tuple #[.agg #[.int .u64 p, .int .u64 l], .bool (hasC zs x)]) ∧ (hasC zs x = true → p = nb zs (2 + 2 * x.toNat) ∧ l = nb zs (3 + 2 * x.toNat))) ∧ Below w.heap.size w w' := by
  obtain ⟨X, hX, hA, g⟩ := boxed zs w h
  obtain ⟨n, hn⟩ : ∃ n, n = nb zs 0 := ⟨_, rfl⟩
  have HN : Hid (nb zs 0 = n) := hn.symm
  have HH : Hid (hasC zs x = (inR x 0 (n - 1) && !(empB zs x.toNat))) := by show _ = _; rw [hn]; rfl
  rw [← hn] at hc
  clear hn
  obtain ⟨Y, hY⟩ : ∃ Y, X.alloc (.cells #[.int .u64 0, .int .u64 0] 240) = Y := ⟨_, rfl⟩
  have hA' : Arr Y w.heap.size zs := by rw [← hY]; exact hA.alloc _
  have g' : Below w.heap.size w Y := by rw [← hY]; exact g.alloc g.size _
  have e0 : Y.cell? ⟨X.heap.size, 0, none⟩ = some (.int .u64 0) := by rw [← hY]; simp [go_sem]
  have e1 : Y.cell? ⟨X.heap.size, 1, none⟩ = some (.int .u64 0) := by rw [← hY]; simp [go_sem]
  have f0 : Y.frozen? ⟨X.heap.size, 0, none⟩ = false := by rw [← hY]; simp [go_sem]
  have f1 : Y.frozen? ⟨X.heap.size, 1, none⟩ = false := by rw [← hY]; simp [go_sem]
  have hlt : w.heap.size < X.heap.size := hA.lt
  clear hA g
  go_enter Tryz.func181, Tryz.ntmps181
  go_wp2_with (refine wpList_loadPg rfl _ rfl _ rfl zs (by assumption) ?_)
  refine (slots_any zs _ h).mono ?_
  rintro e w1 ⟨rfl, g1⟩
  rw [HN.out]
  have hlY : X.heap.size < Y.heap.size := World.block_lt_of_cell? Y _ e0
  have hA := hA'.grown g1
  have g : Below w.heap.size w w1 := g'.trans (g1.mono g'.size)
  have e0 : w1.cell? ⟨X.heap.size, 0, none⟩ = some (.int .u64 0) := (g1.cell (p := ⟨X.heap.size, 0, none⟩) hlY).trans e0
  have e1 : w1.cell? ⟨X.heap.size, 1, none⟩ = some (.int .u64 0) := (g1.cell (p := ⟨X.heap.size, 1, none⟩) hlY).trans e1
  have f0 : w1.frozen? ⟨X.heap.size, 0, none⟩ = false := (g1.frozen (p := ⟨X.heap.size, 0, none⟩) hlY).trans f0
  have f1 : w1.frozen? ⟨X.heap.size, 1, none⟩ = false := (g1.frozen (p := ⟨X.heap.size, 1, none⟩) hlY).trans f1
  clear hX hY hA' g' g1 hlY
  go_wp2_with fail
  refine (isWithin_any _ _ _ _).mono ?_
  rintro e w2 ⟨rfl, hw2⟩
  subst w2
  cases hin : inR x 0 (n - 1)
  · have HF : Hid (hasC zs x = false) := by show _ = _; rw [HH.out, hin]; rfl
    clear hin
    go_wp2_with fail
    refine bodyPost_ret (v := .tuple #[.agg #[.int .u64 0, .int .u64 0], .bool false]) (by simp [results, Tryz.results181, go_sem, e0, e1]) rfl ?_
    exact ⟨⟨0, 0, by rw [HF.out]; rfl, fun hh => by rw [HF.out] at hh; cases hh⟩, by go_grown⟩
  · obtain ⟨s, hs⟩ : ∃ s : Nat, x = (s : Int) := by
      simp [inR] at hin
      exact ⟨x.toNat, by omega⟩
    subst hs
    have hsn : s < n := by simp [inR] at hin; omega
    have HF : Hid (hasC zs (s : Int) = !(empB zs s)) := by show _ = _; rw [HH.out, hin, Int.toNat_natCast]; rfl
    clear hin HH
    go_wp2_with (refine wpList_loadPg rfl _ rfl _ rfl zs (by assumption) ?_)
    refine (spanOf_any zs s _ h (by omega)).mono ?_
    rintro e w4 ⟨rfl, g4⟩
    have hl1 : X.heap.size < w1.heap.size := World.block_lt_of_cell? w1 _ e0
    have g : Below w.heap.size w w4 := g.trans (g4.mono g.size)
    have e0 : w4.cell? ⟨X.heap.size, 0, none⟩ = some (.int .u64 0) := (g4.cell (p := ⟨X.heap.size, 0, none⟩) hl1).trans e0
    have e1 : w4.cell? ⟨X.heap.size, 1, none⟩ = some (.int .u64 0) := (g4.cell (p := ⟨X.heap.size, 1, none⟩) hl1).trans e1
    have f0 : w4.frozen? ⟨X.heap.size, 0, none⟩ = false := (g4.frozen (p := ⟨X.heap.size, 0, none⟩) hl1).trans f0
    have f1 : w4.frozen? ⟨X.heap.size, 1, none⟩ = false := (g4.frozen (p := ⟨X.heap.size, 1, none⟩) hl1).trans f1
    clear g4 hl1
    obtain ⟨p, hp⟩ : ∃ p, p = nb zs (2 + 2 * s) := ⟨_, rfl⟩
    obtain ⟨l, hl⟩ : ∃ l, l = nb zs (3 + 2 * s) := ⟨_, rfl⟩
    have HE : Hid (empB zs s = (p == 0 && l == 0)) := by show _ = _; rw [hp, hl]; rfl
    have HP : Hid (p = nb zs (2 + 2 * s)) := hp
    have HL : Hid (l = nb zs (3 + 2 * s)) := hl
    rw [← hp, ← hl]
    clear hp hl
    obtain ⟨b, hb0⟩ : ∃ b, b = (p == 0 && l == 0) := ⟨_, rfl⟩
    have HB : Hid (b = (p == 0 && l == 0)) := hb0
    have HF2 : Hid (hasC zs (s : Int) = !b) := by show _ = _; rw [HF.out, HE.out, hb0]
    clear hb0 HF HE
    go_upto_region 4 with (fail)
    generalize hZ : World.alloc w4 _ = Z
    have hl4 : X.heap.size < w4.heap.size := World.block_lt_of_cell? w4 _ e0
    have gZ : Below w4.heap.size w4 Z := by rw [← hZ]; exact (Below.refl _ _).alloc (Nat.le_refl _) _
    have hHeld : CeS w X.heap.size w4.heap.size p l Z :=
      ⟨⟨0, 0, (gZ.cell (p := ⟨X.heap.size, 0, none⟩) hl4).trans e0, (gZ.cell (p := ⟨X.heap.size, 1, none⟩) hl4).trans e1⟩, (gZ.frozen (p := ⟨X.heap.size, 0, none⟩) hl4).trans f0, (gZ.frozen (p := ⟨X.heap.size, 1, none⟩) hl4).trans f1, by rw [← hZ]; simp [go_sem], by rw [← hZ]; simp [go_sem], g.trans (gZ.mono g.size)⟩
    clear hZ gZ e0 e1 f0 f1 g
    have hny : X.heap.size ≠ w4.heap.size := by omega
    generalize w4.heap.size = y at hHeld hny
    refine wp_region_held_drew (S := fun V => (∃ a b : Int, V.cell? ⟨X.heap.size, 0, none⟩ = some (.int .u64 a) ∧ V.cell? ⟨X.heap.size, 1, none⟩ = some (.int .u64 b)) ∧ V.frozen? ⟨X.heap.size, 0, none⟩ = false ∧ V.frozen? ⟨X.heap.size, 1, none⟩ = false ∧ V.cell? ⟨y, 0, none⟩ = some (.int .u64 p) ∧ V.cell? ⟨y, 1, none⟩ = some (.int .u64 l) ∧ Below w.heap.size w V) (by kernel_rfl) (ceKeep hHeld (Below.refl _ _).drew) (fun hHeld => ?_)
    refine tkH (i := 0) (v := .agg #[.int .u64 p, .int .u64 l]) rfl (Or.inl ⟨by kernel_rfl, fun u hSw => by (try dsimp only at hSw); go_simp; try with_reducible rfl⟩) hHeld ?_
    try simp only [Act.put, tdy]
    refine tkH (i := 1) (v := .agg #[.int .u64 p, .int .u64 l]) rfl (Or.inl ⟨by kernel_rfl, fun u hSw => by (try dsimp only at hSw); go_simp; try with_reducible rfl⟩) hHeld ?_
    try simp only [Act.put, tdy]
    refine wpAnyH_ready (rs := [2]) (by kernel_rfl) (by simp) ?_
    refine AllReadyH.cons rfl (fun K hK => ?_) AllReadyH.nil
    go_simp
    go_wp2_with (go_at_call 195; refine (isEmpty_any p l _).mono ?_; rintro e w' ⟨rfl, hb⟩; rw [← HB.out])
    refine hK.out _ _ (ceKeep hHeld hb) (fun hHeld => ?_)
    clear hK K
    try simp only [Act.put, tdy]
    refine tkH (i := 3) (v := .bool (!b)) rfl (Or.inl ⟨by kernel_rfl, fun u hSw => by (try dsimp only at hSw); go_simp; try with_reducible rfl⟩) hHeld ?_
    try simp only [Act.put, tdy]
    refine wpAnyH_ready (rs := [4]) (by kernel_rfl) (by simp) ?_
    refine AllReadyH.cons rfl (fun K hK => ?_) AllReadyH.nil
    obtain ⟨⟨a0, b0, e0, e1⟩, f0, f1, x0, x1, g⟩ := id hHeld
    go_simp
    go_wp2_with fail
    have hxl : w.heap.size ≤ X.heap.size := by omega
    generalize hV : World.setCell (World.setCell _ _ _) _ _ = V
    have c0 : V.cell? ⟨X.heap.size, 0, none⟩ = some (.int .u64 p) := by rw [← hV]; simp [go_sem, e0]
    have c1 : V.cell? ⟨X.heap.size, 1, none⟩ = some (.int .u64 l) := by rw [← hV]; simp [go_sem, e1]
    have gV : Below w.heap.size w V := by rw [← hV]; exact (g.setCell hxl _).setCell hxl _
    have hHeld : CeS w X.heap.size y p l V := ⟨⟨_, _, c0, c1⟩, by rw [← hV, World.frozen?_setCell, World.frozen?_setCell]; exact f0, by rw [← hV, World.frozen?_setCell, World.frozen?_setCell]; exact f1, by rw [← hV]; simp [go_sem, x0], by rw [← hV]; simp [go_sem, x1], gV⟩
    clear hV e0 e1 f0 f1 x0 x1 g
    refine hK.out _ _ hHeld (fun hHeld => ?_)
    clear hK K
    refine tkH (i := 5) (v := .bool (!b)) rfl (Or.inl ⟨by kernel_rfl, fun u hSw => by (try dsimp only at hSw); go_simp; try with_reducible rfl⟩) hHeld ?_
    try simp only [Act.put, tdy]
    refine wpAnyH_done (by kernel_rfl) ?_ _
    go_wp2_with fail
    refine bodyPost_ret (v := .tuple #[.agg #[.int .u64 p, .int .u64 l], .bool (!b)]) (by simp [results, Tryz.results181, go_sem, c0, c1]) rfl ?_
    exact ⟨⟨p, l, by rw [HF2.out], fun _ => by rw [Int.toNat_natCast]; exact ⟨HP.out, HL.out⟩⟩, gV⟩

end Go.Proofs.YtnfolgoloaeanaaGreat

