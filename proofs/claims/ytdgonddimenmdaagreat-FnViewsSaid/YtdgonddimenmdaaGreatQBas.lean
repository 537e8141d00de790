/-
  What the seat lacked of the texts of pages.
-/
import Derived.Test.YtdgonddimenmdaaGreatQLawA

namespace Go.Proofs.YtdgonddimenmdaaGreat
open Go.RowKit
set_option linter.unusedVariables false
set_option maxRecDepth 20000

set_option maxHeartbeats 1000000 in
theorem l2New_any (f : Int) (w : World) :
    Calls Tryz.prog 57 #[.int .u8 f] w fun e w' => e = .returned (.slice (some ⟨w.heap.size, 0, none⟩) 64 64) ∧ Below w.heap.size w w' ∧ BytesIn w.heap.size w'.heap.size w' (some ⟨w.heap.size, 0, none⟩) (newBytes f) := by
  obtain ⟨i0, hi, hz0, hz1, hz2⟩ := info5
  go_enter Tryz.func57, Tryz.ntmps57
  go_wp2_with (at_make; refine wpList_make_full _ rfl _ _ 22 rfl w.heap.size 5 i0 (.int .u8 0) 1 Tryz.underlying22 hi hz0 hz1 .i64 .i64 _ _ 64 rfl rfl rfl rfl ?c1 ?c2 (Nat.le_refl _) ?_)
  case c1 => rw [hz2]; omega
  case c2 => unfold maxLen; omega
  intro w1 hown hg
  have hB : Below w.heap.size w w1 := Below.grown (Below.refl _ _) hg (Nat.le_refl _) (fun k hk => by cases hk)
  have hlt1 : w.heap.size < w1.heap.size := (hown.lt w.heap.size (by simp [Value.ownBlock])).2
  have hY : BytesIn w.heap.size w1.heap.size w1 (some ⟨w.heap.size, 0, none⟩) (filled f 0) :=
    .inr ⟨w.heap.size, 0, rfl, Nat.le_refl _, hlt1, fun i hi => by
      have hi' : i < 64 := by rw [filled_length f 0 (by omega)] at hi; exact hi
      rw [Nat.zero_add, hown.cellAt i (by omega), made_zero 64 i hi']
      rw [filled_zero], fun i _ => by rw [Nat.zero_add]; exact hown.frozenAt i⟩
  clear hown hg hi hz0 hz1 hz2
  go_wp2_with fail
  go_loopw [4] (fun i wr => ∃ k : Nat, k ≤ 64 ∧ i = .int .i64 k ∧ wr.heap.size = w1.heap.size ∧ Below w.heap.size w wr ∧ BytesIn w.heap.size w1.heap.size wr (some ⟨w.heap.size, 0, none⟩) (filled f k)) (fun i _ => 64 - (intOf i).toNat)
  case atStart => exact ⟨0, by omega, rfl, rfl, hB, hY⟩
  case round =>
    obtain ⟨k, hk, rfl, hs, g, hA⟩ := hrel
    by_cases hlt : k < 64
    · obtain ⟨e1, e2⟩ := hA.at k (by rw [filled_length f k hk]; exact hlt)
      simp only [Nat.zero_add] at e1 e2
      have hi : (k : Int) < 64 := by omega
      go_wp2
      go_roundw
      case rel => exact ⟨k + 1, by omega, by go_num, by simpa using hs, g.setCell (by simp) _, by rw [← filled_set f k hlt]; simpa using hA.set k (by rw [filled_length f k hk]; exact hlt) f⟩
      case measure => simp [intOf]; omega
    · have e : k = 64 := by omega
      subst e
      obtain ⟨e0, e1⟩ := hA.at 0 (by rw [filled_length f _ hk]; omega)
      obtain ⟨e2, e3⟩ := hA.at 1 (by rw [filled_length f _ hk]; omega)
      simp only [Nat.zero_add] at e0 e1 e2 e3
      have hY := (hA.set 0 (by rw [filled_length f _ hk]; omega) 0).set 1 (by rw [List.length_set, filled_length f _ hk]; omega) 64
      rw [filled_new] at hY
      simp only [Nat.zero_add] at hY
      go_wp2
      go_ret
      exact ⟨rfl, (g.setCell (by simp) _).setCell (by simp) _, hY.mono (Nat.le_refl _) (by simp; omega)⟩

set_option maxHeartbeats 1000000 in
theorem l2Free_any (a : Option Addr) (zs : List Int) (c : Nat) (w : World) (hr : Reads w a zs) (h : Fine zs) :
    Calls Tryz.prog 63 #[.slice a 64 c] w fun e w' => e = .returned (.int .i64 (freeN zs)) ∧ w' = w := by
  have hc := h.few
  have hf := h.sum
  unfold freeN
  obtain ⟨n, hn⟩ : ∃ n, n = nb zs 0 := ⟨_, rfl⟩
  have HN : Hid (nb zs 0 = n) := hn.symm
  rw [← hn] at hc hf ⊢
  clear hn
  go_enter Tryz.func63, Tryz.ntmps63
  go_wp2_with fail
  refine (l2Count_any a zs c _ hr h.pg).mono ?_
  rintro e w' ⟨rfl, rfl⟩
  rw [HN.out]
  go_wp2_with fail
  go_loop [3, 4] (fun fr i => ∃ k f : Nat, k ≤ n ∧ i = .int .i64 k ∧ fr = .int .i64 f ∧ Hid (f + 2 + 2 * n + lens zs k = 64)) (fun _ i => n - (intOf i).toNat)
  case atStart => exact ⟨0, 62 - 2 * n, by omega, rfl, by go_num, by show _ = 64; simp only [lens]; omega⟩
  case round =>
    obtain ⟨k, f, hk, rfl, rfl, HF⟩ := hrel
    go_wp2_with fail
    refine (l2Count_any a zs c _ hr h.pg).mono ?_
    rintro e w' ⟨rfl, rfl⟩
    rw [HN.out]
    by_cases hlt : k < n
    · have hi : (k : Int) < (n : Int) := by omega
      have hlen : nb zs (3 + 2 * k) ≤ f := by
        have h1 := HF.out
        have h2 := lens_le zs (k + 1) (n - (k + 1))
        rw [show k + 1 + (n - (k + 1)) = n by omega, lens] at h2
        omega
      have hf64 : f ≤ 64 := by have := HF.out; omega
      go_wp2_with fail
      refine (l2Size_any a zs c k _ hr h.pg (by omega)).mono ?_
      rintro e w' ⟨rfl, rfl⟩
      obtain ⟨l, hl⟩ : ∃ l, l = nb zs (3 + 2 * k) := ⟨_, rfl⟩
      rw [← hl] at hlen ⊢
      have HL : Hid (l = nb zs (3 + 2 * k)) := hl
      clear hl
      go_wp2_with fail
      go_round
      case rel => exact ⟨k + 1, f - l, by omega, by go_num, by go_num, by show f - l + 2 + 2 * n + lens zs (k + 1) = 64; have := HF.out; have := HL.out; rw [lens]; omega⟩
      case measure => simp [intOf]; omega
    · have e : k = n := by omega
      subst e
      have HE : Hid (f = 62 - 2 * k - lens zs k) := by have := HF.out; show f = _; omega
      go_wp2_with fail
      go_ret
      exact ⟨by rw [← HE.out]; rfl, rfl⟩

set_option maxHeartbeats 2000000 in
theorem cellAt_any (zs : List Int) (x : Int) (w : World) (h : IsPg zs) (hc : nb zs 0 ≤ 16) (hx : (Lit.int .i64 x).wf = true) :
    Calls Tryz.prog 23 #[.agg (pgC zs), .int .i64 x] w fun e w' => (∃ p l : Nat, e = .returned (.tuple #[.agg #[.int .u64 p, .int .u64 l], .bool (hasC zs x)]) ∧ (hasC zs x = true → p = nb zs (2 + 2 * x.toNat) ∧ l = nb zs (3 + 2 * x.toNat))) ∧ Below w.heap.size w w' := by
  obtain ⟨X, hX, hA, g⟩ := boxed zs w h
  obtain ⟨n, hn⟩ : ∃ n, n = nb zs 0 := ⟨_, rfl⟩
  have HN : Hid (nb zs 0 = n) := hn.symm
  have HH : Hid (hasC zs x = (inR x 0 (n - 1) && !(empB zs x.toNat))) := by show _ = _; rw [hn]; rfl
  rw [← hn] at hc
  clear hn
  obtain ⟨Y, hY⟩ : ∃ Y, X.alloc (.cells #[.int .u64 0, .int .u64 0] 62) = Y := ⟨_, rfl⟩
  have hA' : Arr Y w.heap.size zs := by rw [← hY]; exact hA.alloc _
  have g' : Below w.heap.size w Y := by rw [← hY]; exact g.alloc g.size _
  have e0 : Y.cell? ⟨X.heap.size, 0, none⟩ = some (.int .u64 0) := by rw [← hY]; simp [go_sem]
  have e1 : Y.cell? ⟨X.heap.size, 1, none⟩ = some (.int .u64 0) := by rw [← hY]; simp [go_sem]
  have f0 : Y.frozen? ⟨X.heap.size, 0, none⟩ = false := by rw [← hY]; simp [go_sem]
  have f1 : Y.frozen? ⟨X.heap.size, 1, none⟩ = false := by rw [← hY]; simp [go_sem]
  have hlt : w.heap.size < X.heap.size := hA.lt
  clear hA g
  go_enter Tryz.func23, Tryz.ntmps23
  go_wp2_with (refine wpList_loadPg rfl _ rfl _ rfl zs (by assumption) ?_)
  refine (slots_any zs _ h).mono ?_
  rintro e w1 ⟨rfl, g1⟩
  rw [HN.out]
  have hlY : X.heap.size < Y.heap.size := World.block_lt_of_cell? Y _ e0
  have hA := hA'.grown g1
  have g : Below w.heap.size w w1 := g'.trans (g1.mono g'.size)
  have e0 : w1.cell? ⟨X.heap.size, 0, none⟩ = some (.int .u64 0) := (g1.cell (p := ⟨X.heap.size, 0, none⟩) hlY).trans e0
  have e1 : w1.cell? ⟨X.heap.size, 1, none⟩ = some (.int .u64 0) := (g1.cell (p := ⟨X.heap.size, 1, none⟩) hlY).trans e1
  have f0 : w1.frozen? ⟨X.heap.size, 0, none⟩ = false := (g1.frozen (p := ⟨X.heap.size, 0, none⟩) hlY).trans f0
  have f1 : w1.frozen? ⟨X.heap.size, 1, none⟩ = false := (g1.frozen (p := ⟨X.heap.size, 1, none⟩) hlY).trans f1
  clear hX hY hA' g' g1 hlY
  go_wp2_with fail
  refine (isWithin_any _ _ _ _).mono ?_
  rintro e w2 ⟨rfl, hw2⟩
  subst w2
  cases hin : inR x 0 (n - 1)
  · have HF : Hid (hasC zs x = false) := by show _ = _; rw [HH.out, hin]; rfl
    clear hin
    go_wp2_with fail
    refine bodyPost_ret (v := .tuple #[.agg #[.int .u64 0, .int .u64 0], .bool false]) (by simp [results, Tryz.results23, go_sem, e0, e1]) rfl ?_
    exact ⟨⟨0, 0, by rw [HF.out]; rfl, fun hh => by rw [HF.out] at hh; cases hh⟩, by go_grown⟩
  · obtain ⟨s, hs⟩ : ∃ s : Nat, x = (s : Int) := by
      simp [inR] at hin
      exact ⟨x.toNat, by omega⟩
    subst hs
    have hsn : s < n := by simp [inR] at hin; omega
    have HF : Hid (hasC zs (s : Int) = !(empB zs s)) := by show _ = _; rw [HH.out, hin, Int.toNat_natCast]; rfl
    clear hin HH
    go_wp2_with (refine wpList_loadPg rfl _ rfl _ rfl zs (by assumption) ?_)
    refine (spanOf_any zs s _ h (by omega)).mono ?_
    rintro e w4 ⟨rfl, g4⟩
    have hl1 : X.heap.size < w1.heap.size := World.block_lt_of_cell? w1 _ e0
    have g : Below w.heap.size w w4 := g.trans (g4.mono g.size)
    have e0 : w4.cell? ⟨X.heap.size, 0, none⟩ = some (.int .u64 0) := (g4.cell (p := ⟨X.heap.size, 0, none⟩) hl1).trans e0
    have e1 : w4.cell? ⟨X.heap.size, 1, none⟩ = some (.int .u64 0) := (g4.cell (p := ⟨X.heap.size, 1, none⟩) hl1).trans e1
    have f0 : w4.frozen? ⟨X.heap.size, 0, none⟩ = false := (g4.frozen (p := ⟨X.heap.size, 0, none⟩) hl1).trans f0
    have f1 : w4.frozen? ⟨X.heap.size, 1, none⟩ = false := (g4.frozen (p := ⟨X.heap.size, 1, none⟩) hl1).trans f1
    clear g4 hl1
    obtain ⟨p, hp⟩ : ∃ p, p = nb zs (2 + 2 * s) := ⟨_, rfl⟩
    obtain ⟨l, hl⟩ : ∃ l, l = nb zs (3 + 2 * s) := ⟨_, rfl⟩
    have HE : Hid (empB zs s = (p == 0 && l == 0)) := by show _ = _; rw [hp, hl]; rfl
    have HP : Hid (p = nb zs (2 + 2 * s)) := hp
    have HL : Hid (l = nb zs (3 + 2 * s)) := hl
    rw [← hp, ← hl]
    clear hp hl
    obtain ⟨b, hb0⟩ : ∃ b, b = (p == 0 && l == 0) := ⟨_, rfl⟩
    have HB : Hid (b = (p == 0 && l == 0)) := hb0
    have HF2 : Hid (hasC zs (s : Int) = !b) := by show _ = _; rw [HF.out, HE.out, hb0]
    clear hb0 HF HE
    go_upto_region 4 with (fail)
    generalize hZ : World.alloc w4 _ = Z
    have hl4 : X.heap.size < w4.heap.size := World.block_lt_of_cell? w4 _ e0
    have gZ : Below w4.heap.size w4 Z := by rw [← hZ]; exact (Below.refl _ _).alloc (Nat.le_refl _) _
    have hHeld : CeS w X.heap.size w4.heap.size p l Z :=
      ⟨⟨0, 0, (gZ.cell (p := ⟨X.heap.size, 0, none⟩) hl4).trans e0, (gZ.cell (p := ⟨X.heap.size, 1, none⟩) hl4).trans e1⟩, (gZ.frozen (p := ⟨X.heap.size, 0, none⟩) hl4).trans f0, (gZ.frozen (p := ⟨X.heap.size, 1, none⟩) hl4).trans f1, by rw [← hZ]; simp [go_sem], by rw [← hZ]; simp [go_sem], g.trans (gZ.mono g.size)⟩
    clear hZ gZ e0 e1 f0 f1 g
    have hny : X.heap.size ≠ w4.heap.size := by omega
    generalize w4.heap.size = y at hHeld hny
    refine wp_region_held_drew (S := fun V => (∃ a b : Int, V.cell? ⟨X.heap.size, 0, none⟩ = some (.int .u64 a) ∧ V.cell? ⟨X.heap.size, 1, none⟩ = some (.int .u64 b)) ∧ V.frozen? ⟨X.heap.size, 0, none⟩ = false ∧ V.frozen? ⟨X.heap.size, 1, none⟩ = false ∧ V.cell? ⟨y, 0, none⟩ = some (.int .u64 p) ∧ V.cell? ⟨y, 1, none⟩ = some (.int .u64 l) ∧ Below w.heap.size w V) (by kernel_rfl) (ceKeep hHeld (Below.refl _ _).drew) (fun hHeld => ?_)
    refine wpAnyH_take (i := 0) (v := .agg #[.int .u64 p, .int .u64 l]) rfl (by kernel_rfl) (by kernel_rfl) (by kernel_rfl) (fun _ _ _ h => h) (Or.inl ⟨by kernel_rfl, fun u hSw => by (try dsimp only at hSw); go_simp; try with_reducible rfl⟩) hHeld ?_
    try simp only [List.getElem_toArray]
    try simp only [List.getElem_cons_succ]
    try simp only [List.getElem_cons_zero]
    try simp only [Act.put]
    try simp only [List.setIfInBounds_toArray]
    try simp only [List.set]
    refine wpAnyH_take (i := 1) (v := .agg #[.int .u64 p, .int .u64 l]) rfl (by kernel_rfl) (by kernel_rfl) (by kernel_rfl) (fun _ _ _ h => h) (Or.inl ⟨by kernel_rfl, fun u hSw => by (try dsimp only at hSw); go_simp; try with_reducible rfl⟩) hHeld ?_
    try simp only [List.getElem_toArray]
    try simp only [List.getElem_cons_succ]
    try simp only [List.getElem_cons_zero]
    try simp only [Act.put]
    try simp only [List.setIfInBounds_toArray]
    try simp only [List.set]
    refine wpAnyH_ready (rs := [2]) (by kernel_rfl) (by simp) ?_
    refine AllReadyH.cons rfl (fun K hK => ?_) AllReadyH.nil
    go_simp
    go_wp2_with (go_at_call 55; refine (isEmpty_any p l _).mono ?_; rintro e w' ⟨rfl, hb⟩; rw [← HB.out])
    refine hK.out _ _ (ceKeep hHeld hb) (fun hHeld => ?_)
    clear hK K
    try simp only [Act.put]
    try simp only [List.setIfInBounds_toArray]
    try simp only [List.set]
    refine wpAnyH_take (i := 3) (v := .bool (!b)) rfl (by kernel_rfl) (by kernel_rfl) (by kernel_rfl) (fun _ _ _ h => h) (Or.inl ⟨by kernel_rfl, fun u hSw => by (try dsimp only at hSw); go_simp; try with_reducible rfl⟩) hHeld ?_
    try simp only [List.getElem_toArray]
    try simp only [List.getElem_cons_succ]
    try simp only [List.getElem_cons_zero]
    try simp only [Act.put]
    try simp only [List.setIfInBounds_toArray]
    try simp only [List.set]
    refine wpAnyH_ready (rs := [4]) (by kernel_rfl) (by simp) ?_
    refine AllReadyH.cons rfl (fun K hK => ?_) AllReadyH.nil
    obtain ⟨⟨a0, b0, e0, e1⟩, f0, f1, x0, x1, g⟩ := id hHeld
    go_simp
    go_wp2_with fail
    have hxl : w.heap.size ≤ X.heap.size := by omega
    generalize hV : World.setCell (World.setCell _ _ _) _ _ = V
    have c0 : V.cell? ⟨X.heap.size, 0, none⟩ = some (.int .u64 p) := by rw [← hV]; simp [go_sem, e0]
    have c1 : V.cell? ⟨X.heap.size, 1, none⟩ = some (.int .u64 l) := by rw [← hV]; simp [go_sem, e1]
    have gV : Below w.heap.size w V := by rw [← hV]; exact (g.setCell hxl _).setCell hxl _
    have hHeld : CeS w X.heap.size y p l V := ⟨⟨_, _, c0, c1⟩, by rw [← hV, World.frozen?_setCell, World.frozen?_setCell]; exact f0, by rw [← hV, World.frozen?_setCell, World.frozen?_setCell]; exact f1, by rw [← hV]; simp [go_sem, x0], by rw [← hV]; simp [go_sem, x1], gV⟩
    clear hV e0 e1 f0 f1 x0 x1 g
    refine hK.out _ _ hHeld (fun hHeld => ?_)
    clear hK K
    refine wpAnyH_take (i := 5) (v := .bool (!b)) rfl (by kernel_rfl) (by kernel_rfl) (by kernel_rfl) (fun _ _ _ h => h) (Or.inl ⟨by kernel_rfl, fun u hSw => by (try dsimp only at hSw); go_simp; try with_reducible rfl⟩) hHeld ?_
    try simp only [List.getElem_toArray]
    try simp only [List.getElem_cons_succ]
    try simp only [List.getElem_cons_zero]
    try simp only [Act.put]
    try simp only [List.setIfInBounds_toArray]
    try simp only [List.set]
    refine wpAnyH_done (by kernel_rfl) ?_ _
    go_wp2_with fail
    refine bodyPost_ret (v := .tuple #[.agg #[.int .u64 p, .int .u64 l], .bool (!b)]) (by simp [results, Tryz.results23, go_sem, c0, c1]) rfl ?_
    exact ⟨⟨p, l, by rw [HF2.out], fun _ => by rw [Int.toNat_natCast]; exact ⟨HP.out, HL.out⟩⟩, gV⟩

set_option maxHeartbeats 1000000 in
theorem clone_any (b off n c : Nat) (zs : List Int) (w : World) (hn : zs.length = n) (h1 : 1 ≤ n) (hm : n ≤ 64) (hr : Reads w (some ⟨b, off, none⟩) zs) :
    Calls Tryz.prog 24 #[.slice (some ⟨b, off, none⟩) n c] w fun e w' => ∃ a d, e = .returned (.slice a n d) ∧ Below w.heap.size w w' ∧ BytesIn w.heap.size w'.heap.size w' a zs := by
  obtain ⟨i0, hi, hz0, hz1, hz2⟩ := info5
  have hb0 : b < w.heap.size := World.block_lt_of_cell? w _ (reads_at hr 0 (by omega))
  have hO : (w.alloc (.cells #[] 5)).ownsRow w.heap.size 5 1 (.slice (some ⟨w.heap.size, 0, none⟩) 0 0) 0 [] := by simpa using World.ownsRow_lit (base := w.heap.size) (e := 5) (size := 1) w #[] 0 (Nat.le_refl _) (by unfold maxLen; omega) rfl
  have hl : (zs.map (Value.int .u8)).length = n * 1 := by simpa using hn
  have hEq : ∀ W : World, (binOp .eql 22 (.slice (some ⟨b, off, none⟩) n c) (.slice none 0 0)).run Tryz.prog W = .ok (.bool false) W := fun W => by kernel_rfl
  go_enter Tryz.func24, Tryz.ntmps24
  go_wp2_with (at_builtin; go_must (refine wpList_append_own _ rfl _ _ 22 rfl w.heap.size 5 i0 (.int .u8 0) 1 1 Tryz.underlying22 hi hz0 hz1 hz2 rfl (by decide) _ _ _ rfl hO ⟨b, off, none⟩ n c (zs.map (Value.int .u8)) rfl hl ?c1 ?c2 ?c3 ?c4 ?c5 ?_))
  case c1 =>
    intro j u hu
    exact reads_src (hr.below (B := w.heap.size) (by go_grown) (Nat.le_refl _)) j u hu
  case c2 =>
    intro u hu
    rw [List.mem_map] at hu
    obtain ⟨z, _, rfl⟩ := hu
    rfl
  case c3 => unfold maxLen; omega
  case c4 => omega
  case c5 => simp
  intro v' w1 hown' hgrow _
  have hB' : Below w.heap.size w w1 := Below.grown ((Below.refl _ _).alloc (Nat.le_refl _) _) hgrow (by simp) (fun j hj => by simp [Value.ownBlock] at hj; omega)
  clear hgrow
  go_wp2_with fail
  go_ret
  have hown : w1.ownsRow w.heap.size 5 1 v' n (zs.map (Value.int .u8)) := by simpa using hown'
  obtain ⟨g, cap, rfl⟩ := Joins.ownsRow_form hown (by omega)
  exact ⟨_, _, rfl, hB', bytesIn_owns hown⟩

end Go.Proofs.YtdgonddimenmdaaGreat
