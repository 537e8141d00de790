/-
  The contracts of cellAt and of the model's l2Has: is there a cell in a slot?
-/
import Derived.Test.YtjbopcplpgoiaaaLawI
namespace Go.Proofs.Ytjbopcplpgoiaaa
open Go.RowKit
set_option linter.unusedVariables false

/-- Is n from lo to hi? -/
def inR (n lo hi : Int) : Bool := decide (lo ≤ n) && decide (n ≤ hi)

set_option maxHeartbeats 400000 in
theorem isWithin_any (n lo hi : Int) (w : World) : Calls Try.prog 91 #[.int .i64 n, .int .i64 lo, .int .i64 hi] w fun e w' => e = .returned (.bool (inR n lo hi)) ∧ w' = w := by
  by_cases h1 : lo ≤ n
  · have d1 : decide (lo ≤ n) = true := by simpa using h1
    have e1 : inR n lo hi = decide (n ≤ hi) := by simp [inR, h1]
    rw [e1]
    go_enter Try.func91, Try.ntmps91
    go_wp2
    go_ret
    exact ⟨rfl, rfl⟩
  · have d1 : decide (lo ≤ n) = false := by simpa using h1
    have e1 : inR n lo hi = false := by simp [inR, h1]
    rw [e1]
    go_enter Try.func91, Try.ntmps91
    go_wp2
    go_ret
    exact ⟨rfl, rfl⟩

set_option maxHeartbeats 400000 in
theorem l1In_any (n lo hi : Int) (w : World) : Calls Try.prog 86 #[.int .i64 n, .int .i64 lo, .int .i64 hi] w fun e w' => e = .returned (.bool (inR n lo hi)) ∧ w' = w := by
  by_cases h1 : lo ≤ n
  · have d1 : decide (lo ≤ n) = true := by simpa using h1
    have e1 : inR n lo hi = decide (n ≤ hi) := by simp [inR, h1]
    rw [e1]
    go_enter Try.func86, Try.ntmps86
    go_wp2
    go_ret
    exact ⟨rfl, rfl⟩
  · have d1 : decide (lo ≤ n) = false := by simpa using h1
    have e1 : inR n lo hi = false := by simp [inR, h1]
    rw [e1]
    go_enter Try.func86, Try.ntmps86
    go_wp2
    go_ret
    exact ⟨rfl, rfl⟩

/-- Has slot x a cell? -/
def hasC (zs : List Int) (x : Int) : Bool := inR x 0 (nb zs 0 - 1) && !(empB zs x.toNat)

def CeS (w : World) (x y p l : Nat) (V : World) : Prop := (∃ a b : Int, V.cell? ⟨x, 0, none⟩ = some (.int .u64 a) ∧ V.cell? ⟨x, 1, none⟩ = some (.int .u64 b)) ∧ V.frozen? ⟨x, 0, none⟩ = false ∧ V.frozen? ⟨x, 1, none⟩ = false ∧ V.cell? ⟨y, 0, none⟩ = some (.int .u64 p) ∧ V.cell? ⟨y, 1, none⟩ = some (.int .u64 l) ∧ Below w.heap.size w V
theorem ceKeep {w : World} {x y p l : Nat} {W V : World} (h : CeS w x y p l W) (hb : Below W.heap.size W V) : CeS w x y p l V := by
  obtain ⟨⟨a, b, h1, h2⟩, h3, h4, h5, h6, h7⟩ := h
  have hx : x < W.heap.size := World.block_lt_of_cell? W _ h1
  have hy : y < W.heap.size := World.block_lt_of_cell? W _ h5
  exact ⟨⟨a, b, (hb.cell (p := ⟨x, 0, none⟩) hx).trans h1, (hb.cell (p := ⟨x, 1, none⟩) hx).trans h2⟩, (hb.frozen (p := ⟨x, 0, none⟩) hx).trans h3, (hb.frozen (p := ⟨x, 1, none⟩) hx).trans h4, (hb.cell (p := ⟨y, 0, none⟩) hy).trans h5, (hb.cell (p := ⟨y, 1, none⟩) hy).trans h6, h7.trans (hb.mono h7.size)⟩

set_option maxHeartbeats 2000000 in
theorem cellAt_any (zs : List Int) (x : Int) (w : World) (h : IsPg zs) (hc : nb zs 0 ≤ 16) (hx : (Lit.int .i64 x).wf = true) :
    Calls Try.prog 60 #[.agg (pgC zs), .int .i64 x] w fun e w' => (∃ p l : Nat, e = .returned (.tuple #[.agg #[.int .u64 p, .int .u64 l], .bool (hasC zs x)]) ∧ (hasC zs x = true → p = nb zs (2 + 2 * x.toNat) ∧ l = nb zs (3 + 2 * x.toNat))) ∧ Below w.heap.size w w' := by
  obtain ⟨X, hX, hA, g⟩ := boxed zs w h
  obtain ⟨n, hn⟩ : ∃ n, n = nb zs 0 := ⟨_, rfl⟩
  have HN : Hid (nb zs 0 = n) := hn.symm
  have HH : Hid (hasC zs x = (inR x 0 (n - 1) && !(empB zs x.toNat))) := by show _ = _; rw [hn]; rfl
  rw [← hn] at hc
  clear hn
  obtain ⟨Y, hY⟩ : ∃ Y, X.alloc (.cells #[.int .u64 0, .int .u64 0] 69) = Y := ⟨_, rfl⟩
  have hA' : Arr Y w.heap.size zs := by rw [← hY]; exact hA.alloc _
  have g' : Below w.heap.size w Y := by rw [← hY]; exact g.alloc g.size _
  have e0 : Y.cell? ⟨X.heap.size, 0, none⟩ = some (.int .u64 0) := by rw [← hY]; simp [go_sem]
  have e1 : Y.cell? ⟨X.heap.size, 1, none⟩ = some (.int .u64 0) := by rw [← hY]; simp [go_sem]
  have f0 : Y.frozen? ⟨X.heap.size, 0, none⟩ = false := by rw [← hY]; simp [go_sem]
  have f1 : Y.frozen? ⟨X.heap.size, 1, none⟩ = false := by rw [← hY]; simp [go_sem]
  have hlt : w.heap.size < X.heap.size := hA.lt
  clear hA g
  go_enter Try.func60, Try.ntmps60
  go_wp2_with (refine wpList_loadPg rfl _ rfl _ rfl zs (by assumption) ?_)
  refine (slots_any zs _ h).mono ?_
  rintro e w1 ⟨rfl, g1⟩
  rw [HN.out]
  have hlY : X.heap.size < Y.heap.size := World.block_lt_of_cell? Y _ e0
  have hA := hA'.grown g1
  have g : Below w.heap.size w w1 := g'.trans (g1.mono g'.size)
  have e0 : w1.cell? ⟨X.heap.size, 0, none⟩ = some (.int .u64 0) := (g1.cell (p := ⟨X.heap.size, 0, none⟩) hlY).trans e0
  have e1 : w1.cell? ⟨X.heap.size, 1, none⟩ = some (.int .u64 0) := (g1.cell (p := ⟨X.heap.size, 1, none⟩) hlY).trans e1
  have f0 : w1.frozen? ⟨X.heap.size, 0, none⟩ = false := (g1.frozen (p := ⟨X.heap.size, 0, none⟩) hlY).trans f0
  have f1 : w1.frozen? ⟨X.heap.size, 1, none⟩ = false := (g1.frozen (p := ⟨X.heap.size, 1, none⟩) hlY).trans f1
  clear hX hY hA' g' g1 hlY
  go_wp2_with fail
  refine (isWithin_any _ _ _ _).mono ?_
  rintro e w2 ⟨rfl, hw2⟩
  subst w2
  cases hin : inR x 0 (n - 1)
  · have HF : Hid (hasC zs x = false) := by show _ = _; rw [HH.out, hin]; rfl
    clear hin
    go_wp2_with fail
    refine bodyPost_ret (v := .tuple #[.agg #[.int .u64 0, .int .u64 0], .bool false]) (by simp [results, Try.results60, go_sem, e0, e1]) rfl ?_
    exact ⟨⟨0, 0, by rw [HF.out]; rfl, fun hh => by rw [HF.out] at hh; cases hh⟩, by go_grown⟩
  · obtain ⟨s, hs⟩ : ∃ s : Nat, x = (s : Int) := by
      simp [inR] at hin
      exact ⟨x.toNat, by omega⟩
    subst hs
    have hsn : s < n := by simp [inR] at hin; omega
    have HF : Hid (hasC zs (s : Int) = !(empB zs s)) := by show _ = _; rw [HH.out, hin, Int.toNat_natCast]; rfl
    clear hin HH
    go_wp2_with (refine wpList_loadPg rfl _ rfl _ rfl zs (by assumption) ?_)
    refine (spanOf_any zs s _ h (by omega)).mono ?_
    rintro e w4 ⟨rfl, g4⟩
    have hl1 : X.heap.size < w1.heap.size := World.block_lt_of_cell? w1 _ e0
    have g : Below w.heap.size w w4 := g.trans (g4.mono g.size)
    have e0 : w4.cell? ⟨X.heap.size, 0, none⟩ = some (.int .u64 0) := (g4.cell (p := ⟨X.heap.size, 0, none⟩) hl1).trans e0
    have e1 : w4.cell? ⟨X.heap.size, 1, none⟩ = some (.int .u64 0) := (g4.cell (p := ⟨X.heap.size, 1, none⟩) hl1).trans e1
    have f0 : w4.frozen? ⟨X.heap.size, 0, none⟩ = false := (g4.frozen (p := ⟨X.heap.size, 0, none⟩) hl1).trans f0
    have f1 : w4.frozen? ⟨X.heap.size, 1, none⟩ = false := (g4.frozen (p := ⟨X.heap.size, 1, none⟩) hl1).trans f1
    clear g4 hl1
    obtain ⟨p, hp⟩ : ∃ p, p = nb zs (2 + 2 * s) := ⟨_, rfl⟩
    obtain ⟨l, hl⟩ : ∃ l, l = nb zs (3 + 2 * s) := ⟨_, rfl⟩
    have HE : Hid (empB zs s = (p == 0 && l == 0)) := by show _ = _; rw [hp, hl]; rfl
    have HP : Hid (p = nb zs (2 + 2 * s)) := hp
    have HL : Hid (l = nb zs (3 + 2 * s)) := hl
    rw [← hp, ← hl]
    clear hp hl
    obtain ⟨b, hb0⟩ : ∃ b, b = (p == 0 && l == 0) := ⟨_, rfl⟩
    have HB : Hid (b = (p == 0 && l == 0)) := hb0
    have HF2 : Hid (hasC zs (s : Int) = !b) := by show _ = _; rw [HF.out, HE.out, hb0]
    clear hb0 HF HE
    go_upto_region 4 with (fail)
    generalize hZ : World.alloc w4 _ = Z
    have hl4 : X.heap.size < w4.heap.size := World.block_lt_of_cell? w4 _ e0
    have gZ : Below w4.heap.size w4 Z := by rw [← hZ]; exact (Below.refl _ _).alloc (Nat.le_refl _) _
    have hHeld : CeS w X.heap.size w4.heap.size p l Z :=
      ⟨⟨0, 0, (gZ.cell (p := ⟨X.heap.size, 0, none⟩) hl4).trans e0, (gZ.cell (p := ⟨X.heap.size, 1, none⟩) hl4).trans e1⟩, (gZ.frozen (p := ⟨X.heap.size, 0, none⟩) hl4).trans f0, (gZ.frozen (p := ⟨X.heap.size, 1, none⟩) hl4).trans f1, by rw [← hZ]; simp [go_sem], by rw [← hZ]; simp [go_sem], g.trans (gZ.mono g.size)⟩
    clear hZ gZ e0 e1 f0 f1 g
    have hny : X.heap.size ≠ w4.heap.size := by omega
    generalize w4.heap.size = y at hHeld hny
    refine wp_region_held_drew (S := fun V => (∃ a b : Int, V.cell? ⟨X.heap.size, 0, none⟩ = some (.int .u64 a) ∧ V.cell? ⟨X.heap.size, 1, none⟩ = some (.int .u64 b)) ∧ V.frozen? ⟨X.heap.size, 0, none⟩ = false ∧ V.frozen? ⟨X.heap.size, 1, none⟩ = false ∧ V.cell? ⟨y, 0, none⟩ = some (.int .u64 p) ∧ V.cell? ⟨y, 1, none⟩ = some (.int .u64 l) ∧ Below w.heap.size w V) (by kernel_rfl) (ceKeep hHeld (Below.refl _ _).drew) (fun hHeld => ?_)
    refine wpAnyH_take (i := 0) (v := .agg #[.int .u64 p, .int .u64 l]) rfl (by kernel_rfl) (by kernel_rfl) (by kernel_rfl) (fun _ _ _ h => h) (Or.inl ⟨by kernel_rfl, fun u hSw => by (try dsimp only at hSw); go_simp; try with_reducible rfl⟩) hHeld ?_
    try simp only [List.getElem_toArray]
    try simp only [List.getElem_cons_succ]
    try simp only [List.getElem_cons_zero]
    try simp only [Act.put]
    try simp only [List.setIfInBounds_toArray]
    try simp only [List.set]
    refine wpAnyH_take (i := 1) (v := .agg #[.int .u64 p, .int .u64 l]) rfl (by kernel_rfl) (by kernel_rfl) (by kernel_rfl) (fun _ _ _ h => h) (Or.inl ⟨by kernel_rfl, fun u hSw => by (try dsimp only at hSw); go_simp; try with_reducible rfl⟩) hHeld ?_
    try simp only [List.getElem_toArray]
    try simp only [List.getElem_cons_succ]
    try simp only [List.getElem_cons_zero]
    try simp only [Act.put]
    try simp only [List.setIfInBounds_toArray]
    try simp only [List.set]
    refine wpAnyH_ready (rs := [2]) (by kernel_rfl) (by simp) ?_
    refine AllReadyH.cons rfl (fun K hK => ?_) AllReadyH.nil
    go_simp
    go_wp2_with (go_at_call 64; refine (isEmpty_any p l _).mono ?_; rintro e w' ⟨rfl, hb⟩; rw [← HB.out])
    refine hK.out _ _ (ceKeep hHeld hb) (fun hHeld => ?_)
    clear hK K
    try simp only [Act.put]
    try simp only [List.setIfInBounds_toArray]
    try simp only [List.set]
    refine wpAnyH_take (i := 3) (v := .bool (!b)) rfl (by kernel_rfl) (by kernel_rfl) (by kernel_rfl) (fun _ _ _ h => h) (Or.inl ⟨by kernel_rfl, fun u hSw => by (try dsimp only at hSw); go_simp; try with_reducible rfl⟩) hHeld ?_
    try simp only [List.getElem_toArray]
    try simp only [List.getElem_cons_succ]
    try simp only [List.getElem_cons_zero]
    try simp only [Act.put]
    try simp only [List.setIfInBounds_toArray]
    try simp only [List.set]
    refine wpAnyH_ready (rs := [4]) (by kernel_rfl) (by simp) ?_
    refine AllReadyH.cons rfl (fun K hK => ?_) AllReadyH.nil
    obtain ⟨⟨a0, b0, e0, e1⟩, f0, f1, x0, x1, g⟩ := id hHeld
    go_simp
    go_wp2_with fail
    have hxl : w.heap.size ≤ X.heap.size := by omega
    generalize hV : World.setCell (World.setCell _ _ _) _ _ = V
    have c0 : V.cell? ⟨X.heap.size, 0, none⟩ = some (.int .u64 p) := by rw [← hV]; simp [go_sem, e0]
    have c1 : V.cell? ⟨X.heap.size, 1, none⟩ = some (.int .u64 l) := by rw [← hV]; simp [go_sem, e1]
    have gV : Below w.heap.size w V := by rw [← hV]; exact (g.setCell hxl _).setCell hxl _
    have hHeld : CeS w X.heap.size y p l V := ⟨⟨_, _, c0, c1⟩, by rw [← hV, World.frozen?_setCell, World.frozen?_setCell]; exact f0, by rw [← hV, World.frozen?_setCell, World.frozen?_setCell]; exact f1, by rw [← hV]; simp [go_sem, x0], by rw [← hV]; simp [go_sem, x1], gV⟩
    clear hV e0 e1 f0 f1 x0 x1 g
    refine hK.out _ _ hHeld (fun hHeld => ?_)
    clear hK K
    refine wpAnyH_take (i := 5) (v := .bool (!b)) rfl (by kernel_rfl) (by kernel_rfl) (by kernel_rfl) (fun _ _ _ h => h) (Or.inl ⟨by kernel_rfl, fun u hSw => by (try dsimp only at hSw); go_simp; try with_reducible rfl⟩) hHeld ?_
    try simp only [List.getElem_toArray]
    try simp only [List.getElem_cons_succ]
    try simp only [List.getElem_cons_zero]
    try simp only [Act.put]
    try simp only [List.setIfInBounds_toArray]
    try simp only [List.set]
    refine wpAnyH_done (by kernel_rfl) ?_ _
    go_wp2_with fail
    refine bodyPost_ret (v := .tuple #[.agg #[.int .u64 p, .int .u64 l], .bool (!b)]) (by simp [results, Try.results60, go_sem, c0, c1]) rfl ?_
    exact ⟨⟨p, l, by rw [HF2.out], fun _ => by rw [Int.toNat_natCast]; exact ⟨HP.out, HL.out⟩⟩, gV⟩

set_option maxHeartbeats 1000000 in
theorem l2Has_any (a : Option Addr) (zs : List Int) (c : Nat) (x : Int) (w : World) (hr : Reads w a zs) (h : Fine zs) (hx : (Lit.int .i64 x).wf = true) :
    Calls Try.prog 70 #[.slice a 64 c, .int .i64 x] w fun e w' => e = .returned (.bool (hasC zs x)) ∧ w' = w := by
  have hc := h.few
  obtain ⟨n, hn⟩ : ∃ n, n = nb zs 0 := ⟨_, rfl⟩
  have HN : Hid (nb zs 0 = n) := hn.symm
  have HH : Hid (hasC zs x = (inR x 0 (n - 1) && !(empB zs x.toNat))) := by show _ = _; rw [hn]; rfl
  rw [← hn] at hc
  clear hn
  go_enter Try.func70, Try.ntmps70
  go_wp2_with fail
  refine (l2Count_any a zs c _ hr h.pg).mono ?_
  rintro e w' ⟨rfl, rfl⟩
  rw [HN.out]
  go_wp2_with fail
  refine (l1In_any _ _ _ _).mono ?_
  rintro e w2 ⟨rfl, rfl⟩
  cases hin : inR x 0 (n - 1)
  · have HF : Hid (hasC zs x = false) := by show _ = _; rw [HH.out, hin]; rfl
    clear hin
    go_wp2_with fail
    go_ret
    exact ⟨by rw [HF.out]; rfl, rfl⟩
  · obtain ⟨s, hs⟩ : ∃ s : Nat, x = (s : Int) := by
      simp [inR] at hin
      exact ⟨x.toNat, by omega⟩
    subst hs
    have hsn : s < n := by simp [inR] at hin; omega
    have HF : Hid (hasC zs (s : Int) = decide ((0 : Int) < (nb zs (3 + 2 * s) : Int))) := by
      show _ = _
      rw [HH.out, hin, Int.toNat_natCast, Bool.true_and]
      rcases h.place s (by rw [HN.out]; exact hsn) with ⟨h1, h2⟩ | ⟨h1, h2, _⟩
      · simp [empB, h1, h2]
      · have : empB zs s = false := by simp [empB, h2]
        rw [this]
        simp
        omega
    clear hin HH
    go_wp2_with fail
    refine (l2Size_any a zs c s _ hr h.pg (by omega)).mono ?_
    rintro e w' ⟨rfl, rfl⟩
    obtain ⟨l, hl⟩ : ∃ l, l = nb zs (3 + 2 * s) := ⟨_, rfl⟩
    rw [← hl] at HF ⊢
    clear hl
    go_wp2_with fail
    go_ret
    exact ⟨by rw [HF.out]; simp, rfl⟩

end Go.Proofs.Ytjbopcplpgoiaaa
