/-
  The contracts of both SlotIn.
-/
import Derived.Test.YtdgonddimenmdaaGreatQLawA
import Derived.Test.YtdgonddimenmdaaGreatQBas
import Derived.Test.YtdgonddimenmdaaGreatQMce

namespace Go.Proofs.YtdgonddimenmdaaGreat
set_option maxRecDepth 20000
open Go.RowKit
set_option linter.unusedVariables false

def slotQ (zs : List Int) (x : Int) : Int := if fltOf zs = 0 then (if hasC zs x = true then 0 else 4) else fltOf zs
def slotB (zs : List Int) (x : Int) : List Int := if fltOf zs = 0 then (if hasC zs x = true then cellOf zs x.toNat else []) else []

/-- Block b holds the two cells of a BytesResult, and may be written. -/
structure BRes (w : World) (b : Nat) (q : Int) (v : Value) : Prop where
  c0 : w.cell? ⟨b, 0, none⟩ = some (.int .i64 q)
  c1 : w.cell? ⟨b, 1, none⟩ = some v
  f0 : w.frozen? ⟨b, 0, none⟩ = false
  f1 : w.frozen? ⟨b, 1, none⟩ = false
theorem BRes.lt {b : Nat} {w : World} {q : Int} {v : Value} (h : BRes w b q v) : b < w.heap.size := World.block_lt_of_cell? w _ h.c0
theorem BRes.below {b : Nat} {w w' : World} {q : Int} {v : Value} (h : BRes w b q v) (hb : Below w.heap.size w w') : BRes w' b q v :=
  ⟨(hb.cell (p := ⟨b, 0, none⟩) h.lt).trans h.c0, (hb.cell (p := ⟨b, 1, none⟩) h.lt).trans h.c1, (hb.frozen (p := ⟨b, 0, none⟩) h.lt).trans h.f0, (hb.frozen (p := ⟨b, 1, none⟩) h.lt).trans h.f1⟩

def SlS (w : World) (zs : List Int) (x y b p l : Nat) (V : World) : Prop := (∃ v : Value, V.cell? ⟨x, 1, none⟩ = some v) ∧ V.cell? ⟨x, 0, none⟩ = some (.int .i64 0) ∧ V.frozen? ⟨x, 0, none⟩ = false ∧ V.frozen? ⟨x, 1, none⟩ = false ∧ V.cell? ⟨y, 0, none⟩ = some (.int .u64 p) ∧ V.cell? ⟨y, 1, none⟩ = some (.int .u64 l) ∧ Arr V b zs ∧ Below w.heap.size w V
theorem slKeep {w : World} {zs : List Int} {x y b p l : Nat} {W V : World} (h : SlS w zs x y b p l W) (hb : Below W.heap.size W V) : SlS w zs x y b p l V := by
  obtain ⟨⟨v, h1⟩, h2, h3, h4, h5, h6, h7, h8⟩ := h
  have hx : x < W.heap.size := World.block_lt_of_cell? W _ h1
  have hy : y < W.heap.size := World.block_lt_of_cell? W _ h5
  exact ⟨⟨v, (hb.cell (p := ⟨x, 1, none⟩) hx).trans h1⟩, (hb.cell (p := ⟨x, 0, none⟩) hx).trans h2, (hb.frozen (p := ⟨x, 0, none⟩) hx).trans h3, (hb.frozen (p := ⟨x, 1, none⟩) hx).trans h4, (hb.cell (p := ⟨y, 0, none⟩) hy).trans h5, (hb.cell (p := ⟨y, 1, none⟩) hy).trans h6, h7.grown hb, h8.trans (hb.mono h8.size)⟩

set_option maxHeartbeats 2000000 in
theorem implSlotIn_any (a : Option Addr) (zs : List Int) (n c : Nat) (x : Int) (w : World) (hn : zs.length = n) (hm : n ≤ 1048576) (hnc : n ≤ c) (hr : Reads w a zs) (hz : ∀ z ∈ zs, 0 ≤ z ∧ z ≤ 255) (hx : (Lit.int .i64 x).wf = true) :
    Calls Tryz.prog 10 #[.slice a n c, .int .i64 x] w fun e w' => ∃ a' d, e = .returned (.agg #[.int .i64 (slotQ zs x), .slice a' (slotB zs x).length d]) ∧ Below w.heap.size w w' ∧ BytesIn w.heap.size w'.heap.size w' a' (slotB zs x) := by
  have hX : BRes (w.alloc (.cells #[.int .i64 0, .slice none 0 0] 37)) w.heap.size 0 (.slice none 0 0) := ⟨by simp [go_sem], by simp [go_sem], by simp [go_sem], by simp [go_sem]⟩
  have g : Below w.heap.size w (w.alloc (.cells #[.int .i64 0, .slice none 0 0] 37)) := by go_grown
  have hr := hr.below g (Nat.le_refl _)
  obtain ⟨X, hX0⟩ : ∃ X, w.alloc (.cells #[.int .i64 0, .slice none 0 0] 37) = X := ⟨_, rfl⟩
  rw [hX0] at hX g hr
  go_enter Tryz.func10, Tryz.ntmps10
  go_wp2_with fail
  refine (loadPage_all a zs n c _ hn hm hnc hr hz).mono ?_
  rintro e w1 ⟨rfl, g1⟩
  have hX1 := hX.below g1
  have g : Below w.heap.size w w1 := g.trans (g1.mono g.size)
  clear hX0 hX g1 hr
  have hpl := pg_len zs
  obtain ⟨ys, hys⟩ : ∃ ys, ys = pg zs := ⟨_, rfl⟩
  have HY : Hid (ys = pg zs) := hys
  rw [← hys] at hpl ⊢
  clear hys
  go_upto_region 2 with (refine wpList_storePg rfl _ _ rfl _ ys rfl rfl hpl (filled 0 0) (arr_new _ (filled 0 0) rfl) ?_)
  generalize hZ : World.setRow _ w1.heap.size (pgC ys) = Z
  have hA : Arr Z w1.heap.size ys := by rw [← hZ]; exact (arr_new w1 (filled 0 0) rfl).put hpl
  have gZ : Below w1.heap.size w1 Z := by rw [← hZ]; exact setRow_below ((Below.refl _ _).alloc (Nat.le_refl _) _) (Nat.le_refl _) _
  have hX2 := hX1.below gZ
  have g : Below w.heap.size w Z := g.trans (gZ.mono g.size)
  have hlt := hX1.lt
  clear hZ gZ hX1
  by_cases hq : fltOf zs = 0
  · have hF := fine_of hz hq
    have hyz : ys = zs := by rw [HY.out, pg, if_pos hF.pg.len]
    subst hyz
    have hfew := hF.few
    rw [hq]
    have HQ0 : Hid (fltOf ys = 0) := hq
    clear hq
    generalize w1.heap.size = b at hA hlt
    go_wp2_with (refine wpList_loadPg rfl _ rfl _ rfl ys (by assumption) ?_)
    refine (cellAt_any ys x _ hF.pg hfew hx).mono ?_
    rintro e w3 ⟨⟨p, l, rfl, hpl2⟩, g3⟩
    have hX3 := hX2.below g3
    have hA3 := hA.grown g3
    have g : Below w.heap.size w w3 := g.trans (g3.mono g.size)
    clear g3 hX2 hA
    go_upto_region 5 with (fail)
    generalize hV : World.alloc w3 _ = V
    have gV : Below w3.heap.size w3 V := by rw [← hV]; exact (Below.refl _ _).alloc (Nat.le_refl _) _
    have s0 : V.cell? ⟨w3.heap.size, 0, none⟩ = some (.int .u64 p) := by rw [← hV]; simp [go_sem]
    have s1 : V.cell? ⟨w3.heap.size, 1, none⟩ = some (.int .u64 l) := by rw [← hV]; simp [go_sem]
    have hX4 := hX3.below gV
    have hA4 := hA3.grown gV
    have g : Below w.heap.size w V := g.trans (gV.mono g.size)
    have hl3 : w.heap.size < w3.heap.size := hX3.lt
    clear hV gV hX3 hA3
    generalize w3.heap.size = y at s0 s1 hl3
    cases hh : hasC ys x
    · have HV : Hid (slotQ ys x = 4 ∧ slotB ys x = []) := by constructor <;> simp [slotQ, slotB, HQ0.out, hh]
      clear hh hpl2
      obtain ⟨c0, c1, f0, f1⟩ := hX4
      go_wp2_with fail
      refine bodyPost_ret (v := .agg #[.int .i64 4, .slice none 0 0]) (by simp [results, Tryz.results10, go_sem, c0, c1]) rfl ?_
      exact ⟨none, 0, by rw [HV.out.1, HV.out.2]; rfl, by go_grown, by rw [HV.out.2]; exact .inl rfl⟩
    · obtain ⟨s, rfl, hs, hem⟩ := hasC_slot hh
      obtain ⟨hp, hl⟩ := hpl2 hh
      rw [Int.toNat_natCast] at hp hl
      have HV : Hid (slotQ ys (s : Int) = 0 ∧ slotB ys (s : Int) = cellOf ys s) := by constructor <;> simp [slotQ, slotB, HQ0.out, hh]
      have hlen := cellOf_length hF s hs
      have hplace := hF.place s hs
      have hne : ¬ (p = 0 ∧ l = 0) := fun e => by simp [empB, ← hp, ← hl, e.1, e.2] at hem
      rw [← hp, ← hl] at hplace
      rw [← hl] at hlen
      have hcell : cellOf ys s = (ys.drop p).take l := by unfold cellOf; rw [← hp, ← hl]
      have HC : Hid (cellOf ys s = (ys.drop p).take l) := hcell
      have hpl64 : p ≠ 0 ∧ l ≠ 0 ∧ p + l ≤ 64 := by omega
      obtain ⟨hp0, hl0, hpl3⟩ := hpl64
      obtain ⟨q, hq⟩ : ∃ q, q = p + l := ⟨_, rfl⟩
      have HQ : Hid (p + l = q) := hq.symm
      have hq64 : (q : Int) ≤ 64 := by omega
      have hpq : (p : Int) ≤ (q : Int) := by omega
      have hql : q - p = l := by omega
      have hp64 : ¬ (64 = p) := by omega
      have hln : ((ys.drop p).take l).length = l := by rw [← hcell]; exact hlen
      have hyw : y ≠ w.heap.size := by omega
      clear hpl2 hp hl hplace hne hem hs hcell hq hlen
      obtain ⟨c0, c1, f0, f1⟩ := hX4
      go_upto_region 7 with (fail)
      clear hh
      refine wp_region_held_drew (S := fun V => (∃ v : Value, V.cell? ⟨w.heap.size, 1, none⟩ = some v) ∧ V.cell? ⟨w.heap.size, 0, none⟩ = some (.int .i64 0) ∧ V.frozen? ⟨w.heap.size, 0, none⟩ = false ∧ V.frozen? ⟨w.heap.size, 1, none⟩ = false ∧ V.cell? ⟨y, 0, none⟩ = some (.int .u64 p) ∧ V.cell? ⟨y, 1, none⟩ = some (.int .u64 l) ∧ Arr V b ys ∧ Below w.heap.size w V) (by kernel_rfl) (slKeep ⟨⟨_, c1⟩, c0, f0, f1, s0, s1, hA4, g⟩ (Below.refl _ _).drew) (fun hHeld => ?_)
      clear c0 c1 f0 f1 s0 s1 hA4 g
      refine wpAnyH_take (i := 0) (v := .pointer (some ⟨y, 0, none⟩)) rfl (by kernel_rfl) (by kernel_rfl) (by kernel_rfl) (fun _ _ _ h => h) (Or.inl ⟨by kernel_rfl, fun u hSw => by (try dsimp only at hSw); go_simp; try with_reducible rfl⟩) hHeld ?_
      try simp only [List.getElem_toArray]
      try simp only [List.getElem_cons_succ]
      try simp only [List.getElem_cons_zero]
      try simp only [Act.put]
      try simp only [List.setIfInBounds_toArray]
      try simp only [List.set]
      refine wpAnyH_take (i := 1) (v := .int .u64 p) rfl (by kernel_rfl) (by kernel_rfl) (by kernel_rfl) (fun _ _ _ h => h) (Or.inl ⟨by kernel_rfl, fun u hSw => by (try dsimp only at hSw); go_simp; try with_reducible rfl⟩) hHeld ?_
      try simp only [List.getElem_toArray]
      try simp only [List.getElem_cons_succ]
      try simp only [List.getElem_cons_zero]
      try simp only [Act.put]
      try simp only [List.setIfInBounds_toArray]
      try simp only [List.set]
      refine wpAnyH_take (i := 2) (v := .agg #[.int .u64 p, .int .u64 l]) rfl (by kernel_rfl) (by kernel_rfl) (by kernel_rfl) (fun _ _ _ h => h) (Or.inl ⟨by kernel_rfl, fun u hSw => by (try dsimp only at hSw); go_simp; try with_reducible rfl⟩) hHeld ?_
      try simp only [List.getElem_toArray]
      try simp only [List.getElem_cons_succ]
      try simp only [List.getElem_cons_zero]
      try simp only [Act.put]
      try simp only [List.setIfInBounds_toArray]
      try simp only [List.set]
      refine wpAnyH_ready (rs := [3]) (by kernel_rfl) (by simp) ?_
      refine AllReadyH.cons rfl (fun K hK => ?_) AllReadyH.nil
      go_simp
      go_wp2_with (go_at_call 25; refine (spanEnd_any p l _ (by omega) (by omega)).mono ?_; rintro e w' ⟨rfl, hb⟩; rw [HQ.out])
      refine hK.out _ _ (slKeep hHeld hb) (fun hHeld => ?_)
      clear hK K
      try simp only [Act.put]
      try simp only [List.setIfInBounds_toArray]
      try simp only [List.set]
      refine wpAnyH_take (i := 4) (v := .slice (some ⟨b, p, none⟩) l (64 - p)) rfl (by kernel_rfl) (by kernel_rfl) (by kernel_rfl) (fun _ _ _ h => h) (Or.inl ⟨by kernel_rfl, fun u hSw => by (try dsimp only at hSw); go_simp; try with_reducible rfl⟩) hHeld ?_
      try simp only [List.getElem_toArray]
      try simp only [List.getElem_cons_succ]
      try simp only [List.getElem_cons_zero]
      try simp only [Act.put]
      try simp only [List.setIfInBounds_toArray]
      try simp only [List.set]
      have hwp := hHeld.2.2.2.2.2.2.2.size
      have hwx := World.block_lt_of_cell? _ _ hHeld.2.1
      refine wpAnyH_ready (rs := [5]) (by kernel_rfl) (by simp) ?_
      refine AllReadyH.cons rfl (fun K hK => ?_) AllReadyH.nil
      go_simp
      go_wp2_with (go_at_call 24; refine (clone_any b p l (64 - p) _ _ hln (by omega) (by omega) (Arr.cellReads hHeld.2.2.2.2.2.2.1 p l hpl3)).mono ?_; rintro e w' ⟨a', d, rfl, hb, hy⟩)
      refine hK.out _ _ (slKeep hHeld hb) (fun hHeld => ?_)
      clear hK K
      try simp only [Act.put]
      try simp only [List.setIfInBounds_toArray]
      try simp only [List.set]
      refine wpAnyH_take (i := 6) (v := .agg #[.int .i64 0, .slice a' l d]) rfl (by kernel_rfl) (by kernel_rfl) (by kernel_rfl) (fun _ _ _ h => h) (Or.inl ⟨by kernel_rfl, fun u hSw => by (try dsimp only at hSw); go_simp; try with_reducible rfl⟩) hHeld ?_
      try simp only [List.getElem_toArray]
      try simp only [List.getElem_cons_succ]
      try simp only [List.getElem_cons_zero]
      try simp only [Act.put]
      try simp only [List.setIfInBounds_toArray]
      try simp only [List.set]
      refine wpAnyH_ready (rs := [7]) (by kernel_rfl) (by simp) ?_
      refine AllReadyH.cons rfl (fun K hK => ?_) AllReadyH.nil
      obtain ⟨⟨v, e1⟩, e0, f0, f1, x0, x1, hA, g⟩ := id hHeld
      go_simp
      go_wp2_with fail
      generalize hV : World.setCell (World.setCell _ _ _) _ _ = V
      have c0 : V.cell? ⟨w.heap.size, 0, none⟩ = some (.int .i64 0) := by rw [← hV]; simp [go_sem, e0]
      have c1 : V.cell? ⟨w.heap.size, 1, none⟩ = some (.slice a' l d) := by rw [← hV]; simp [go_sem, e1]
      have gV : Below w.heap.size w V := by rw [← hV]; exact (g.setCell (Nat.le_refl _) _).setCell (Nat.le_refl _) _
      have hyV : BytesIn w.heap.size V.heap.size V a' ((ys.drop p).take l) := by
        rw [← hV]
        exact ((hy.setCell (by simp; omega) _).setCell (by simp; omega) _).mono hwp (by simp)
      have hHeld : SlS w ys w.heap.size y b p l V := ⟨⟨_, c1⟩, c0, by rw [← hV, World.frozen?_setCell, World.frozen?_setCell]; exact f0, by rw [← hV, World.frozen?_setCell, World.frozen?_setCell]; exact f1, by rw [← hV]; simp [go_sem, x0], by rw [← hV]; simp [go_sem, x1], by rw [← hV]; exact (hA.other _ _ (by simp; omega)).other _ _ (by simp; omega), gV⟩
      clear hV e0 e1 f0 f1 x0 x1 g hA
      refine hK.out _ _ hHeld (fun hHeld => ?_)
      clear hK K
      refine wpAnyH_done (by kernel_rfl) ?_ _
      go_wp2_with fail
      refine bodyPost_ret (v := .agg #[.int .i64 0, .slice a' l d]) (by simp [results, Tryz.results10, go_sem, c0, c1]) rfl ?_
      exact ⟨a', d, by rw [HV.out.1, HV.out.2, HC.out, hln], gV, by rw [HV.out.2, HC.out]; exact hyV⟩
  · have HV : Hid (slotQ zs x = fltOf zs ∧ slotB zs x = []) := by constructor <;> simp [slotQ, slotB, hq]
    have dq : (fltOf zs != 0) = true := by simpa using hq
    obtain ⟨q, hqq⟩ : ∃ q, q = fltOf zs := ⟨_, rfl⟩
    rw [← hqq] at HV dq ⊢
    clear hq hqq
    obtain ⟨c0, c1, f0, f1⟩ := hX2
    go_wp2_with fail
    refine bodyPost_ret (v := .agg #[.int .i64 q, .slice none 0 0]) (by simp [results, Tryz.results10, go_sem, c0, c1]) rfl ?_
    exact ⟨none, 0, by rw [HV.out.1, HV.out.2]; rfl, by go_grown, by rw [HV.out.2]; exact .inl rfl⟩

end Go.Proofs.YtdgonddimenmdaaGreat
