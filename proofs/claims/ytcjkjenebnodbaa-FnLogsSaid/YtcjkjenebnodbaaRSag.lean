/-
  Copied, appended and synced logs in slices of their own.
-/
import Derived.Test.YtcjkjenebnodbaaRSap

namespace Go.Proofs.Ytcjkjenebnodbaa
open Go.RowKit
set_option linter.unusedVariables false

theorem Gb.low {base b' : Nat} {w : World} {v : Value} {xs : List Int} (h : Gb base w v xs) (hb : b' ≤ base) : Gb b' w v xs := by
  refine ⟨h.1, ?_⟩
  rcases h.2 with h0 | ⟨g, cap, cur, hv, hg0, hg, hr⟩
  · exact .inl h0
  · exact .inr ⟨g, cap, cur, hv, Nat.le_trans hb hg0, hg, hr⟩
theorem Gb.under {lo B : Nat} {w w' : World} {v : Value} {xs : List Int} (h : Gb lo w v xs) (hu : ∀ g, v.ownBlock = some g → g < B) (hb : Below B w w') : Gb lo w' v xs := by
  refine ⟨h.1, ?_⟩
  rcases h.2 with h0 | ⟨g, cap, cur, hv, hg0, hg, hr⟩
  · exact .inl h0
  · exact .inr ⟨g, cap, cur, hv, hg0, (hb.block g (hu g (by rw [hv]; rfl))).trans hg, hr⟩
theorem Gb.turned {base lo hi : Nat} {w w' : World} {v : Value} {xs : List Int} (h : Gb base w v xs) (ht : Turned lo hi w w') (hb : hi ≤ base) : Gb base w' v xs := by
  refine ⟨h.1, ?_⟩
  rcases h.2 with h0 | ⟨g, cap, cur, hv, hg0, hg, hr⟩
  · exact .inl h0
  · exact .inr ⟨g, cap, cur, hv, hg0, (ht.block g (Array.getElem?_eq_some_iff.1 hg).1 (by omega)).trans hg, hr⟩

/-- A log in two slices of its own, the one below mid. -/
structure Lw (lo mid : Nat) (w : World) (x y : Option Addr) (xs ys : List Int) (n c m d : Nat) : Prop where
  s : Gb lo w (.slice x n c) xs
  up : ∀ g, (Value.slice x n c).ownBlock = some g → g < mid
  l : Gb mid w (.slice y m d) ys
  h1 : lo ≤ mid
  h2 : mid ≤ w.heap.size
def CgPost (w : World) (xs ys : List Int) (n m : Nat) (e : Ending) (w' : World) : Prop := ∃ p cp r cr mid, e = .returned (.agg #[.slice p n cp, .slice r m cr]) ∧ Below w.heap.size w w' ∧ Lw w.heap.size mid w' p r xs ys n cp m cr
def AgPost (w : World) (xs us : List Int) (n k : Nat) (e : Ending) (w' : World) : Prop := ∃ p cp r cr mid, e = .returned (.tuple #[.agg #[.slice p n cp, .slice r k cr], .bool true]) ∧ Below w.heap.size w w' ∧ Lw w.heap.size mid w' p r xs us n cp k cr
def SgPost (w : World) (xs : List Int) (e : Ending) (w' : World) : Prop := ∃ p cp mid, e = .returned (.agg #[.slice p xs.length cp, .slice none 0 0]) ∧ Below w.heap.size w w' ∧ Lw w.heap.size mid w' p none xs [] xs.length cp 0 0

set_option maxRecDepth 10000 in
set_option maxHeartbeats 4000000 in
theorem l5CopyG_any (x y : Option Addr) (xs ys : List Int) (n c m d : Nat) (w : World) (hn : xs.length = n) (hm : ys.length = m) (hn1 : n ≤ 1048576) (hm1 : m ≤ 1048576) (hx : Reads w x xs) (hy : Reads w y ys) :
    Calls Try.prog 116 #[.agg #[.slice x n c, .slice y m d]] w fun e w' => CgPost w xs ys n m e w' := by
  have HCx : Hid (∀ X, Below w.heap.size w X → Calls Try.prog 119 #[.slice x n c] X fun e w' => ∃ v, e = .returned v ∧ Below X.heap.size X w' ∧ Gb X.heap.size w' v xs) := fun X g => l2Copy_gen x xs n c X hn (by omega) (hx.below g (Nat.le_refl _))
  have HCy : Hid (∀ X, Below w.heap.size w X → Calls Try.prog 119 #[.slice y m d] X fun e w' => ∃ v, e = .returned v ∧ Below X.heap.size X w' ∧ Gb X.heap.size w' v ys) := fun X g => l2Copy_gen y ys m d X hm (by omega) (hy.below g (Nat.le_refl _))
  have HN : Hid (xs.length = n) := hn
  have HM : Hid (ys.length = m) := hm
  clear hx hy hn hm
  go_enter Try.func116, Try.ntmps116
  go_upto_region 1 with (fail)
  generalize hY : World.alloc _ _ = Y
  have hD : SyS w x y n c m d Y := by rw [← hY]; exact ⟨⟨by simp [go_sem], by simp [go_sem]⟩, ⟨by simp [go_sem], by simp [go_sem], by simp [go_sem], by simp [go_sem], by go_grown⟩⟩
  clear hY
  refine wp_region_held_drew (S := fun V => LgAt V w.heap.size x n c y m d) (by kernel_rfl) (hD.up (Below.refl _ _).drew).r (fun hHeld => ?_)
  have hA := (hD.up (Below.refl _ _).drew).a
  generalize Y.drew = D at hHeld hA ⊢
  clear hD
  refine wpAnyH_take (i := 0) (v := ?v1) rfl (by kernel_rfl) (by kernel_rfl) (by kernel_rfl) (fun _ _ _ h => h) (Or.inl ⟨by kernel_rfl, ?h1⟩) hHeld ?_
  case h1 => intro u hSw; (try dsimp only at hSw); go_simp; try with_reducible rfl
  try simp only [List.getElem_toArray]
  try simp only [List.getElem_cons_succ]
  try simp only [List.getElem_cons_zero]
  try simp only [Act.put]
  try simp only [List.setIfInBounds_toArray]
  try simp only [List.set]
  refine wpAnyH_take (i := 1) (v := ?v2) rfl (by kernel_rfl) (by kernel_rfl) (by kernel_rfl) (fun _ _ _ h => h) (Or.inl ⟨by kernel_rfl, ?h2⟩) hHeld ?_
  case h2 => intro u hSw; obtain ⟨q0, q1⟩ := hSw; go_simp; try with_reducible rfl
  try simp only [List.getElem_toArray]
  try simp only [List.getElem_cons_succ]
  try simp only [List.getElem_cons_zero]
  try simp only [Act.put]
  try simp only [List.setIfInBounds_toArray]
  try simp only [List.set]
  refine wpAnyH_take (i := 3) (v := ?v3) rfl (by kernel_rfl) (by kernel_rfl) (by kernel_rfl) (fun _ _ _ h => h) (Or.inl ⟨by kernel_rfl, ?h3⟩) hHeld ?_
  case h3 => intro u hSw; (try dsimp only at hSw); go_simp; try with_reducible rfl
  try simp only [List.getElem_toArray]
  try simp only [List.getElem_cons_succ]
  try simp only [List.getElem_cons_zero]
  try simp only [Act.put]
  try simp only [List.setIfInBounds_toArray]
  try simp only [List.set]
  refine wpAnyH_take (i := 4) (v := ?v4) rfl (by kernel_rfl) (by kernel_rfl) (by kernel_rfl) (fun _ _ _ h => h) (Or.inl ⟨by kernel_rfl, ?h4⟩) hHeld ?_
  case h4 => intro u hSw; obtain ⟨q0, q1⟩ := hSw; go_simp; try with_reducible rfl
  try simp only [List.getElem_toArray]
  try simp only [List.getElem_cons_succ]
  try simp only [List.getElem_cons_zero]
  try simp only [Act.put]
  try simp only [List.setIfInBounds_toArray]
  try simp only [List.set]
  refine wpAnyH_ready (rs := [2]) (by kernel_rfl) (by simp) ?_
  refine AllReadyH.cons rfl (fun K hK => ?_) AllReadyH.nil
  go_simp
  go_wp2_with (go_at_call 119; refine (HCx.out _ hA.g).mono ?_; rintro e w3 ⟨v3, rfl, g3, hG3⟩)
  refine hK.out _ _ (hHeld.up g3) (fun hHeld => ?_)
  clear hK K
  have hDs := hA.lt
  have hA3 := hA.up g3
  have hs3 := g3.size
  obtain ⟨p, cp, rfl, hcp, hcm', hBy, _⟩ := hG3.shape
  rw [HN.out] at hcp ⊢
  have HGp : Hid (Gb D.heap.size w3 (.slice p n cp) xs) := by have h := hG3; rw [HN.out] at h; exact h
  have HUp : Hid (∀ g, (Value.slice p n cp).ownBlock = some g → g < w3.heap.size) := fun g e => (World.ownsRow.lt HGp.out g e).2
  clear hG3 hBy
  try simp only [Act.put]
  try simp only [List.setIfInBounds_toArray]
  try simp only [List.set]
  refine wpAnyH_ready (rs := [5]) (by kernel_rfl) (by simp) ?_
  refine AllReadyH.cons rfl (fun K hK => ?_) AllReadyH.nil
  go_simp
  go_wp2_with (go_at_call 119; refine (HCy.out _ hA3.g).mono ?_; rintro e w4 ⟨v4, rfl, g4, hG4⟩)
  refine hK.out _ _ (hHeld.up g4) (fun hHeld => ?_)
  clear hK K
  have hA4 := hA3.up g4
  have hs4 := g4.size
  have HGp : Hid (Gb D.heap.size w4 (.slice p n cp) xs) := HGp.out.grown g4
  obtain ⟨r, cr, rfl, hcr, hcm4, _, _⟩ := hG4.shape
  rw [HM.out] at hcr ⊢
  have HG : Hid (Gb w3.heap.size w4 (.slice r m cr) ys) := by have h := hG4; rw [HM.out] at h; exact h
  clear hG4
  try simp only [Act.put]
  try simp only [List.setIfInBounds_toArray]
  try simp only [List.set]
  refine wpAnyH_take (i := 6) (v := ?v5) rfl (by kernel_rfl) (by kernel_rfl) (by kernel_rfl) (fun _ _ _ h => h) (Or.inl ⟨by kernel_rfl, ?h5⟩) hHeld ?_
  case h5 => intro u hSw; (try dsimp only at hSw); go_simp; try with_reducible rfl
  try simp only [List.getElem_toArray]
  try simp only [List.getElem_cons_succ]
  try simp only [List.getElem_cons_zero]
  try simp only [Act.put]
  try simp only [List.setIfInBounds_toArray]
  try simp only [List.set]
  obtain ⟨a0, a1, f0, f1, hg⟩ := hA4
  have T : Turned (w.heap.size + 1) (w.heap.size + 2) w4 ((w4.setCell ⟨w.heap.size + 1, 0, none⟩ (.slice p n cp)).setCell ⟨w.heap.size + 1, 1, none⟩ (.slice r m cr)) := ((Turned.refl _ _ w4).setCell (p := ⟨w.heap.size + 1, 0, none⟩) (by simp) (by simp) _).setCell (p := ⟨w.heap.size + 1, 1, none⟩) (by simp) (by simp) _
  have HBz : Hid (Gb D.heap.size ((w4.setCell ⟨w.heap.size + 1, 0, none⟩ (.slice p n cp)).setCell ⟨w.heap.size + 1, 1, none⟩ (.slice r m cr)) (.slice p n cp) xs) := ownsRow_setLow (ownsRow_setLow HGp.out (by simp only; omega) _) (by simp only; omega) _
  have HGz : Hid (Gb w3.heap.size ((w4.setCell ⟨w.heap.size + 1, 0, none⟩ (.slice p n cp)).setCell ⟨w.heap.size + 1, 1, none⟩ (.slice r m cr)) (.slice r m cr) ys) := ownsRow_setLow (ownsRow_setLow HG.out (by simp only; omega) _) (by simp only; omega) _
  refine wpAnyH_ready (rs := [7]) (by kernel_rfl) (by simp) ?_
  refine AllReadyH.cons rfl (fun K hK => ?_) AllReadyH.nil
  go_simp
  refine hK.out _ _ (hHeld.turned T (.inl (by omega))) (fun hHeld => ?_)
  clear hK K
  try simp only [Act.put]
  try simp only [List.setIfInBounds_toArray]
  try simp only [List.set]
  refine wpAnyH_done (by kernel_rfl) ?_ _
  clear hHeld
  go_wp2_with fail
  refine bodyPost_ret (v := .agg #[.slice p n cp, .slice r m cr]) (by simp [results, Try.results116, go_sem, *]) rfl ?_
  exact ⟨p, cp, r, cr, w3.heap.size, rfl, by go_grown, ⟨HBz.out.low (by omega), HUp.out, HGz.out, by omega, by simp; omega⟩⟩

set_option maxRecDepth 10000 in
set_option maxHeartbeats 4000000 in
theorem l5AppendG_any (x y : Option Addr) (xs ys : List Int) (n c m d b : Nat) (k tx pg : Int) (a : Option Addr) (l e' : Nat) (P : Nat → Int) (A : Nat → Option Addr) (C : Nat → Nat) (Z : Nat → List Int) (w : World) (hn : xs.length = n) (hm : ys.length = m) (hn1 : n ≤ 1048576) (hm1 : m ≤ 1048576) (hx : Reads w x xs) (hy : Reads w y ys)
    (ho : RunsOk l Z) (hr : RunsRead w a l P A C Z) (hb : RcAt w b k tx pg a l e') :
    Calls Try.prog 80 #[.agg #[.slice x n c, .slice y m d], .pointer (some ⟨b, 0, none⟩)] w fun e w' => (16000 < n + m + (packB k tx pg l P Z).length → e = .returned (.tuple #[.agg #[.slice x n c, .slice y m d], .bool false]) ∧ Below w.heap.size w w') ∧ (¬ 16000 < n + m + (packB k tx pg l P Z).length → AgPost w xs (ys ++ packB k tx pg l P Z) n (m + (packB k tx pg l P Z).length) e w') := by
  have HP : Hid (∀ X, Below w.heap.size w X → Calls Try.prog 72 #[.pointer (some ⟨b, 0, none⟩)] X fun e w' => ∃ g d, e = .returned (.slice (some ⟨g, 0, none⟩) (packB k tx pg l P Z).length d) ∧ (packB k tx pg l P Z).length ≤ d ∧ Below X.heap.size X w' ∧ BytesIn X.heap.size w'.heap.size w' (some ⟨g, 0, none⟩) (packB k tx pg l P Z)) := fun X g => l4Pack_any b k tx pg a l e' P A C Z X ho (hr.below g (Nat.le_refl _)) ⟨(g.cell (World.block_lt_of_cell? w _ hb.c0)).trans hb.c0, (g.cell (World.block_lt_of_cell? w _ hb.c1)).trans hb.c1, (g.cell (World.block_lt_of_cell? w _ hb.c2)).trans hb.c2, (g.cell (World.block_lt_of_cell? w _ hb.c3)).trans hb.c3⟩
  have hul : (packB k tx pg l P Z).length ≤ 255 := by rw [packB_len]; exact ho.tot
  have HC : Hid (∀ X, Below w.heap.size w X → Calls Try.prog 116 #[.agg #[.slice x n c, .slice y m d]] X fun e w' => CgPost X xs ys n m e w') := fun X g => l5CopyG_any x y xs ys n c m d X hn hm hn1 hm1 (hx.below g (Nat.le_refl _)) (hy.below g (Nat.le_refl _))
  generalize packB k tx pg l P Z = us at HP hul ⊢
  obtain ⟨j, hjj⟩ : ∃ j, us.length = j := ⟨_, rfl⟩
  rw [hjj] at HP hul ⊢
  have HJ : Hid (us.length = j) := hjj
  have HM : Hid (ys.length = m) := hm
  clear hx hy ho hr hb hn hm hjj
  go_enter Try.func80, Try.ntmps80
  go_upto_region 1 with (fail)
  generalize hY : World.alloc _ _ = Y
  have hA : A2 w (w.heap.size + 1) Y := by rw [← hY]; exact ⟨by simp [go_sem], by simp [go_sem], by simp [go_sem], by simp [go_sem], by go_grown⟩
  have r : LgAt Y w.heap.size x n c y m d := by rw [← hY]; exact ⟨by simp [go_sem], by simp [go_sem]⟩
  clear hY
  go_wp2_with fail
  refine (HP.out _ hA.g).mono ?_
  rintro e w1 ⟨gu, du, rfl, hdu, g1, hu⟩
  have hlt := hA.lt
  have hA := hA.up g1
  have r := r.up g1
  have hs1 := g1.size
  have HU : Hid (BytesIn (w.heap.size + 2) w1.heap.size w1 (some ⟨gu, 0, none⟩) us) := hu.mono (by omega) (Nat.le_refl _)
  clear g1 hu
  obtain ⟨r0, r1⟩ := r
  by_cases hbig : 16000 < n + m + j
  · have hb : (16000 : Int) < (n : Int) + (m : Int) + (j : Int) := by omega
    have hg := hA.g
    obtain ⟨a0, a1, f0, f1, _⟩ := hA
    go_wp2_with fail
    refine bodyPost_ret (v := .tuple #[.agg #[.slice x n c, .slice y m d], .bool false]) (by simp [results, Try.results80, go_sem, *]) rfl ?_
    exact ⟨fun _ => ⟨rfl, by go_grown⟩, fun h => absurd hbig h⟩
  · have hb : ¬ ((16000 : Int) < (n : Int) + (m : Int) + (j : Int)) := by omega
    go_wp2_with fail
    refine (HC.out _ hA.g).mono ?_
    intro e w2 hp
    obtain ⟨p, cp, r, cr, mid, rfl, g2, hLw⟩ := hp
    have hG := hLw.l
    have hm1' := hLw.h1
    have hm2' := hLw.h2
    have HUp : Hid (∀ g, (Value.slice p n cp).ownBlock = some g → g < mid) := hLw.up
    have hlt1 := hA.lt
    have hA := hA.up g2
    have HU : Hid (BytesIn (w.heap.size + 2) w2.heap.size w2 (some ⟨gu, 0, none⟩) us) := (HU.out.below g2).mono (Nat.le_refl _) g2.size
    have hs2 := g2.size
    have hBy : Gb (w.heap.size + 2) w2 (.slice p n cp) xs := hLw.s.low (by omega)
    clear hLw
    clear g2 r0 r1
    go_upto_region 5 with (fail)
    generalize hY2 : World.alloc w2 _ = Y2
    have gY : Below w2.heap.size w2 Y2 := by rw [← hY2]; go_grown
    have hsY : Y2.heap.size = w2.heap.size + 1 := by rw [← hY2]; simp
    have b0 : Y2.cell? ⟨w2.heap.size, 0, none⟩ = some (.slice p n cp) := by rw [← hY2]; simp [go_sem]
    have b1 : Y2.cell? ⟨w2.heap.size, 1, none⟩ = some (.slice r m cr) := by rw [← hY2]; simp [go_sem]
    have bf : Y2.frozen? ⟨w2.heap.size, 1, none⟩ = false := by rw [← hY2]; simp [go_sem]
    have hA := hA.up gY
    have HGl : Hid (∀ g, (Value.slice r m cr).ownBlock = some g → mid ≤ g ∧ g < w2.heap.size) := fun g e => World.ownsRow.lt hG g e
    have hG := hG.grown gY
    have hBy := hBy.grown gY
    have HU : Hid (Reads Y2 (some ⟨gu, 0, none⟩) us) := (HU.out.below gY).reads
    clear hY2 gY
    generalize w2.heap.size = bx at b0 b1 bf hsY hm2' hs2 HGl ⊢
    go_wp2_with (at_builtin; refine wpList_append_bytes _ rfl _ _ rfl mid _ ys us (some ⟨gu, 0, none⟩) j du rfl rfl HJ.out hG HU.out ?n1 ?n2 ?_)
    case n1 => rw [HM.out, HJ.out]; omega
    case n2 => omega
    intro v' w6 hG6 hgr6 hat6
    have g6 : Below mid Y2 w6 := Below.grown (Below.refl _ _) hgr6 (by omega) (fun q e => (World.ownsRow.lt hG q e).1)
    have hA := hA.low g6 (by omega) (by omega)
    have hBy := hBy.under HUp.out g6
    have hbk := hgr6.block bx (by omega) (fun e => by have := HGl.out bx e.symm; omega)
    have b0 := (World.cell?_of_block (a := ⟨bx, 0, none⟩) hbk).trans b0
    have b1 := (World.cell?_of_block (a := ⟨bx, 1, none⟩) hbk).trans b1
    have bf := (World.frozen?_of_block (a := ⟨bx, 1, none⟩) hbk).trans bf
    have hs6 := hgr6.size
    have hne : v'.ownBlock ≠ some bx := fun e => by
      rcases hat6 with h | h
      · have := HGl.out bx (h.symm.trans e); omega
      · rw [h] at e; injection e with e; omega
    obtain ⟨r', cr', hv', hcr', hcm6, _, _⟩ := hG6.shape
    subst hv'
    have hk6 : (ys ++ us).length = m + j := by rw [List.length_append, HM.out, HJ.out]
    rw [hk6] at hcr' hne ⊢
    have hG6 : Gb mid w6 (.slice r' (m + j) cr') (ys ++ us) := by have h := hG6; rw [hk6] at h; exact h
    have HK6 : Hid ((ys ++ us).length = m + j) := hk6
    have hG7 := hG6.setOther (p := ⟨bx, 1, none⟩) hne (.slice r' (m + j) cr')
    have hG9 : Gb mid (((w6.setCell ⟨bx, 1, none⟩ (.slice r' (m + j) cr')).setCell ⟨w.heap.size + 1, 0, none⟩ (.slice p n cp)).setCell ⟨w.heap.size + 1, 1, none⟩ (.slice r' (m + j) cr')) (.slice r' (m + j) cr') (ys ++ us) := ownsRow_setLow (ownsRow_setLow hG7 (by simp only; omega) _) (by simp only; omega) _
    have HBz : Hid (Gb (w.heap.size + 2) (((w6.setCell ⟨bx, 1, none⟩ (.slice r' (m + j) cr')).setCell ⟨w.heap.size + 1, 0, none⟩ (.slice p n cp)).setCell ⟨w.heap.size + 1, 1, none⟩ (.slice r' (m + j) cr')) (.slice p n cp) xs) := ownsRow_setLow (ownsRow_setLow (hBy.setOther (p := ⟨bx, 1, none⟩) (fun e => by have := HUp.out bx e; omega) _) (by simp only; omega) _) (by simp only; omega) _
    have HGz : Hid (Gb mid (((w6.setCell ⟨bx, 1, none⟩ (.slice r' (m + j) cr')).setCell ⟨w.heap.size + 1, 0, none⟩ (.slice p n cp)).setCell ⟨w.heap.size + 1, 1, none⟩ (.slice r' (m + j) cr')) (.slice r' (m + j) cr') (ys ++ us)) := hG9
    have hbw : ¬ bx = w.heap.size + 1 := by omega
    have hg := hA.g
    obtain ⟨a0, a1, f0, f1, _⟩ := hA
    clear hG hG6 hG7 hG9 hgr6 hat6 g6 hbk hBy hk6
    go_wp2_with fail
    refine bodyPost_ret (v := .tuple #[.agg #[.slice p n cp, .slice r' (m + j) cr'], .bool true]) (by simp [results, Try.results80, go_sem, *]) rfl ?_
    exact ⟨fun h => absurd h hbig, fun _ => ⟨p, cp, r', cr', mid, rfl, by go_grown, ⟨HBz.out.low (by omega), HUp.out, HGz.out, by omega, by simp; omega⟩⟩⟩

set_option maxRecDepth 10000 in
set_option maxHeartbeats 4000000 in
theorem l5SyncG_any (x y : Option Addr) (xs ys : List Int) (n c m d : Nat) (w : World) (hn : xs.length = n) (hm : ys.length = m) (hn1 : n ≤ 1048576) (hm1 : m ≤ 1048576) (hx : Reads w x xs) (hy : Reads w y ys) :
    Calls Try.prog 106 #[.agg #[.slice x n c, .slice y m d]] w fun e w' => SgPost w (xs ++ ys) e w' := by
  have HCp : Hid (∀ X, Below w.heap.size w X → Calls Try.prog 119 #[.slice x n c] X fun e w' => ∃ v, e = .returned v ∧ Below X.heap.size X w' ∧ Gb X.heap.size w' v xs) := fun X g => l2Copy_gen x xs n c X hn (by omega) (hx.below g (Nat.le_refl _))
  have HYr : Hid (∀ X, Below w.heap.size w X → Reads X y ys) := fun X g => hy.below g (Nat.le_refl _)
  have HN : Hid (xs.length = n) := hn
  have HM : Hid (ys.length = m) := hm
  clear hx hy hn hm
  go_enter Try.func106, Try.ntmps106
  go_upto_region 1 with (fail)
  generalize hY : World.alloc _ _ = Y
  have hD : SyS w x y n c m d Y := by rw [← hY]; exact ⟨⟨by simp [go_sem], by simp [go_sem]⟩, ⟨by simp [go_sem], by simp [go_sem], by simp [go_sem], by simp [go_sem], by go_grown⟩⟩
  clear hY
  refine wp_region_held_drew (S := fun V => LgAt V w.heap.size x n c y m d) (by kernel_rfl) (hD.up (Below.refl _ _).drew).r (fun hHeld => ?_)
  have hA := (hD.up (Below.refl _ _).drew).a
  generalize Y.drew = D at hHeld hA ⊢
  clear hD
  have hD := hHeld
  refine wpAnyH_take (i := 0) (v := ?v1) rfl (by kernel_rfl) (by kernel_rfl) (by kernel_rfl) (fun _ _ _ h => h) (Or.inl ⟨by kernel_rfl, ?h1⟩) hHeld ?_
  case h1 => intro u hSw; (try dsimp only at hSw); go_simp; try with_reducible rfl
  try simp only [List.getElem_toArray]
  try simp only [List.getElem_cons_succ]
  try simp only [List.getElem_cons_zero]
  try simp only [Act.put]
  try simp only [List.setIfInBounds_toArray]
  try simp only [List.set]
  refine wpAnyH_take (i := 1) (v := ?v2) rfl (by kernel_rfl) (by kernel_rfl) (by kernel_rfl) (fun _ _ _ h => h) (Or.inl ⟨by kernel_rfl, ?h2⟩) hHeld ?_
  case h2 => intro u hSw; obtain ⟨q0, q1⟩ := hSw; go_simp; try with_reducible rfl
  try simp only [List.getElem_toArray]
  try simp only [List.getElem_cons_succ]
  try simp only [List.getElem_cons_zero]
  try simp only [Act.put]
  try simp only [List.setIfInBounds_toArray]
  try simp only [List.set]
  refine wpAnyH_take (i := 3) (v := ?v3) rfl (by kernel_rfl) (by kernel_rfl) (by kernel_rfl) (fun _ _ _ h => h) (Or.inl ⟨by kernel_rfl, ?h3⟩) hHeld ?_
  case h3 => intro u hSw; (try dsimp only at hSw); go_simp; try with_reducible rfl
  try simp only [List.getElem_toArray]
  try simp only [List.getElem_cons_succ]
  try simp only [List.getElem_cons_zero]
  try simp only [Act.put]
  try simp only [List.setIfInBounds_toArray]
  try simp only [List.set]
  refine wpAnyH_take (i := 4) (v := ?v4) rfl (by kernel_rfl) (by kernel_rfl) (by kernel_rfl) (fun _ _ _ h => h) (Or.inl ⟨by kernel_rfl, ?h4⟩) hHeld ?_
  case h4 => intro u hSw; obtain ⟨q0, q1⟩ := hSw; go_simp; try with_reducible rfl
  try simp only [List.getElem_toArray]
  try simp only [List.getElem_cons_succ]
  try simp only [List.getElem_cons_zero]
  try simp only [Act.put]
  try simp only [List.setIfInBounds_toArray]
  try simp only [List.set]
  refine wpAnyH_ready (rs := [2]) (by kernel_rfl) (by simp) ?_
  refine AllReadyH.cons rfl (fun K hK => ?_) AllReadyH.nil
  go_simp
  go_wp2_with (go_at_call 119; refine (HCp.out _ hA.g).mono ?_; rintro e w3 ⟨v3, rfl, g3, hG3⟩)
  refine hK.out _ _ (hD.up g3) (fun hHeld => ?_)
  clear hK K
  have hA3 := hA.up g3
  try simp only [Act.put]
  try simp only [List.setIfInBounds_toArray]
  try simp only [List.set]
  refine wpAnyH_ready (rs := [5]) (by kernel_rfl) (by simp) ?_
  refine AllReadyH.cons rfl (fun K hK => ?_) AllReadyH.nil
  rw [if_pos (by kernel_rfl)]
  refine wp_append_bytes _ _ _ rfl D.heap.size v3 xs ys y m d rfl rfl HM.out hG3 (HYr.out _ hA3.g) (by rw [HN.out, HM.out]; omega) g3.size ?_
  intro v4 w4 hG4 hgr4 hat4
  have g4 : Below D.heap.size D w4 := Below.grown g3 hgr4 g3.size (fun q e => (World.ownsRow.lt hG3 q e).1)
  obtain ⟨p, cp, rfl, hcp, hcm', hBy, _⟩ := hG4.shape
  have hA4 := hA.up g4
  have HG0 : Hid (Gb D.heap.size w4 (.slice p (xs ++ ys).length cp) (xs ++ ys)) := hG4
  generalize hk : (xs ++ ys).length = k at hcp HG0 ⊢
  have HK : Hid ((xs ++ ys).length = k) := hk
  clear hk hBy
  refine hK.out _ _ (hD.up g4) (fun hHeld => ?_)
  clear hK K hgr4 hat4 hG3 hG4 g3
  try simp only [Act.put]
  try simp only [List.setIfInBounds_toArray]
  try simp only [List.set]
  refine wpAnyH_take (i := 6) (v := ?v5) rfl (by kernel_rfl) (by kernel_rfl) (by kernel_rfl) (fun _ _ _ h => h) (Or.inl ⟨by kernel_rfl, ?h5⟩) hHeld ?_
  case h5 => intro u hSw; (try dsimp only at hSw); go_simp; try with_reducible rfl
  try simp only [List.getElem_toArray]
  try simp only [List.getElem_cons_succ]
  try simp only [List.getElem_cons_zero]
  try simp only [Act.put]
  try simp only [List.setIfInBounds_toArray]
  try simp only [List.set]
  have hDs := hA.lt
  have hs4 := g4.size
  obtain ⟨a0, a1, f0, f1, hg⟩ := hA4
  have T : Turned (w.heap.size + 1) (w.heap.size + 2) w4 ((w4.setCell ⟨w.heap.size + 1, 0, none⟩ (.slice p k cp)).setCell ⟨w.heap.size + 1, 1, none⟩ (.slice none 0 0)) := ((Turned.refl _ _ w4).setCell (p := ⟨w.heap.size + 1, 0, none⟩) (by simp) (by simp) _).setCell (p := ⟨w.heap.size + 1, 1, none⟩) (by simp) (by simp) _
  have HBz : Hid (Gb D.heap.size ((w4.setCell ⟨w.heap.size + 1, 0, none⟩ (.slice p k cp)).setCell ⟨w.heap.size + 1, 1, none⟩ (.slice none 0 0)) (.slice p k cp) (xs ++ ys)) := ownsRow_setLow (ownsRow_setLow HG0.out (by simp only; omega) _) (by simp only; omega) _
  have HUp : Hid (∀ g, (Value.slice p k cp).ownBlock = some g → g < w4.heap.size) := fun g e => (World.ownsRow.lt HG0.out g e).2
  refine wpAnyH_ready (rs := [7]) (by kernel_rfl) (by simp) ?_
  refine AllReadyH.cons rfl (fun K hK => ?_) AllReadyH.nil
  go_simp
  refine hK.out _ _ (hHeld.turned T (.inl (by omega))) (fun hHeld => ?_)
  clear hK K
  try simp only [Act.put]
  try simp only [List.setIfInBounds_toArray]
  try simp only [List.set]
  refine wpAnyH_done (by kernel_rfl) ?_ _
  clear hHeld hD
  go_wp2_with fail
  refine bodyPost_ret (v := .agg #[.slice p k cp, .slice none 0 0]) (by simp [results, Try.results106, go_sem, *]) rfl ?_
  refine ⟨p, cp, w4.heap.size, by rw [HK.out], by go_grown, ?_⟩
  rw [HK.out]
  exact ⟨HBz.out.low (by omega), HUp.out, Gb.nil _ _, by omega, by simp⟩

end Go.Proofs.Ytcjkjenebnodbaa
