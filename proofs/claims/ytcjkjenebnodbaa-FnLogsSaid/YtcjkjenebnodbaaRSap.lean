/-
  The model's AppendLog.
-/
import Derived.Test.YtcjkjenebnodbaaRIap

namespace Go.Proofs.Ytcjkjenebnodbaa
open Go.RowKit
set_option linter.unusedVariables false

/-- A copied log. -/
def CpPost (w : World) (xs ys : List Int) (n m : Nat) (e : Ending) (w' : World) : Prop := ∃ p cp r cr mid, e = .returned (.agg #[.slice p n cp, .slice r m cr]) ∧ Below w.heap.size w w' ∧ BytesIn w.heap.size mid w' p xs ∧ Gb mid w' (.slice r m cr) ys ∧ w.heap.size ≤ mid ∧ mid ≤ w'.heap.size ∧ n ≤ cp ∧ cp ≤ 9223372036854775807

set_option maxRecDepth 10000 in
set_option maxHeartbeats 2000000 in
theorem l5Copy_any (x y : Option Addr) (xs ys : List Int) (n c m d : Nat) (w : World) (hn : xs.length = n) (hm : ys.length = m) (hn1 : n ≤ 1048576) (hm1 : m ≤ 1048576) (hx : Reads w x xs) (hy : Reads w y ys) :
    Calls Try.prog 116 #[.agg #[.slice x n c, .slice y m d]] w fun e w' => CpPost w xs ys n m e w' := by
  have HCx : Hid (∀ X, Below w.heap.size w X → Calls Try.prog 119 #[.slice x n c] X fun e w' => ∃ v, e = .returned v ∧ Below X.heap.size X w' ∧ Gb X.heap.size w' v xs) := fun X g => l2Copy_gen x xs n c X hn (by omega) (hx.below g (Nat.le_refl _))
  have HCy : Hid (∀ X, Below w.heap.size w X → Calls Try.prog 119 #[.slice y m d] X fun e w' => ∃ v, e = .returned v ∧ Below X.heap.size X w' ∧ Gb X.heap.size w' v ys) := fun X g => l2Copy_gen y ys m d X hm (by omega) (hy.below g (Nat.le_refl _))
  have HN : Hid (xs.length = n) := hn
  have HM : Hid (ys.length = m) := hm
  clear hx hy hn hm
  go_enter Try.func116, Try.ntmps116
  go_upto_region 1 with (fail)
  generalize hY : World.alloc _ _ = Y
  have hD : SyS w x y n c m d Y := by rw [← hY]; exact ⟨⟨by simp [go_sem], by simp [go_sem]⟩, ⟨by simp [go_sem], by simp [go_sem], by simp [go_sem], by simp [go_sem], by go_grown⟩⟩
  clear hY
  refine wp_region_held_drew (S := fun V => LgAt V w.heap.size x n c y m d) (by kernel_rfl) (hD.up (Below.refl _ _).drew).r (fun hHeld => ?_)
  have hA := (hD.up (Below.refl _ _).drew).a
  generalize Y.drew = D at hHeld hA ⊢
  clear hD
  refine wpAnyH_take (i := 0) (v := ?v1) rfl (by kernel_rfl) (by kernel_rfl) (by kernel_rfl) (fun _ _ _ h => h) (Or.inl ⟨by kernel_rfl, ?h1⟩) hHeld ?_
  case h1 => intro u hSw; (try dsimp only at hSw); go_simp; try with_reducible rfl
  try simp only [List.getElem_toArray]
  try simp only [List.getElem_cons_succ]
  try simp only [List.getElem_cons_zero]
  try simp only [Act.put]
  try simp only [List.setIfInBounds_toArray]
  try simp only [List.set]
  refine wpAnyH_take (i := 1) (v := ?v2) rfl (by kernel_rfl) (by kernel_rfl) (by kernel_rfl) (fun _ _ _ h => h) (Or.inl ⟨by kernel_rfl, ?h2⟩) hHeld ?_
  case h2 => intro u hSw; obtain ⟨q0, q1⟩ := hSw; go_simp; try with_reducible rfl
  try simp only [List.getElem_toArray]
  try simp only [List.getElem_cons_succ]
  try simp only [List.getElem_cons_zero]
  try simp only [Act.put]
  try simp only [List.setIfInBounds_toArray]
  try simp only [List.set]
  refine wpAnyH_take (i := 3) (v := ?v3) rfl (by kernel_rfl) (by kernel_rfl) (by kernel_rfl) (fun _ _ _ h => h) (Or.inl ⟨by kernel_rfl, ?h3⟩) hHeld ?_
  case h3 => intro u hSw; (try dsimp only at hSw); go_simp; try with_reducible rfl
  try simp only [List.getElem_toArray]
  try simp only [List.getElem_cons_succ]
  try simp only [List.getElem_cons_zero]
  try simp only [Act.put]
  try simp only [List.setIfInBounds_toArray]
  try simp only [List.set]
  refine wpAnyH_take (i := 4) (v := ?v4) rfl (by kernel_rfl) (by kernel_rfl) (by kernel_rfl) (fun _ _ _ h => h) (Or.inl ⟨by kernel_rfl, ?h4⟩) hHeld ?_
  case h4 => intro u hSw; obtain ⟨q0, q1⟩ := hSw; go_simp; try with_reducible rfl
  try simp only [List.getElem_toArray]
  try simp only [List.getElem_cons_succ]
  try simp only [List.getElem_cons_zero]
  try simp only [Act.put]
  try simp only [List.setIfInBounds_toArray]
  try simp only [List.set]
  refine wpAnyH_ready (rs := [2]) (by kernel_rfl) (by simp) ?_
  refine AllReadyH.cons rfl (fun K hK => ?_) AllReadyH.nil
  go_simp
  go_wp2_with (go_at_call 119; refine (HCx.out _ hA.g).mono ?_; rintro e w3 ⟨v3, rfl, g3, hG3⟩)
  refine hK.out _ _ (hHeld.up g3) (fun hHeld => ?_)
  clear hK K
  have hDs := hA.lt
  have hA3 := hA.up g3
  have hs3 := g3.size
  obtain ⟨p, cp, rfl, hcp, hcm', hBy, _⟩ := hG3.shape
  rw [HN.out] at hcp ⊢
  clear hG3
  try simp only [Act.put]
  try simp only [List.setIfInBounds_toArray]
  try simp only [List.set]
  refine wpAnyH_ready (rs := [5]) (by kernel_rfl) (by simp) ?_
  refine AllReadyH.cons rfl (fun K hK => ?_) AllReadyH.nil
  go_simp
  go_wp2_with (go_at_call 119; refine (HCy.out _ hA3.g).mono ?_; rintro e w4 ⟨v4, rfl, g4, hG4⟩)
  refine hK.out _ _ (hHeld.up g4) (fun hHeld => ?_)
  clear hK K
  have hA4 := hA3.up g4
  have hs4 := g4.size
  have hBy4 := hBy.below g4
  obtain ⟨r, cr, rfl, hcr, hcm4, _, _⟩ := hG4.shape
  rw [HM.out] at hcr ⊢
  have HG : Hid (Gb w3.heap.size w4 (.slice r m cr) ys) := by have h := hG4; rw [HM.out] at h; exact h
  clear hG4 hBy
  try simp only [Act.put]
  try simp only [List.setIfInBounds_toArray]
  try simp only [List.set]
  refine wpAnyH_take (i := 6) (v := ?v5) rfl (by kernel_rfl) (by kernel_rfl) (by kernel_rfl) (fun _ _ _ h => h) (Or.inl ⟨by kernel_rfl, ?h5⟩) hHeld ?_
  case h5 => intro u hSw; (try dsimp only at hSw); go_simp; try with_reducible rfl
  try simp only [List.getElem_toArray]
  try simp only [List.getElem_cons_succ]
  try simp only [List.getElem_cons_zero]
  try simp only [Act.put]
  try simp only [List.setIfInBounds_toArray]
  try simp only [List.set]
  obtain ⟨a0, a1, f0, f1, hg⟩ := hA4
  have T : Turned (w.heap.size + 1) (w.heap.size + 2) w4 ((w4.setCell ⟨w.heap.size + 1, 0, none⟩ (.slice p n cp)).setCell ⟨w.heap.size + 1, 1, none⟩ (.slice r m cr)) := ((Turned.refl _ _ w4).setCell (p := ⟨w.heap.size + 1, 0, none⟩) (by simp) (by simp) _).setCell (p := ⟨w.heap.size + 1, 1, none⟩) (by simp) (by simp) _
  have HBz : Hid (BytesIn w.heap.size w3.heap.size ((w4.setCell ⟨w.heap.size + 1, 0, none⟩ (.slice p n cp)).setCell ⟨w.heap.size + 1, 1, none⟩ (.slice r m cr)) p xs) := ((hBy4.mono (lo' := w.heap.size + 2) (by omega) (Nat.le_refl _)).turned T (.inr (Nat.le_refl _))).mono (by omega) (Nat.le_refl _)
  have HGz : Hid (Gb w3.heap.size ((w4.setCell ⟨w.heap.size + 1, 0, none⟩ (.slice p n cp)).setCell ⟨w.heap.size + 1, 1, none⟩ (.slice r m cr)) (.slice r m cr) ys) := ownsRow_setLow (ownsRow_setLow HG.out (by simp only; omega) _) (by simp only; omega) _
  refine wpAnyH_ready (rs := [7]) (by kernel_rfl) (by simp) ?_
  refine AllReadyH.cons rfl (fun K hK => ?_) AllReadyH.nil
  go_simp
  refine hK.out _ _ (hHeld.turned T (.inl (by omega))) (fun hHeld => ?_)
  clear hK K
  try simp only [Act.put]
  try simp only [List.setIfInBounds_toArray]
  try simp only [List.set]
  refine wpAnyH_done (by kernel_rfl) ?_ _
  clear hHeld
  go_wp2_with fail
  refine bodyPost_ret (v := .agg #[.slice p n cp, .slice r m cr]) (by simp [results, Try.results116, go_sem, *]) rfl ?_
  exact ⟨p, cp, r, cr, w3.heap.size, rfl, by go_grown, HBz.out, HGz.out, by omega, by simp; omega, hcp, hcm'⟩

theorem A2.low {w V W : World} {b B : Nat} (h : A2 w b V) (hb : Below B V W) (h1 : b < B) (h2 : w.heap.size ≤ B) : A2 w b W :=
  ⟨(hb.cell h1).trans h.a0, (hb.cell h1).trans h.a1, (hb.frozen h1).trans h.f0, (hb.frozen h1).trans h.f1, h.g.trans (hb.mono h2)⟩
theorem BytesIn.lowB {lo hi B : Nat} {w w' : World} {a : Option Addr} {zs : List Int} (h : BytesIn lo hi w a zs) (hb : Below B w w') (hh : hi ≤ B) : BytesIn lo hi w' a zs := by
  rcases h with h | ⟨b, off, ha, h1, h2, hc, hf⟩
  · exact .inl h
  · exact .inr ⟨b, off, ha, h1, h2, fun i hi => (hb.cell (by simp only; omega)).trans (hc i hi), fun i hi => (hb.frozen (by simp only; omega)).trans (hf i hi)⟩
theorem Gb.setOther {base : Nat} {w : World} {v : Value} {xs : List Int} (h : Gb base w v xs) {p : Addr} (hp : v.ownBlock ≠ some p.block) (x : Value) : Gb base (w.setCell p x) v xs :=
  World.ownsRow.kept h (row := some p.block) ⟨rfl, rfl, rfl, by simp, fun k _ hk => Below.heap_setCell _ _ _ _ (fun e => hk (by rw [e]))⟩ (.inr hp)

/-- What l5Append hands back where there is room. -/
def ApPost (w : World) (xs us : List Int) (n k : Nat) (e : Ending) (w' : World) : Prop := ∃ p cp r cr mid, e = .returned (.tuple #[.agg #[.slice p n cp, .slice r k cr], .bool true]) ∧ Below w.heap.size w w' ∧ LogIn w.heap.size mid w'.heap.size w' p r xs us ∧ n ≤ cp ∧ cp ≤ 9223372036854775807 ∧ k ≤ cr ∧ cr ≤ 9223372036854775807

set_option maxRecDepth 10000 in
set_option maxHeartbeats 4000000 in
theorem l5Append_any (x y : Option Addr) (xs ys : List Int) (n c m d b : Nat) (k tx pg : Int) (a : Option Addr) (l e' : Nat) (P : Nat → Int) (A : Nat → Option Addr) (C : Nat → Nat) (Z : Nat → List Int) (w : World) (hn : xs.length = n) (hm : ys.length = m) (hn1 : n ≤ 1048576) (hm1 : m ≤ 1048576) (hx : Reads w x xs) (hy : Reads w y ys)
    (ho : RunsOk l Z) (hr : RunsRead w a l P A C Z) (hb : RcAt w b k tx pg a l e') :
    Calls Try.prog 80 #[.agg #[.slice x n c, .slice y m d], .pointer (some ⟨b, 0, none⟩)] w fun e w' => (16000 < n + m + (packB k tx pg l P Z).length → e = .returned (.tuple #[.agg #[.slice x n c, .slice y m d], .bool false]) ∧ Below w.heap.size w w') ∧ (¬ 16000 < n + m + (packB k tx pg l P Z).length → ApPost w xs (ys ++ packB k tx pg l P Z) n (m + (packB k tx pg l P Z).length) e w') := by
  have HP : Hid (∀ X, Below w.heap.size w X → Calls Try.prog 72 #[.pointer (some ⟨b, 0, none⟩)] X fun e w' => ∃ g d, e = .returned (.slice (some ⟨g, 0, none⟩) (packB k tx pg l P Z).length d) ∧ (packB k tx pg l P Z).length ≤ d ∧ Below X.heap.size X w' ∧ BytesIn X.heap.size w'.heap.size w' (some ⟨g, 0, none⟩) (packB k tx pg l P Z)) := fun X g => l4Pack_any b k tx pg a l e' P A C Z X ho (hr.below g (Nat.le_refl _)) ⟨(g.cell (World.block_lt_of_cell? w _ hb.c0)).trans hb.c0, (g.cell (World.block_lt_of_cell? w _ hb.c1)).trans hb.c1, (g.cell (World.block_lt_of_cell? w _ hb.c2)).trans hb.c2, (g.cell (World.block_lt_of_cell? w _ hb.c3)).trans hb.c3⟩
  have hul : (packB k tx pg l P Z).length ≤ 255 := by rw [packB_len]; exact ho.tot
  have HC : Hid (∀ X, Below w.heap.size w X → Calls Try.prog 116 #[.agg #[.slice x n c, .slice y m d]] X fun e w' => CpPost X xs ys n m e w') := fun X g => l5Copy_any x y xs ys n c m d X hn hm hn1 hm1 (hx.below g (Nat.le_refl _)) (hy.below g (Nat.le_refl _))
  generalize packB k tx pg l P Z = us at HP hul ⊢
  obtain ⟨j, hjj⟩ : ∃ j, us.length = j := ⟨_, rfl⟩
  rw [hjj] at HP hul ⊢
  have HJ : Hid (us.length = j) := hjj
  have HM : Hid (ys.length = m) := hm
  clear hx hy ho hr hb hn hm hjj
  go_enter Try.func80, Try.ntmps80
  go_upto_region 1 with (fail)
  generalize hY : World.alloc _ _ = Y
  have hA : A2 w (w.heap.size + 1) Y := by rw [← hY]; exact ⟨by simp [go_sem], by simp [go_sem], by simp [go_sem], by simp [go_sem], by go_grown⟩
  have r : LgAt Y w.heap.size x n c y m d := by rw [← hY]; exact ⟨by simp [go_sem], by simp [go_sem]⟩
  clear hY
  go_wp2_with fail
  refine (HP.out _ hA.g).mono ?_
  rintro e w1 ⟨gu, du, rfl, hdu, g1, hu⟩
  have hlt := hA.lt
  have hA := hA.up g1
  have r := r.up g1
  have hs1 := g1.size
  have HU : Hid (BytesIn (w.heap.size + 2) w1.heap.size w1 (some ⟨gu, 0, none⟩) us) := hu.mono (by omega) (Nat.le_refl _)
  clear g1 hu
  obtain ⟨r0, r1⟩ := r
  by_cases hbig : 16000 < n + m + j
  · have hb : (16000 : Int) < (n : Int) + (m : Int) + (j : Int) := by omega
    have hg := hA.g
    obtain ⟨a0, a1, f0, f1, _⟩ := hA
    go_wp2_with fail
    refine bodyPost_ret (v := .tuple #[.agg #[.slice x n c, .slice y m d], .bool false]) (by simp [results, Try.results80, go_sem, *]) rfl ?_
    exact ⟨fun _ => ⟨rfl, by go_grown⟩, fun h => absurd hbig h⟩
  · have hb : ¬ ((16000 : Int) < (n : Int) + (m : Int) + (j : Int)) := by omega
    go_wp2_with fail
    refine (HC.out _ hA.g).mono ?_
    intro e w2 hp
    obtain ⟨p, cp, r, cr, mid, rfl, g2, hBy, hG, hm1', hm2', hcp, hcm'⟩ := hp
    have hlt1 := hA.lt
    have hA := hA.up g2
    have HU : Hid (BytesIn (w.heap.size + 2) w2.heap.size w2 (some ⟨gu, 0, none⟩) us) := (HU.out.below g2).mono (Nat.le_refl _) g2.size
    have hs2 := g2.size
    have hBy : BytesIn (w.heap.size + 2) mid w2 p xs := hBy.mono (by omega) (Nat.le_refl _)
    clear g2 r0 r1
    go_upto_region 5 with (fail)
    generalize hY2 : World.alloc w2 _ = Y2
    have gY : Below w2.heap.size w2 Y2 := by rw [← hY2]; go_grown
    have hsY : Y2.heap.size = w2.heap.size + 1 := by rw [← hY2]; simp
    have b0 : Y2.cell? ⟨w2.heap.size, 0, none⟩ = some (.slice p n cp) := by rw [← hY2]; simp [go_sem]
    have b1 : Y2.cell? ⟨w2.heap.size, 1, none⟩ = some (.slice r m cr) := by rw [← hY2]; simp [go_sem]
    have bf : Y2.frozen? ⟨w2.heap.size, 1, none⟩ = false := by rw [← hY2]; simp [go_sem]
    have hA := hA.up gY
    have HGl : Hid (∀ g, (Value.slice r m cr).ownBlock = some g → mid ≤ g ∧ g < w2.heap.size) := fun g e => World.ownsRow.lt hG g e
    have hG := hG.grown gY
    have hBy := hBy.below gY
    have HU : Hid (Reads Y2 (some ⟨gu, 0, none⟩) us) := (HU.out.below gY).reads
    clear hY2 gY
    generalize w2.heap.size = bx at b0 b1 bf hsY hm2' hs2 HGl ⊢
    go_wp2_with (at_builtin; refine wpList_append_bytes _ rfl _ _ rfl mid _ ys us (some ⟨gu, 0, none⟩) j du rfl rfl HJ.out hG HU.out ?n1 ?n2 ?_)
    case n1 => rw [HM.out, HJ.out]; omega
    case n2 => omega
    intro v' w6 hG6 hgr6 hat6
    have g6 : Below mid Y2 w6 := Below.grown (Below.refl _ _) hgr6 (by omega) (fun q e => (World.ownsRow.lt hG q e).1)
    have hA := hA.low g6 (by omega) (by omega)
    have hBy := hBy.lowB g6 (Nat.le_refl _)
    have hbk := hgr6.block bx (by omega) (fun e => by have := HGl.out bx e.symm; omega)
    have b0 := (World.cell?_of_block (a := ⟨bx, 0, none⟩) hbk).trans b0
    have b1 := (World.cell?_of_block (a := ⟨bx, 1, none⟩) hbk).trans b1
    have bf := (World.frozen?_of_block (a := ⟨bx, 1, none⟩) hbk).trans bf
    have hs6 := hgr6.size
    have hne : v'.ownBlock ≠ some bx := fun e => by
      rcases hat6 with h | h
      · have := HGl.out bx (h.symm.trans e); omega
      · rw [h] at e; injection e with e; omega
    obtain ⟨r', cr', hv', hcr', hcm6, _, _⟩ := hG6.shape
    subst hv'
    have hk6 : (ys ++ us).length = m + j := by rw [List.length_append, HM.out, HJ.out]
    rw [hk6] at hcr' hne ⊢
    have hG6 : Gb mid w6 (.slice r' (m + j) cr') (ys ++ us) := by have h := hG6; rw [hk6] at h; exact h
    have HK6 : Hid ((ys ++ us).length = m + j) := hk6
    have hG7 := hG6.setOther (p := ⟨bx, 1, none⟩) hne (.slice r' (m + j) cr')
    have hG9 : Gb mid (((w6.setCell ⟨bx, 1, none⟩ (.slice r' (m + j) cr')).setCell ⟨w.heap.size + 1, 0, none⟩ (.slice p n cp)).setCell ⟨w.heap.size + 1, 1, none⟩ (.slice r' (m + j) cr')) (.slice r' (m + j) cr') (ys ++ us) := ownsRow_setLow (ownsRow_setLow hG7 (by simp only; omega) _) (by simp only; omega) _
    have HBz : Hid (BytesIn (w.heap.size + 2) mid (((w6.setCell ⟨bx, 1, none⟩ (.slice r' (m + j) cr')).setCell ⟨w.heap.size + 1, 0, none⟩ (.slice p n cp)).setCell ⟨w.heap.size + 1, 1, none⟩ (.slice r' (m + j) cr')) p xs) :=
      ((hBy.turned ((Turned.refl bx (bx + 1) w6).setCell (p := ⟨bx, 1, none⟩) (Nat.le_refl _) (Nat.lt_succ_self _) _) (.inl hm2')).setCellE (p := ⟨w.heap.size + 1, 0, none⟩) (fun _ => .inl (by simp only; omega)) _).setCellE (p := ⟨w.heap.size + 1, 1, none⟩) (fun _ => .inl (by simp only; omega)) _
    have HGz : Hid (Gb mid (((w6.setCell ⟨bx, 1, none⟩ (.slice r' (m + j) cr')).setCell ⟨w.heap.size + 1, 0, none⟩ (.slice p n cp)).setCell ⟨w.heap.size + 1, 1, none⟩ (.slice r' (m + j) cr')) (.slice r' (m + j) cr') (ys ++ us)) := hG9
    have hbw : ¬ bx = w.heap.size + 1 := by omega
    have hg := hA.g
    obtain ⟨a0, a1, f0, f1, _⟩ := hA
    clear hG hG6 hG7 hG9 hgr6 hat6 g6 hbk hBy hk6
    go_wp2_with fail
    refine bodyPost_ret (v := .tuple #[.agg #[.slice p n cp, .slice r' (m + j) cr'], .bool true]) (by simp [results, Try.results80, go_sem, *]) rfl ?_
    refine ⟨fun h => absurd h hbig, fun _ => ⟨p, cp, r', cr', mid, rfl, by go_grown, ⟨HBz.out.mono (by omega) (Nat.le_refl _), ?_, by omega, by simp; omega⟩, hcp, hcm', hcr', hcm6⟩⟩
    obtain ⟨r2, c2, hv2, _, _, hb2, _⟩ := HGz.out.shape
    simp only [Value.slice.injEq] at hv2
    rw [← hv2.1] at hb2
    exact hb2

set_option maxRecDepth 10000 in
set_option maxHeartbeats 4000000 in
theorem specAppendLog_any (x y : Option Addr) (xs ys : List Int) (c d : Nat) (k tx pg : Int) (a : Option Addr) (l e' : Nat) (P : Nat → Int) (A : Nat → Option Addr) (C : Nat → Nat) (Z : Nat → List Int) (w : World) (hn1 : xs.length ≤ 1048576) (hm1 : ys.length ≤ 1048576) (hc : xs.length ≤ c) (hd : ys.length ≤ d) (hcm : c ≤ 9223372036854775807) (hdm : d ≤ 9223372036854775807) (hx : Reads w x xs) (hy : Reads w y ys) (hxb : ∀ z ∈ xs, 0 ≤ z ∧ z ≤ 255) (hyb : ∀ z ∈ ys, 0 ≤ z ∧ z ≤ 255)
    (hl : l ≤ 1048576) (hz : Hid (∀ i, i < l → (Z i).length ≤ 1048576)) (hzb : Hid (∀ i, i < l → ∀ z ∈ Z i, 0 ≤ z ∧ z ≤ 255)) (hr : RunsRead w a l P A C Z) :
    Calls Try.prog 22 #[.agg #[.slice x xs.length c, .slice y ys.length d], .agg #[.int .i64 k, .int .i64 tx, .int .i64 pg, .slice a l e']] w fun e w' => LgPost w (alQ xs ys (recQ k tx pg l P Z) (pkB k tx pg l P Z)) (alS xs ys (recQ k tx pg l P Z) (pkB k tx pg l P Z)) (alL xs ys (recQ k tx pg l P Z) (pkB k tx pg l P Z)) e w' := by
  have HL : Hid (∀ X, Below w.heap.size w X → LgAt X w.heap.size x xs.length c y ys.length d → Calls Try.prog 79 #[.pointer (some ⟨w.heap.size, 0, none⟩)] X fun e w' => e = .returned (.int .i64 (lfQ xs ys)) ∧ Below X.heap.size X w') := fun X g r => l5Fault_any w.heap.size x y xs ys c d X hn1 hm1 hc hd hcm hdm (hx.below g (Nat.le_refl _)) (hy.below g (Nat.le_refl _)) hxb hyb r
  have HF : Hid (∀ X b, Below w.heap.size w X → RcAt X b k tx pg a l e' → Calls Try.prog 71 #[.pointer (some ⟨b, 0, none⟩)] X fun e w' => e = .returned (.int .i64 (recQ k tx pg l P Z)) ∧ Below X.heap.size X w') := fun X b g r => (l4Fault_any b k tx pg a l e' P A C Z X hl hz (hr.below g (Nat.le_refl _)) r).mono (fun e w' h => by obtain ⟨h1, q, h2⟩ := h; exact ⟨h1, by rw [h2]; exact below_draws (Below.refl _ _) _⟩)
  have HP : Hid (recQ k tx pg l P Z = 0 → ∀ X b, Below w.heap.size w X → RcAt X b k tx pg a l e' → Calls Try.prog 80 #[.agg #[.slice x xs.length c, .slice y ys.length d], .pointer (some ⟨b, 0, none⟩)] X fun e w' => (16000 < xs.length + ys.length + (pkB k tx pg l P Z).length → e = .returned (.tuple #[.agg #[.slice x xs.length c, .slice y ys.length d], .bool false]) ∧ Below X.heap.size X w') ∧ (¬ 16000 < xs.length + ys.length + (pkB k tx pg l P Z).length → ApPost X xs (ys ++ pkB k tx pg l P Z) xs.length (ys.length + (pkB k tx pg l P Z).length) e w')) := fun h X b g r => by
    have he : pkB k tx pg l P Z = packB k tx pg l P Z := by unfold pkB; rw [if_pos h]
    rw [he]
    exact l5Append_any x y xs ys _ c _ d b k tx pg a l e' P A C Z X rfl rfl hn1 hm1 (hx.below g (Nat.le_refl _)) (hy.below g (Nat.le_refl _)) (rec_runs h hzb.out) (hr.below g (Nat.le_refl _)) r
  obtain ⟨us, hus⟩ : ∃ us, us = pkB k tx pg l P Z := ⟨_, rfl⟩
  have hul : us.length ≤ 255 := by rw [hus]; exact pkB_small hzb.out
  rw [← hus] at HP ⊢
  have HQ : Hid (∀ r, alQ xs ys r us = if lfQ xs ys = 0 then (if r = 0 then (if 16000 < xs.length + ys.length + us.length then 9 else 0) else r) else lfQ xs ys) := fun _ => rfl
  clear hx hy hxb hyb hc hd hus hr hz hzb
  generalize recQ k tx pg l P Z = rq at HF HP ⊢
  generalize lfQ xs ys = q at HL HQ
  obtain ⟨n, hnn⟩ : ∃ n, xs.length = n := ⟨_, rfl⟩
  obtain ⟨m, hmm⟩ : ∃ m, ys.length = m := ⟨_, rfl⟩
  obtain ⟨j, hjj⟩ : ∃ j, us.length = j := ⟨_, rfl⟩
  rw [hnn] at HL HP HQ hn1 ⊢
  rw [hmm] at HL HP HQ hm1 ⊢
  rw [hjj] at HP HQ hul
  have HN : Hid (xs.length = n) := hnn
  have HMJ : Hid ((ys ++ us).length = m + j) := by show _ = _; rw [List.length_append, hmm, hjj]
  clear hnn hmm hjj
  go_enter Try.func22, Try.ntmps22
  go_upto_region 1 with (fail)
  generalize hY : World.alloc _ _ = Y
  have hA : A3 w (w.heap.size + 2) Y := by rw [← hY]; exact ⟨by simp [go_sem], by simp [go_sem], by simp [go_sem], by simp [go_sem], by simp [go_sem], by simp [go_sem], by go_grown⟩
  have r : LgAt Y w.heap.size x n c y m d := by rw [← hY]; exact ⟨by simp [go_sem], by simp [go_sem]⟩
  have rc : RcAt Y (w.heap.size + 1) k tx pg a l e' := by rw [← hY]; exact ⟨by simp [go_sem], by simp [go_sem], by simp [go_sem], by simp [go_sem]⟩
  clear hY
  go_wp2_with fail
  refine (HL.out _ hA.g r).mono ?_
  rintro e w1 ⟨rfl, g1⟩
  have hA := hA.up g1
  have r := r.up g1
  have rc := rc.up g1
  clear g1
  by_cases hq : q = 0
  · subst hq
    go_wp2_with fail
    refine (HF.out _ _ hA.g rc).mono ?_
    rintro e w2 ⟨rfl, g2⟩
    have hA := hA.up g2
    have r := r.up g2
    have rc := rc.up g2
    clear g2
    by_cases hrq : rq = 0
    · subst hrq
      obtain ⟨r0, r1⟩ := r
      go_wp2_with fail
      refine (HP.out (by first | rfl | trivial) _ _ hA.g rc).mono ?_
      intro e w3 hp
      obtain ⟨hp1, hp2⟩ := hp
      have hlt := hA.lt
      by_cases hbig : 16000 < n + m + j
      · obtain ⟨he, g3⟩ := hp1 hbig
        subst he
        have HQ2 : Hid (alQ xs ys 0 us = 9) := by show _ = _; rw [HQ.out]; simp [hbig]
        have HS2 : Hid (alS xs ys 0 us = [] ∧ alL xs ys 0 us = []) := by unfold alS alL; rw [HQ2.out]; exact ⟨rfl, rfl⟩
        have hA := hA.up g3
        have hg := hA.g
        have hs := hA.lt
        obtain ⟨a0, a1, a2, f0, f1, f2, _⟩ := hA
        clear hp2 hp1 g3
        go_wp2_with fail
        refine bodyPost_ret (v := .agg #[.int .i64 9, .slice none 0 0, .slice none 0 0]) (by simp [results, Try.results22, go_sem, *]) rfl ?_
        rw [HQ2.out, HS2.out.1, HS2.out.2]
        exact ⟨none, 0, none, 0, w.heap.size, rfl, Nat.le_refl _, Nat.le_refl _, by omega, by omega, by go_grown, LogIn.none_ _ _ _ _ _ (by simp; omega)⟩
      · obtain ⟨p, cp, rr, cr, mid, he, g3, hG, hcp, hcm', hcr, hcm2⟩ := hp2 hbig
        subst he
        have HQ2 : Hid (alQ xs ys 0 us = 0) := by show _ = _; rw [HQ.out]; simp [hbig]
        have HS2 : Hid (alS xs ys 0 us = xs ∧ alL xs ys 0 us = ys ++ us) := by unfold alS alL; rw [HQ2.out]; exact ⟨rfl, rfl⟩
        have hA := hA.up g3
        have HG : Hid (LogIn (w.heap.size + 3) mid w3.heap.size w3 p rr xs (ys ++ us)) := hG.mono (by omega) (Nat.le_refl _)
        clear hp2 hp1 g3 hG r0 r1
        go_upto_region 8 with (fail)
        generalize hY3 : World.alloc w3 _ = Y3
        have gY : Below w3.heap.size w3 Y3 := by rw [← hY3]; go_grown
        have p0 : Y3.cell? ⟨w3.heap.size, 0, none⟩ = some (.slice p n cp) := by rw [← hY3]; simp [go_sem]
        have p1 : Y3.cell? ⟨w3.heap.size, 1, none⟩ = some (.slice rr (m + j) cr) := by rw [← hY3]; simp [go_sem]
        have hA := hA.up gY
        have HG : Hid (LogIn (w.heap.size + 3) mid Y3.heap.size Y3 p rr xs (ys ++ us)) := (HG.out.below gY).mono (Nat.le_refl _) gY.size
        clear hY3 gY
        generalize w3.heap.size = bx at p0 p1 ⊢
        have hg := hA.g
        have hs := hA.lt
        obtain ⟨a0, a1, a2, f0, f1, f2, _⟩ := hA
        go_wp2_with fail
        refine bodyPost_ret (v := .agg #[.int .i64 0, .slice p n cp, .slice rr (m + j) cr]) (by simp [results, Try.results22, go_sem, *]) rfl ?_
        rw [HQ2.out, HS2.out.1, HS2.out.2]
        refine ⟨p, cp, rr, cr, mid, by rw [HN.out, HMJ.out], by rw [HN.out]; exact hcp, by rw [HMJ.out]; exact hcr, hcm', hcm2, by go_grown, ?_⟩
        have T : Turned (w.heap.size + 2) (w.heap.size + 3) Y3 _ := (((Turned.refl _ _ Y3).setCell (p := ⟨w.heap.size + 2, 0, none⟩) (by simp) (by simp) (.int .i64 0)).setCell (p := ⟨w.heap.size + 2, 1, none⟩) (by simp) (by simp) (.slice p n cp)).setCell (p := ⟨w.heap.size + 2, 2, none⟩) (by simp) (by simp) (.slice rr (m + j) cr)
        exact (HG.out.turned T (.inr (Nat.le_refl _))).mono (by omega) (by simp)
    · have HQ2 : Hid (alQ xs ys rq us = rq) := by show _ = _; rw [HQ.out]; simp [hrq]
      have HS2 : Hid (alS xs ys rq us = [] ∧ alL xs ys rq us = []) := by unfold alS alL; rw [HQ2.out, if_neg hrq, if_neg hrq]; exact ⟨rfl, rfl⟩
      have hg := hA.g
      have hs := hA.lt
      obtain ⟨a0, a1, a2, f0, f1, f2, _⟩ := hA
      go_wp2_with fail
      refine bodyPost_ret (v := .agg #[.int .i64 rq, .slice none 0 0, .slice none 0 0]) (by simp [results, Try.results22, go_sem, *]) rfl ?_
      rw [HQ2.out, HS2.out.1, HS2.out.2]
      exact ⟨none, 0, none, 0, w.heap.size, rfl, Nat.le_refl _, Nat.le_refl _, by omega, by omega, by go_grown, LogIn.none_ _ _ _ _ _ (by simp; omega)⟩
  · have HQ2 : Hid (alQ xs ys rq us = q) := by show _ = _; rw [HQ.out, if_neg hq]
    have HS2 : Hid (alS xs ys rq us = [] ∧ alL xs ys rq us = []) := by unfold alS alL; rw [HQ2.out, if_neg hq, if_neg hq]; exact ⟨rfl, rfl⟩
    have hg := hA.g
    have hs := hA.lt
    obtain ⟨a0, a1, a2, f0, f1, f2, _⟩ := hA
    go_wp2_with fail
    refine bodyPost_ret (v := .agg #[.int .i64 q, .slice none 0 0, .slice none 0 0]) (by simp [results, Try.results22, go_sem, *]) rfl ?_
    rw [HQ2.out, HS2.out.1, HS2.out.2]
    exact ⟨none, 0, none, 0, w.heap.size, rfl, Nat.le_refl _, Nat.le_refl _, by omega, by omega, by go_grown, LogIn.none_ _ _ _ _ _ (by simp; omega)⟩

end Go.Proofs.Ytcjkjenebnodbaa
