/-
  The model's l10Room: how many keys there are.
-/
import Derived.Test.YtpjlpnaamkbicaaGreatDoorCKTxn
import Derived.Test.YtpjlpnaamkbicaaGreatDoorCKTxm
import Derived.Deep.CutRange

namespace Go.Proofs.YtpjlpnaamkbicaaGreatDoor
open Go.RowKit Go.Maps
set_option linter.unusedVariables false
set_option maxRecDepth 20000

theorem elK6 : ElT 63 97 kyE 2 16 where
  und := Tryz.underlying63
  inf := by obtain ⟨i, h1, h2, h3, h4⟩ := infoK; exact ⟨i, _, h1, h2, h3, h4, rfl⟩
  len := kyE_len
  one := by intro x u hu; simp [kyE] at hu; rcases hu with rfl | rfl <;> rfl
  pos := by decide
  few := by decide
/-- All keys one behind the other; how many of them are the first of their kind. -/
def rmL (rs : List Rw) (xs : List TxV) (more : K2) : List K2 := (rs.map kyR ++ flK xs) ++ (if more.y = 0 then [] else [more])
def cnN (A : List K2) (j : Nat) : Nat := ((A.take j).foldl withL []).length
theorem mem_withL {L : List K2} {k q : K2} : q ∈ withL L k ↔ q ∈ L ∨ q = k := by
  unfold withL
  by_cases h : hasK L k = true
  · rw [if_pos h]
    constructor
    · exact .inl
    · rintro (h1 | rfl)
      · exact h1
      · exact hasK_iff.1 h
  · rw [if_neg h]
    simp
theorem mem_fold : ∀ (ls L : List K2) (q : K2), q ∈ ls.foldl withL L ↔ q ∈ L ∨ q ∈ ls
  | [], L, q => by simp
  | k :: ks, L, q => by
    rw [List.foldl_cons, mem_fold ks, mem_withL, List.mem_cons]
    constructor
    · rintro ((h | h) | h)
      · exact .inl h
      · exact .inr (.inl h)
      · exact .inr (.inr h)
    · rintro (h | h | h)
      · exact .inl (.inl h)
      · exact .inl (.inr h)
      · exact .inr h
theorem cnN_step {A : List K2} {j : Nat} {x : K2} (h : A[j]? = some x) : cnN A (j + 1) = cnN A j + (if hasK (A.take j) x = true then 0 else 1) := by
  unfold cnN
  rw [take_snoc h, List.foldl_append, List.foldl_cons, List.foldl_nil]
  have e : (hasK ((A.take j).foldl withL []) x = true) ↔ (hasK (A.take j) x = true) := by
    rw [hasK_iff, hasK_iff, mem_fold]
    simp
  generalize (A.take j).foldl withL [] = F at e ⊢
  by_cases hh : hasK (A.take j) x = true
  · rw [if_pos hh]
    unfold withL
    rw [if_pos (e.2 hh)]
    rfl
  · rw [if_neg hh]
    unfold withL
    rw [if_neg (fun h1 => hh (e.1 h1)), List.length_append]
    rfl
theorem cnN_le (A : List K2) (j : Nat) : cnN A j ≤ j := by
  have h := fold_len (A.take j) []
  unfold cnN
  rw [List.length_take] at h
  simp only [List.length_nil, Nat.zero_add] at h
  omega
theorem rm_fold (rs : List Rw) (xs : List TxV) (x y : Int) : ((rmL rs xs ⟨x, y⟩).foldl withL []) = if y = 0 then allRK rs xs else withL (allRK rs xs) ⟨x, y⟩ := by
  have h0 : (rs.map kyR ++ flK xs).foldl withL [] = allRK rs xs := by
    unfold allRK
    rw [fold_flat, List.foldl_append]
    rfl
  unfold rmL
  rw [List.foldl_append, h0]
  split <;> rfl
theorem cnN_all {A : List K2} {n : Nat} (h : A.length = n) : cnN A n = (A.foldl withL []).length := by
  unfold cnN
  rw [List.take_of_length_le (by omega)]
theorem has_take_step {A : List K2} {j : Nat} {e x : K2} (h : A[j]? = some e) : hasK (A.take (j + 1)) x = (hasK (A.take j) x || kEq e x) := by
  rw [take_snoc h]
  unfold hasK
  rw [List.any_append]
  simp
theorem has_take_mono {A : List K2} {i j : Nat} {x : K2} (hij : i ≤ j) (h : hasK (A.take i) x = true) : hasK (A.take j) x = true := by
  rw [hasK_iff] at h ⊢
  exact (List.take_subset_take_left A hij) h
theorem rs_step {rs : List Rw} {j : Nat} {r : Rw} (h : rs[j]? = some r) : (rs.take (j + 1)).map kyR = (rs.take j).map kyR ++ [kyR r] := by
  rw [take_snoc h, List.map_append]
  rfl
theorem fl_step {xs : List TxV} {j : Nat} {x : TxV} (h : xs[j]? = some x) : flK (xs.take (j + 1)) = flK (xs.take j) ++ x.l := by
  unfold flK
  rw [take_snoc h, List.flatMap_append]
  simp
theorem own_litK (w : World) (e size : Nat) : (w.alloc (.cells #[] e)).ownsRow w.heap.size e size (.slice (some ⟨w.heap.size, 0, none⟩) 0 0) 0 [] := by
  refine ⟨by simp, .inr ⟨w.heap.size, 0, #[], rfl, Nat.le_refl _, heap_alloc_new w _, Nat.le_refl _, by unfold maxLen; omega, by simp, by simp⟩⟩
/-- What the drawn region of the first round keeps. -/
structure RmS (Y : World) (b o : Nat) (t k : Int) (V : World) : Prop where
  c0 : V.cell? ⟨b, o, none⟩ = some (.int .i64 t)
  c1 : V.cell? ⟨b, o + 1, none⟩ = some (.int .i64 k)
  g : Below Y.heap.size Y V
  l : b < Y.heap.size
theorem RmS.up {Y V W : World} {b o : Nat} {t k : Int} (h : RmS Y b o t k V) (hb : Below Y.heap.size V W) : RmS Y b o t k W :=
  ⟨(hb.cell (p := ⟨b, o, none⟩) h.l).trans h.c0, (hb.cell (p := ⟨b, o + 1, none⟩) h.l).trans h.c1, h.g.trans hb, h.l⟩
theorem RmS.alloc {Y V : World} {b o : Nat} {t k : Int} (h : RmS Y b o t k V) (x : Obj) : RmS Y b o t k (V.alloc x) := h.up ((Below.refl _ _).alloc h.g.size _)
theorem RmS.drew {Y V : World} {b o : Nat} {t k : Int} (h : RmS Y b o t k V) : RmS Y b o t k V.drew := h.up (Below.refl _ _).drew
theorem RmS.grow {Y V W : World} {b o : Nat} {t k : Int} (h : RmS Y b o t k V) {row : Option Nat} (hg : V.grownBy W row) (hl : ∀ q, row = some q → Y.heap.size ≤ q) : RmS Y b o t k W :=
  h.up (Below.grown (Below.refl _ _) hg h.g.size hl)

set_option maxHeartbeats 8000000 in
theorem l10Room_any (ra : Option Addr) (rs : List Rw) (rn rc : Nat) (a : Option Addr) (xs : List TxV) (n c : Nat) (mx my : Int) (w : World) (hrn : rs.length = rn) (hrm : rn ≤ 1048576) (hrr : Rs rwE 4 w ra rs) (hn : xs.length = n) (hm : n ≤ 4) (hs : ∀ x ∈ xs, TxOk 1048576 x) (hr : TxRd w a xs) :
    Calls Tryz.prog 82 #[.slice ra rn rc, .slice a n c, .agg #[.int .i64 mx, .int .i64 my]] w fun e w' => e = .returned (.int .i64 (((rmL rs xs ⟨mx, my⟩).foldl withL []).length : Nat)) ∧ Below w.heap.size w w' := by
  have hcb : ∀ j, cntL (xs.take j) ≤ 4 * 1048576 := fun j => by
    have h1 := cntL_le (xs := xs.take j) (m := 1048576) (fun y hy => (hs y (List.mem_of_mem_take hy)).2.2.2)
    have h2 : (xs.take j).length ≤ 4 := by rw [List.length_take]; omega
    exact Nat.le_trans h1 (Nat.mul_le_mul_right 1048576 h2)
  have HCb : Hid (∀ j, (flK (xs.take j)).length ≤ 4194304) := fun j => by rw [← cnt_flat]; exact hcb j
  have HRn : Hid (rs.length = rn) := hrn
  have HRr : Hid (∀ V, Below w.heap.size w V → Rs rwE 4 V ra rs) := fun V hV => hrr.below hV (Nat.le_refl _)
  have HN : Hid (xs.length = n) := hn
  have HR : Hid (∀ V, Below w.heap.size w V → TxRd V a xs) := fun V hV => hr.below hV (Nat.le_refl _)
  have HS : Hid (∀ x ∈ xs, TxOk 1048576 x) := hs
  obtain ⟨A, hA⟩ : ∃ A, rmL rs xs ⟨mx, my⟩ = A := ⟨_, rfl⟩
  have HA : Hid (A = (rs.map kyR ++ flK xs) ++ (if my = 0 then [] else [⟨mx, my⟩])) := hA.symm
  rw [hA]
  have hAl : A.length ≤ 10000000 := by
    have h1 := hcb n
    rw [cnt_flat, List.take_of_length_le (by omega)] at h1
    rw [HA.out, List.length_append, List.length_append, List.length_map]
    split <;> simp <;> omega
  clear hrn hrr hn hr hs hcb hA
  go_enter Tryz.func82, Tryz.ntmps82
  go_upto_region 1 with (fail)
  generalize hY : World.alloc _ _ = Y
  have gY : Below w.heap.size w Y := by rw [← hY]; go_grown
  have k0 : Y.cell? ⟨w.heap.size, 0, none⟩ = some (.int .i64 mx) := by rw [← hY]; simp [go_sem]
  have k1 : Y.cell? ⟨w.heap.size, 1, none⟩ = some (.int .i64 my) := by rw [← hY]; simp [go_sem]
  clear hY
  obtain ⟨kb, hkb⟩ : ∃ kb, w.heap.size = kb := ⟨_, rfl⟩
  rw [hkb] at k0 k1
  simp only [hkb]
  have HKB : Hid (w.heap.size = kb) := hkb
  clear hkb
  have lk : kb < Y.heap.size := World.block_lt_of_cell? Y _ k0
  have HK : Hid (∀ V, Below Y.heap.size Y V → V.cell? ⟨kb, 0, none⟩ = some (.int .i64 mx) ∧ V.cell? ⟨kb, 1, none⟩ = some (.int .i64 my)) := fun V hV => ⟨(hV.cell (p := ⟨kb, 0, none⟩) lk).trans k0, (hV.cell (p := ⟨kb, 1, none⟩) lk).trans k1⟩
  clear k0 k1
  have HRr : Hid (∀ V, Below Y.heap.size Y V → Rs rwE 4 V ra rs) := fun V hV => HRr.out V (gY.trans (hV.mono gY.size))
  have HR : Hid (∀ V, Below Y.heap.size Y V → TxRd V a xs) := fun V hV => HR.out V (gY.trans (hV.mono gY.size))
  go_upto_region 2 with (fail)
  have g1 : Below Y.heap.size Y (Y.alloc (.cells #[] 97)) := by go_grown
  have ho1 : (Y.alloc (.cells #[] 97)).ownsRow Y.heap.size 97 2 (.slice (some ⟨Y.heap.size, 0, none⟩) 0 0) ((rs.take 0).map kyR).length (flat kyE ((rs.take 0).map kyR)) := own_litK Y 97 2
  generalize Y.alloc (.cells #[] 97) = Y1 at ho1 g1 ⊢
  generalize (Value.slice (some ⟨Y.heap.size, 0, none⟩) 0 0) = v0 at ho1 ⊢
  go_wp2_with fail
  go_loopw [8, 7] (fun i v wr => ∃ j : Nat, j ≤ rn ∧ i = .int .i64 j ∧ Below Y.heap.size Y wr ∧ wr.ownsRow Y.heap.size 97 2 v ((rs.take j).map kyR).length (flat kyE ((rs.take j).map kyR))) (fun i _ _ => rn - (intOf i).toNat)
  case atStart => exact ⟨0, Nat.zero_le _, rfl, g1, ho1⟩
  case round =>
    clear g1 ho1
    obtain ⟨j, hj, rfl, g, ho⟩ := hrel
    by_cases hlt : j < rn
    · have hjn : (j : Int) < (rn : Int) := by omega
      obtain ⟨x, hx⟩ := at_lt (rs := rs) (i := j) (by rw [HRn.out]; exact hlt)
      obtain ⟨b, off, rfl, X⟩ := (HRr.out wr g).row hx
      obtain ⟨b', off', e0, X0⟩ := (HRr.out Y (Below.refl _ _)).row hx
      have hbl : b < Y.heap.size := by cases e0; exact World.block_lt_of_cell? _ _ X0.c0
      have HK1 : Hid ((rs.take (j + 1)).map kyR = (rs.take j).map kyR ++ [kyR x]) := rs_step hx
      have hml : ((rs.take j).map kyR).length ≤ 1048576 := by rw [List.length_map, List.length_take]; omega
      clear hx X0 e0
      generalize (rs.take j).map kyR = M at ho HK1 hml
      obtain ⟨xt, xk, xv, xs'⟩ := x
      obtain ⟨x0, x1, x2, x3⟩ := X
      dsimp only at x0 x1 x2 x3
      have HK1 : Hid ((rs.take (j + 1)).map kyR = M ++ [⟨xt, xk⟩]) := HK1.out
      have hS : RmS Y b (off + j * 4) xt xk wr := ⟨x0, x1, g, hbl⟩
      clear x0 x1 x2 x3
      have hlow : ∀ q, u7.ownBlock = some q → Y.heap.size ≤ q := fun q e => (World.ownsRow.lt ho q e).1
      go_upto_region 5 with (fail)
      refine wp_region_held_drew (S := RmS Y b (off + j * 4) xt xk) (by kernel_rfl) hS.drew (fun hHeld => ?_)
      have hoD := ownsRow_below ho (Below.refl _ wr).drew
      clear hS ho
      generalize wr.drew = D at hHeld hoD ⊢
      refine wpAnyH_take (i := 0) (v := ?v1) rfl (by kernel_rfl) (by kernel_rfl) (by kernel_rfl) (fun _ _ _ h => h) (Or.inl ⟨by kernel_rfl, ?h1⟩) hHeld ?_
      case h1 => intro u hSw; (obtain ⟨q0, q1, _, _⟩ := hSw); go_simp; try with_reducible rfl
      try simp only [List.getElem_toArray]
      try simp only [List.getElem_cons_succ]
      try simp only [List.getElem_cons_zero]
      try simp only [Act.put]
      try simp only [List.setIfInBounds_toArray]
      try simp only [List.set]
      refine wpAnyH_take (i := 1) (v := ?v2) rfl (by kernel_rfl) (by kernel_rfl) (by kernel_rfl) (fun _ _ _ h => h) (Or.inl ⟨by kernel_rfl, ?h2⟩) hHeld ?_
      case h2 => intro u hSw; (obtain ⟨q0, q1, _, _⟩ := hSw); go_simp; try with_reducible rfl
      try simp only [List.getElem_toArray]
      try simp only [List.getElem_cons_succ]
      try simp only [List.getElem_cons_zero]
      try simp only [Act.put]
      try simp only [List.setIfInBounds_toArray]
      try simp only [List.set]
      refine wpAnyH_take (i := 2) (v := ?v3) rfl (by kernel_rfl) (by kernel_rfl) (by kernel_rfl) (fun _ _ _ h => h) (Or.inl ⟨by kernel_rfl, ?h3⟩) hHeld ?_
      case h3 => intro u hSw; (obtain ⟨q0, q1, _, _⟩ := hSw); go_simp; try with_reducible rfl
      try simp only [List.getElem_toArray]
      try simp only [List.getElem_cons_succ]
      try simp only [List.getElem_cons_zero]
      try simp only [Act.put]
      try simp only [List.setIfInBounds_toArray]
      try simp only [List.set]
      refine wpAnyH_take (i := 3) (v := ?v4) rfl (by kernel_rfl) (by kernel_rfl) (by kernel_rfl) (fun _ _ _ h => h) (Or.inl ⟨by kernel_rfl, ?h4⟩) hHeld ?_
      case h4 => intro u hSw; (obtain ⟨q0, q1, _, _⟩ := hSw); go_simp; try with_reducible rfl
      try simp only [List.getElem_toArray]
      try simp only [List.getElem_cons_succ]
      try simp only [List.getElem_cons_zero]
      try simp only [Act.put]
      try simp only [List.setIfInBounds_toArray]
      try simp only [List.set]
      refine wpAnyH_take (i := 4) (v := ?v5) rfl (by kernel_rfl) (by kernel_rfl) (by kernel_rfl) (fun _ _ _ h => h) (Or.inl ⟨by kernel_rfl, ?h5⟩) hHeld ?_
      case h5 => intro u hSw; (obtain ⟨q0, q1, _, _⟩ := hSw); go_simp; try with_reducible rfl
      try simp only [List.getElem_toArray]
      try simp only [List.getElem_cons_succ]
      try simp only [List.getElem_cons_zero]
      try simp only [Act.put]
      try simp only [List.setIfInBounds_toArray]
      try simp only [List.set]
      refine wpAnyH_take (i := 5) (v := ?v6) rfl (by kernel_rfl) (by kernel_rfl) (by kernel_rfl) (fun _ _ _ h => h) (Or.inl ⟨by kernel_rfl, ?h6⟩) hHeld ?_
      case h6 => intro u hSw; (obtain ⟨q0, q1, _, _⟩ := hSw); go_simp; try with_reducible rfl
      try simp only [List.getElem_toArray]
      try simp only [List.getElem_cons_succ]
      try simp only [List.getElem_cons_zero]
      try simp only [Act.put]
      try simp only [List.setIfInBounds_toArray]
      try simp only [List.set]
      refine wpAnyH_take (i := 6) (v := ?v7) rfl (by kernel_rfl) (by kernel_rfl) (by kernel_rfl) (fun _ _ _ h => h) (Or.inl ⟨by kernel_rfl, ?h7⟩) hHeld ?_
      case h7 => intro u hSw; (obtain ⟨q0, q1, _, _⟩ := hSw); go_simp; try with_reducible rfl
      try simp only [List.getElem_toArray]
      try simp only [List.getElem_cons_succ]
      try simp only [List.getElem_cons_zero]
      try simp only [Act.put]
      try simp only [List.setIfInBounds_toArray]
      try simp only [List.set]
      refine wpAnyH_take (i := 7) (v := ?v8) rfl (by kernel_rfl) (by kernel_rfl) (by kernel_rfl) (fun _ _ _ h => h) (Or.inl ⟨by kernel_rfl, ?h8⟩) hHeld ?_
      case h8 => intro u hSw; (obtain ⟨q0, q1, _, _⟩ := hSw); go_simp; try with_reducible rfl
      try simp only [List.getElem_toArray]
      try simp only [List.getElem_cons_succ]
      try simp only [List.getElem_cons_zero]
      try simp only [Act.put]
      try simp only [List.setIfInBounds_toArray]
      try simp only [List.set]
      refine wpAnyH_take (i := 8) (v := ?v9) rfl (by kernel_rfl) (by kernel_rfl) (by kernel_rfl) (fun _ _ _ h => h) (Or.inl ⟨by kernel_rfl, ?h9⟩) hHeld ?_
      case h9 => intro u hSw; (obtain ⟨q0, q1, _, _⟩ := hSw); go_simp; try with_reducible rfl
      try simp only [List.getElem_toArray]
      try simp only [List.getElem_cons_succ]
      try simp only [List.getElem_cons_zero]
      try simp only [Act.put]
      try simp only [List.setIfInBounds_toArray]
      try simp only [List.set]
      refine wpAnyH_take (i := 9) (v := ?v10) rfl (by kernel_rfl) (by kernel_rfl) (by kernel_rfl) (fun _ _ _ h => h) (Or.inl ⟨by kernel_rfl, ?h10⟩) hHeld ?_
      case h10 => intro u hSw; (obtain ⟨q0, q1, _, _⟩ := hSw); go_simp; try with_reducible rfl
      try simp only [List.getElem_toArray]
      try simp only [List.getElem_cons_succ]
      try simp only [List.getElem_cons_zero]
      try simp only [Act.put]
      try simp only [List.setIfInBounds_toArray]
      try simp only [List.set]
      refine wpAnyH_take (i := 10) (v := ?v11) rfl (by kernel_rfl) (by kernel_rfl) (by kernel_rfl) (fun _ _ _ h => h) (Or.inl ⟨by kernel_rfl, ?h11⟩) hHeld ?_
      case h11 => intro u hSw; (obtain ⟨q0, q1, _, _⟩ := hSw); go_simp; try with_reducible rfl
      try simp only [List.getElem_toArray]
      try simp only [List.getElem_cons_succ]
      try simp only [List.getElem_cons_zero]
      try simp only [Act.put]
      try simp only [List.setIfInBounds_toArray]
      try simp only [List.set]
      refine wpAnyH_take (i := 11) (v := ?v12) rfl (by kernel_rfl) (by kernel_rfl) (by kernel_rfl) (fun _ _ _ h => h) (Or.inl ⟨by kernel_rfl, ?h12⟩) hHeld ?_
      case h12 => intro u hSw; (obtain ⟨q0, q1, _, _⟩ := hSw); go_simp; try with_reducible rfl
      try simp only [List.getElem_toArray]
      try simp only [List.getElem_cons_succ]
      try simp only [List.getElem_cons_zero]
      try simp only [Act.put]
      try simp only [List.setIfInBounds_toArray]
      try simp only [List.set]
      refine wpAnyH_ready (rs := [12]) (by kernel_rfl) (by simp) ?_
      refine AllReadyH.cons rfl (fun K hK => ?_) AllReadyH.nil
      go_simp
      go_wp2_with (fail)
      refine hK.out _ _ (hHeld.alloc _) (fun hHeld => ?_)
      clear hK K
      have hoB := ownsRow_below hoD ((Below.refl _ D).alloc (Nat.le_refl _) (.cells (kyE (⟨xt, xk⟩ : K2)).toArray 97))
      try simp only [Act.put]
      try simp only [List.setIfInBounds_toArray]
      try simp only [List.set]
      refine wpAnyH_ready (rs := [13]) (by kernel_rfl) (by simp) ?_
      refine AllReadyH.cons rfl (fun K hK => ?_) AllReadyH.nil
      rw [if_pos (by kernel_rfl)]
      refine wp_append_sl elK6 _ _ _ rfl Y.heap.size u7 M [(⟨xt, xk⟩ : K2)] (some ⟨D.heap.size, 0, none⟩) 1 1 rfl rfl rfl hoB (rs_one (enc := kyE) D (⟨xt, xk⟩ : K2) 97) ?m1 ?m2 ?_; rotate_left 2; intro v4 w4 ho4 hg4 _
      refine hK.out _ _ (hHeld.grow hg4 hlow) (fun hHeld => ?_)
      clear hK K
      clear hg4 hoB hoD
      try simp only [Act.put]
      try simp only [List.setIfInBounds_toArray]
      try simp only [List.set]
      refine wpAnyH_take (i := 14) (v := ?v13) rfl (by kernel_rfl) (by kernel_rfl) (by kernel_rfl) (fun _ _ _ h => h) (Or.inl ⟨by kernel_rfl, ?h13⟩) hHeld ?_
      case h13 => intro u hSw; (obtain ⟨q0, q1, _, _⟩ := hSw); go_simp; try with_reducible rfl
      try simp only [List.getElem_toArray]
      try simp only [List.getElem_cons_succ]
      try simp only [List.getElem_cons_zero]
      try simp only [Act.put]
      try simp only [List.setIfInBounds_toArray]
      try simp only [List.set]
      refine wpAnyH_done (by kernel_rfl) ?_ _
      case m1 => simp; omega
      case m2 => exact hHeld.g.size
      have g := hHeld.g
      clear hHeld hlow
      have HO : Hid (w4.ownsRow Y.heap.size 97 2 v4 ((rs.take (j + 1)).map kyR).length (flat kyE ((rs.take (j + 1)).map kyR))) := by
        rw [HK1.out]
        show World.ownsRow _ _ _ _ _ _ _
        exact ho4
      clear ho4 HK1
      go_wp2_with fail
      go_roundw
      case rel => exact ⟨j + 1, by omega, by go_num, g, HO.out⟩
      case measure => simp [intOf]; omega
    · have e : j = rn := by omega
      subst e
      have HE : Hid ((rs.take j).map kyR = rs.map kyR ++ flK (xs.take 0)) := by show _ = _; rw [List.take_of_length_le (by rw [HRn.out]; exact Nat.le_refl _)]; simp [flK]
      rw [HE.out] at ho
      clear HE
      go_upto_region 6 with (fail)
      go_wp2_with fail
      go_loopw [9, 7] (fun i v wr => ∃ (j : Nat), j ≤ n ∧ i = .int .i64 j ∧ Below Y.heap.size Y wr ∧ wr.ownsRow Y.heap.size 97 2 v (rs.map kyR ++ flK (xs.take j)).length (flat kyE (rs.map kyR ++ flK (xs.take j)))) (fun i _ _ => n - (intOf i).toNat)
      case atStart => exact ⟨0, Nat.zero_le _, rfl, g, ho⟩
      case round =>
        clear g ho
        obtain ⟨i, hi, rfl, g, ho⟩ := hrel
        by_cases hlt2 : i < n
        · have hin : (i : Int) < (n : Int) := by omega
          obtain ⟨x, hx⟩ := at_ltT (xs := xs) (i := i) (by rw [HN.out]; exact hlt2)
          obtain ⟨b, off, ua, ma, la, uc, mc, lc, e, Z⟩ := (HR.out wr g).at hx
          obtain rfl := e
          have hok := (HS.out x (List.mem_of_getElem? hx)).2.2.2
          have HK1 : Hid (rs.map kyR ++ flK (xs.take (i + 1)) = (rs.map kyR ++ flK (xs.take i)) ++ x.l) := by show _ = _; rw [fl_step hx, List.append_assoc]
          have hml : (rs.map kyR ++ flK (xs.take i)).length ≤ 8000000 := by
            have h1 := HCb.out i
            have h2 := HRn.out
            rw [List.length_append, List.length_map]
            omega
          clear hx
          generalize rs.map kyR ++ flK (xs.take i) = M at ho HK1 hml
          obtain ⟨id, us, ms, ls⟩ := x
          obtain ⟨c0, c1, c2, c3, -, -, hl⟩ := Z
          dsimp only at c0 c1 c2 c3 HK1 hl hok
          obtain ⟨ln, hln⟩ : ∃ ln, ls.length = ln := ⟨_, rfl⟩
          have HLn : Hid (ls.length = ln) := hln
          rw [hln] at c3 hok
          clear hln
          generalize us.length = un at c1
          generalize ms.length = mn at c2
          have hlow : ∀ q, u7.ownBlock = some q → Y.heap.size ≤ q := fun q e => (World.ownsRow.lt ho q e).1
          go_wp2_with (at_builtin; refine wpList_append_sl elK6 _ rfl _ _ rfl Y.heap.size _ M ls la ln lc rfl rfl HLn.out ho hl (by rw [HLn.out]; omega) g.size ?_)
          intro v4 w4 ho4 hg4 _
          have g4 : Below Y.heap.size Y w4 := Below.grown g hg4 g.size hlow
          have HO : Hid (w4.ownsRow Y.heap.size 97 2 v4 (rs.map kyR ++ flK (xs.take (i + 1))).length (flat kyE (rs.map kyR ++ flK (xs.take (i + 1))))) := by
            rw [HK1.out]
            show World.ownsRow _ _ _ _ _ _ _
            rw [List.length_append]
            exact ho4
          clear ho4 HK1 hg4 ho g c0 c1 c2 c3 hlow hl
          go_wp2_with fail
          go_roundw
          case rel => exact ⟨i + 1, by omega, by go_num, g4, HO.out⟩
          case measure => simp [intOf]; omega
        · have e : i = n := by omega
          subst e
          have HE : Hid (rs.map kyR ++ flK (xs.take i) = rs.map kyR ++ flK xs) := by show _ = _; rw [List.take_of_length_le (by rw [HN.out]; exact Nat.le_refl _)]
          rw [HE.out] at ho
          have hml : (rs.map kyR ++ flK xs).length ≤ 8000000 := by
            have h1 := HCb.out i
            rw [List.take_of_length_le (by rw [HN.out]; exact Nat.le_refl _)] at h1
            have h2 := HRn.out
            rw [List.length_append, List.length_map]
            omega
          clear HE HR HRr HCb HS
          generalize rs.map kyR ++ flK xs = M at ho HA hml
          obtain ⟨k0, k1⟩ := HK.out wr g
          go_upto_if 50 with (fail)
          go_cut [7] from 48 to 54 (fun s wc => Below Y.heap.size Y wc ∧ wc.ownsRow Y.heap.size 97 2 s A.length (flat kyE A))
          case first =>
            by_cases hmy : my = 0
            · have d : (my != 0) = false := by simp [hmy]
              have HE : Hid (A = M) := by show _ = _; rw [HA.out, if_pos hmy, List.append_nil]
              have HO : Hid (wr.ownsRow Y.heap.size 97 2 u7 A.length (flat kyE A)) := by rw [HE.out]; exact ho
              clear ho
              go_wp2_with fail
              go_meet
              case rel => exact ⟨g, HO.out⟩
            · have d : (my != 0) = true := by simpa using hmy
              have HE : Hid (A = M ++ [⟨mx, my⟩]) := by show _ = _; rw [HA.out, if_neg hmy]
              have hlow : ∀ q, u7.ownBlock = some q → Y.heap.size ≤ q := fun q e => (World.ownsRow.lt ho q e).1
              go_wp2_with (at_builtin; refine wpList_append_sl elK6 _ rfl _ _ rfl Y.heap.size _ M [(⟨mx, my⟩ : K2)] (some ⟨wr.heap.size, 0, none⟩) 1 1 rfl rfl rfl (ownsRow_below ho (by go_grown)) (rs_one (enc := kyE) wr (⟨mx, my⟩ : K2) 97) (show M.length + 1 ≤ 100000000 by omega) (by have := g.size; simp; omega) ?_)
              intro v4 w4 ho4 hg4 _
              have gAl : Below wr.heap.size wr (wr.alloc (.cells (kyE (⟨mx, my⟩ : K2)).toArray 97)) := by go_grown
              have g4 : Below Y.heap.size Y w4 := Below.grown (g.trans (gAl.mono g.size)) hg4 (by have := g.size; have := gAl.size; omega) hlow
              have HO : Hid (w4.ownsRow Y.heap.size 97 2 v4 A.length (flat kyE A)) := by rw [HE.out]; show World.ownsRow _ _ _ _ _ _ _; first | exact ho4 | (rw [List.length_append]; exact ho4)
              clear ho ho4 hg4 gAl hlow
              go_wp2_with fail
              go_meet
              case rel => exact ⟨g4, HO.out⟩
          case rest =>
            clear g ho HA hml
            obtain ⟨g, ho⟩ := hcut
            obtain ⟨a2, c2, e7, _, hi0, _⟩ := SlIn.ofRow kyE_len ho
            have hR0 := hi0.reads
            clear ho hi0
            obtain ⟨m, hm0⟩ : ∃ m, A.length = m := ⟨_, rfl⟩
            have HM : Hid (A.length = m) := hm0
            rw [hm0] at e7 hAl
            clear hm0
            subst e7
            have HRA : Hid (∀ V, Below wc.heap.size wc V → Rs kyE 2 V a2 A) := fun V hV => hR0.below hV (Nat.le_refl _)
            clear hR0
            go_upto_region 13 with (fail)
            go_wp2_with fail
            go_loopw [11, 10] (fun i v wr => ∃ p : Nat, p ≤ m ∧ i = .int .i64 p ∧ v = .int .i64 (cnN A p : Nat) ∧ Below wc.heap.size wc wr) (fun i _ _ => m - (intOf i).toNat)
            case atStart => exact ⟨0, Nat.zero_le _, rfl, rfl, Below.refl _ _⟩
            case round =>
              obtain ⟨p, hp, rfl, rfl, g3⟩ := hrel
              obtain ⟨wo, hwo⟩ : ∃ wo, wo = wr := ⟨_, rfl⟩
              subst hwo
              by_cases hlt3 : p < m
              · have hpm : (p : Int) < (m : Int) := by omega
                have hp0 : (0 : Int) ≤ (p : Int) := by omega
                obtain ⟨x, hx⟩ : ∃ x, A[p]? = some x := ⟨_, List.getElem?_eq_getElem (by rw [HM.out]; exact hlt3)⟩
                obtain ⟨xb, xo, rfl, y0, y1⟩ := (HRA.out wo g3).key hx
                have hlb : xb < wc.heap.size := by
                  obtain ⟨b1, o1, e1, z0, _⟩ := (HRA.out wc (Below.refl _ _)).key hx
                  cases e1
                  exact World.block_lt_of_cell? _ _ z0
                have HY : Hid (∀ V, Below wo.heap.size wo V → V.cell? ⟨xb, xo + p * 2, none⟩ = some (.int .i64 x.x) ∧ V.cell? ⟨xb, xo + p * 2 + 1, none⟩ = some (.int .i64 x.y)) := fun V hV => ⟨(hV.cell (p := ⟨xb, xo + p * 2, none⟩) (World.block_lt_of_cell? _ _ y0)).trans y0, (hV.cell (p := ⟨xb, xo + p * 2 + 1, none⟩) (World.block_lt_of_cell? _ _ y1)).trans y1⟩
                have HC : Hid (cnN A (p + 1) = cnN A p + if hasK (A.take p) x = true then 0 else 1) := cnN_step hx
                have hcl := cnN_le A p
                have HAx : Hid (A[p]? = some x) := hx
                clear y0 y1 hx
                obtain ⟨xt, xk⟩ := x
                generalize cnN A p = cl at HC hcl ⊢
                go_wp2_with fail
                go_loopw [13, 12] (fun k f wr => ∃ (q : Nat) (nf : Bool), q ≤ p ∧ k = .int .i64 q ∧ f = .bool nf ∧ Hid (nf = !hasK (A.take q) ⟨xt, xk⟩) ∧ Below wo.heap.size wo wr) (fun k _ _ => p - (intOf k).toNat)
                case atStart => exact ⟨0, true, Nat.zero_le _, rfl, rfl, rfl, Below.refl _ _⟩
                case round =>
                  obtain ⟨q, nf, hq, rfl, rfl, HF, g4⟩ := hrel
                  by_cases hgo : q < p ∧ nf = true
                  · obtain ⟨hqp, rfl⟩ := hgo
                    have hqi : (q : Int) < (p : Int) := by omega
                    have hqm : (q : Int) < (m : Int) := by omega
                    obtain ⟨e, he⟩ : ∃ e, A[q]? = some e := ⟨_, List.getElem?_eq_getElem (by rw [HM.out]; omega)⟩
                    obtain ⟨xb', xo', e1, x0, x1⟩ := (HRA.out wr (g3.trans (g4.mono g3.size))).key he
                    cases e1
                    obtain ⟨y0, y1⟩ := HY.out wr g4
                    have lx := World.block_lt_of_cell? _ _ y0
                    have HS1 : Hid (hasK (A.take (q + 1)) ⟨xt, xk⟩ = kEq e ⟨xt, xk⟩) := by
                      show _ = _
                      have h := HF.out
                      rw [has_take_step he]
                      rw [show hasK (A.take q) ⟨xt, xk⟩ = false by simpa using h]
                      rfl
                    clear he HF
                    obtain ⟨p1, q1⟩ := e
                    dsimp only at x0 x1 y0 y1
                    obtain ⟨f2, hf2⟩ : ∃ f2, f2 = !kEq ⟨p1, q1⟩ ⟨xt, xk⟩ := ⟨_, rfl⟩
                    have HF2 : Hid (f2 = !kEq ⟨p1, q1⟩ ⟨xt, xk⟩) := hf2
                    have HS2 : Hid (f2 = !hasK (A.take (q + 1)) ⟨xt, xk⟩) := by show _ = _; rw [HS1.out]; exact hf2
                    clear hf2 HS1
                    go_upto_region 20 with (fail)
                    refine wp_region_held_drew (S := fun V => Below wr.heap.size wr V) (by kernel_rfl) (Below.refl _ wr).drew (fun hHeld => ?_)
                    generalize wr.drew = D0 at hHeld ⊢
                    refine wpAnyH_take (i := 0) (v := ?v14) rfl (by kernel_rfl) (by kernel_rfl) (by kernel_rfl) (fun _ _ _ h => h) (Or.inl ⟨by kernel_rfl, ?h14⟩) hHeld ?_
                    case h14 => intro u hSw; clear hSw; go_simp; try with_reducible rfl
                    try simp only [List.getElem_toArray]
                    try simp only [List.getElem_cons_succ]
                    try simp only [List.getElem_cons_zero]
                    try simp only [Act.put]
                    try simp only [List.setIfInBounds_toArray]
                    try simp only [List.set]
                    refine wpAnyH_take (i := 1) (v := ?v15) rfl (by kernel_rfl) (by kernel_rfl) (by kernel_rfl) (fun _ _ _ h => h) (Or.inl ⟨by kernel_rfl, ?h15⟩) hHeld ?_
                    case h15 => intro u hSw; clear hSw; go_simp; try with_reducible rfl
                    try simp only [List.getElem_toArray]
                    try simp only [List.getElem_cons_succ]
                    try simp only [List.getElem_cons_zero]
                    try simp only [Act.put]
                    try simp only [List.setIfInBounds_toArray]
                    try simp only [List.set]
                    refine wpAnyH_take (i := 2) (v := ?v16) rfl (by kernel_rfl) (by kernel_rfl) (by kernel_rfl) (fun _ _ _ h => h) (Or.inl ⟨by kernel_rfl, ?h16⟩) hHeld ?_
                    case h16 => intro u hSw; clear hSw; go_simp; try with_reducible rfl
                    try simp only [List.getElem_toArray]
                    try simp only [List.getElem_cons_succ]
                    try simp only [List.getElem_cons_zero]
                    try simp only [Act.put]
                    try simp only [List.setIfInBounds_toArray]
                    try simp only [List.set]
                    refine wpAnyH_take (i := 3) (v := ?v17) rfl (by kernel_rfl) (by kernel_rfl) (by kernel_rfl) (fun _ _ _ h => h) (Or.inl ⟨by kernel_rfl, ?h17⟩) hHeld ?_
                    case h17 => intro u hSw; (have x0 := (hSw.cell (p := ⟨xb, xo + q * 2, none⟩) lx).trans x0); (have x1 := (hSw.cell (p := ⟨xb, xo + q * 2 + 1, none⟩) lx).trans x1); clear hSw; go_simp; try with_reducible rfl
                    try simp only [List.getElem_toArray]
                    try simp only [List.getElem_cons_succ]
                    try simp only [List.getElem_cons_zero]
                    try simp only [Act.put]
                    try simp only [List.setIfInBounds_toArray]
                    try simp only [List.set]
                    refine wpAnyH_take (i := 4) (v := ?v18) rfl (by kernel_rfl) (by kernel_rfl) (by kernel_rfl) (fun _ _ _ h => h) (Or.inl ⟨by kernel_rfl, ?h18⟩) hHeld ?_
                    case h18 => intro u hSw; clear hSw; go_simp; try with_reducible rfl
                    try simp only [List.getElem_toArray]
                    try simp only [List.getElem_cons_succ]
                    try simp only [List.getElem_cons_zero]
                    try simp only [Act.put]
                    try simp only [List.setIfInBounds_toArray]
                    try simp only [List.set]
                    refine wpAnyH_take (i := 5) (v := ?v19) rfl (by kernel_rfl) (by kernel_rfl) (by kernel_rfl) (fun _ _ _ h => h) (Or.inl ⟨by kernel_rfl, ?h19⟩) hHeld ?_
                    case h19 => intro u hSw; clear hSw; go_simp; try with_reducible rfl
                    try simp only [List.getElem_toArray]
                    try simp only [List.getElem_cons_succ]
                    try simp only [List.getElem_cons_zero]
                    try simp only [Act.put]
                    try simp only [List.setIfInBounds_toArray]
                    try simp only [List.set]
                    refine wpAnyH_take (i := 6) (v := ?v20) rfl (by kernel_rfl) (by kernel_rfl) (by kernel_rfl) (fun _ _ _ h => h) (Or.inl ⟨by kernel_rfl, ?h20⟩) hHeld ?_
                    case h20 => intro u hSw; clear hSw; go_simp; try with_reducible rfl
                    try simp only [List.getElem_toArray]
                    try simp only [List.getElem_cons_succ]
                    try simp only [List.getElem_cons_zero]
                    try simp only [Act.put]
                    try simp only [List.setIfInBounds_toArray]
                    try simp only [List.set]
                    refine wpAnyH_take (i := 7) (v := ?v21) rfl (by kernel_rfl) (by kernel_rfl) (by kernel_rfl) (fun _ _ _ h => h) (Or.inl ⟨by kernel_rfl, ?h21⟩) hHeld ?_
                    case h21 => intro u hSw; (have y0 := (hSw.cell (p := ⟨xb, xo + p * 2, none⟩) lx).trans y0); (have y1 := (hSw.cell (p := ⟨xb, xo + p * 2 + 1, none⟩) lx).trans y1); clear hSw; go_simp; try with_reducible rfl
                    try simp only [List.getElem_toArray]
                    try simp only [List.getElem_cons_succ]
                    try simp only [List.getElem_cons_zero]
                    try simp only [Act.put]
                    try simp only [List.setIfInBounds_toArray]
                    try simp only [List.set]
                    refine wpAnyH_take (i := 8) (v := .bool f2) rfl (by kernel_rfl) (by kernel_rfl) (by kernel_rfl) (fun _ _ _ h => h) (Or.inl ⟨by kernel_rfl, ?hq2⟩) hHeld ?_
                    case hq2 =>
                      intro u hSw
                      clear hSw hHeld
                      go_simp
                      rw [HF2.out]
                      repeat' split
                      all_goals simp [kEq, *]
                    try simp only [List.getElem_toArray]
                    try simp only [List.getElem_cons_succ]
                    try simp only [List.getElem_cons_zero]
                    try simp only [Act.put]
                    try simp only [List.setIfInBounds_toArray]
                    try simp only [List.set]
                    refine wpAnyH_take (i := 9) (v := ?v22) rfl (by kernel_rfl) (by kernel_rfl) (by kernel_rfl) (fun _ _ _ h => h) (Or.inl ⟨by kernel_rfl, ?h22⟩) hHeld ?_
                    case h22 => intro u hSw; clear hSw; go_simp; try with_reducible rfl
                    try simp only [List.getElem_toArray]
                    try simp only [List.getElem_cons_succ]
                    try simp only [List.getElem_cons_zero]
                    try simp only [Act.put]
                    try simp only [List.setIfInBounds_toArray]
                    try simp only [List.set]
                    refine wpAnyH_done (by kernel_rfl) ?_ _
                    have g4 := g4.trans (hHeld.mono g4.size)
                    clear hHeld x0 x1 y0 y1 lx HF2
                    go_wp2_with fail
                    go_roundw
                    case rel => exact ⟨q + 1, f2, by omega, by go_num, rfl, HS2, g4⟩
                    case measure => simp [intOf]; omega
                  · have HE : Hid (nf = !hasK (A.take p) ⟨xt, xk⟩) := by
                      show _ = _
                      have h := HF.out
                      by_cases e : q = p
                      · rw [← e]; exact h
                      · have hnf : nf = false := by
                          cases nf
                          · rfl
                          · exact absurd ⟨by omega, rfl⟩ hgo
                        rw [hnf] at h
                        have h2 : hasK (A.take q) ⟨xt, xk⟩ = true := by simpa using h
                        rw [hnf, has_take_mono hq h2]
                        rfl
                    have g4 : Below wc.heap.size wc wr := g3.trans (g4.mono g3.size)
                    clear HF
                    by_cases hqp : q < p
                    · have hqi : (q : Int) < (p : Int) := by omega
                      have hnf : nf = false := by
                        cases nf
                        · rfl
                        · exact absurd ⟨hqp, rfl⟩ hgo
                      subst hnf
                      have HX : Hid (cnN A (p + 1) = cl) := by show _ = _; rw [HC.out, if_pos (by have h := HE.out; simpa using h)]; rfl
                      clear HC HE
                      go_wp2_with fail
                      go_roundw
                      case rel => exact ⟨p + 1, by omega, by go_num, by rw [HX.out], g4⟩
                      case measure => simp [intOf]; omega
                    · have hqi : ¬ (q : Int) < (p : Int) := by omega
                      cases nf
                      · have HX : Hid (cnN A (p + 1) = cl) := by show _ = _; rw [HC.out, if_pos (by have h := HE.out; simpa using h)]; rfl
                        clear HC HE
                        go_wp2_with fail
                        go_roundw
                        case rel => exact ⟨p + 1, by omega, by go_num, by rw [HX.out], g4⟩
                        case measure => simp [intOf]; omega
                      · have HX : Hid (cnN A (p + 1) = cl + 1) := by show _ = _; rw [HC.out, if_neg (by have h := HE.out; simpa using h)]
                        clear HC HE
                        go_wp2_with fail
                        go_roundw
                        case rel => exact ⟨p + 1, by omega, by go_num, by rw [HX.out]; go_num, g4⟩
                        case measure => simp [intOf]; omega
              · have e : p = m := by omega
                subst e
                have HX : Hid (cnN A p = (A.foldl withL []).length) := cnN_all HM.out
                obtain ⟨z, hz⟩ : ∃ z, (A.foldl withL []).length = z := ⟨_, rfl⟩
                have HZ : Hid ((A.foldl withL []).length = z) := hz
                rw [HX.out, hz]
                clear hz HX
                go_wp2_with fail
                go_ret
                exact ⟨by rw [HZ.out]; rfl, gY.trans ((g.trans (g3.mono g.size)).mono gY.size)⟩

end Go.Proofs.YtpjlpnaamkbicaaGreatDoor
