/-
  The model's l3Diff.
-/
import Derived.Test.YtcjkjenebnodbaaDoorSDlm

namespace Go.Proofs.YtcjkjenebnodbaaDoor.Df
open Go.RowKit
set_option linter.unusedVariables false


theorem row_succ {W : World} {base : Nat} {e : TypeId} {size : Nat} {v : Value} {k : Nat} {xs : List Value} (h : W.ownsRow base e size v (k + 1) xs) : ∃ g cap, v = .slice (some ⟨g, 0, none⟩) (k + 1) cap := by
  rcases h.2 with ⟨_, h0⟩ | ⟨g, cap, cur, hv, _⟩
  · omega
  · exact ⟨g, cap, hv⟩
theorem dl_keep {W V : World} {p : Addr} {u : Value} (h : W.cell? p = some u) (hb : Below W.heap.size W V) : V.cell? p = some u := (hb.cell (World.block_lt_of_cell? W p h)).trans h

theorem dn_count (za zb : List Int) (N k : Nat) : (dn za zb N k).length ≤ N - k := by
  by_cases h : k < N
  · by_cases h1 : 1 ≤ rn za zb N k
    · rw [dn_span h h1, List.length_cons]
      have := dn_count za zb N (k + rn za zb N k + 1)
      omega
    · rw [dn_none h (by omega)]
      have := dn_count za zb N (k + 1)
      omega
  · rw [dn_end h]; simp
termination_by N - k
decreasing_by all_goals omega

/-- Did the pages differ just ahead of i? -/
def openB (za zb : List Int) (i : Nat) : Bool := decide (0 < i ∧ byt za (i - 1) ≠ byt zb (i - 1))



set_option maxHeartbeats 8000000 in
theorem l3DiffD_any (a : Option Addr) (za : List Int) (c1 : Nat) (b : Option Addr) (zb : List Int) (c2 : Nat) (w : World) (h1 : za.length = 64) (h2 : zb.length = 64) (ha : Reads w a za) (hb : Reads w b zb) :
    Calls Tryd.prog 46 #[.slice a 64 c1, .slice b 64 c2] w fun e w' => ∃ a' c' V' B', e = .returned (.slice a' (dn za zb 64 0).length c') ∧ Below w.heap.size w w' ∧ Dlt w.heap.size w' (.slice a' (dn za zb 64 0).length c') (dn za zb 64 0).length (rP (dn za zb 64 0)) V' (rZ zb (dn za zb 64 0)) B' := by
  obtain ⟨i0, hi, hz0, hz1, hz2⟩ := info5
  obtain ⟨i5, hi5, hz50, hz51, hz52⟩ := info35
  obtain ⟨ab, aoff, rfl⟩ : ∃ b off, a = some ⟨b, off, none⟩ := by
    rcases ha with h0 | ⟨b, off, hb, _⟩
    · rw [h0] at h1; simp at h1
    · exact ⟨b, off, hb⟩
  obtain ⟨bb, boff, rfl⟩ : ∃ bq off, b = some ⟨bq, off, none⟩ := by
    rcases hb with h0 | ⟨bq, off, hb, _⟩
    · rw [h0] at h2; simp at h2
    · exact ⟨bq, off, hb⟩
  have HA : Hid (∀ i, i < 64 → w.cell? ⟨ab, aoff + i, none⟩ = some (.int .u8 (byt za i))) := fun i hi => reads_at ha i (by omega)
  have HB : Hid (∀ i, i < 64 → w.cell? ⟨bb, boff + i, none⟩ = some (.int .u8 (byt zb i))) := fun i hi => reads_at hb i (by omega)
  have hab : ab < w.heap.size := World.block_lt_of_cell? w _ (HA.out 0 (by omega))
  have hbb : bb < w.heap.size := World.block_lt_of_cell? w _ (HB.out 0 (by omega))
  have HL2 : Hid (zb.length = 64) := h2
  clear ha hb h1 h2
  go_enter Tryd.func46, Tryd.ntmps46
  go_wp2_with fail
  have hD0 : Dlt w.heap.size (w.alloc (.cells #[] 82)) (.slice (some ⟨w.heap.size, 0, none⟩) 0 0) (dn za zb 0 0).length (rP (dn za zb 0 0)) (fun _ => .slice none 0 0) (rZ zb (dn za zb 0 0)) (fun _ => 0) := by
    rw [dn_end (N := 0) (k := 0) (by omega)]
    refine ⟨?_, fun i hi => absurd hi (Nat.not_lt_zero _), fun i hi => absurd hi (Nat.not_lt_zero _), fun i j _ hj => absurd hj (Nat.not_lt_zero _), fun i hi => absurd hi (Nat.not_lt_zero _)⟩
    simpa [dcells] using World.ownsRow_lit (base := w.heap.size) (e := 82) (size := 2) w #[] 0 (Nat.le_refl _) (by unfold maxLen; omega) rfl
  have g0 : Below w.heap.size w (w.alloc (.cells #[] 82)) := (Below.refl _ _).alloc (Nat.le_refl _) _
  go_loopw [7, 5, 6] (fun ii vv oo wr => ∃ (i : Nat) (v : Value) (o : Bool) (V : Nat → Value) (B : Nat → Nat), i ≤ 64 ∧ ii = .int .i64 i ∧ vv = v ∧ oo = .bool o ∧ Hid (o = openB za zb i) ∧ (∃ g cap, v = .slice (some ⟨g, 0, none⟩) (dn za zb i 0).length cap) ∧ Dlt w.heap.size wr v (dn za zb i 0).length (rP (dn za zb i 0)) V (rZ zb (dn za zb i 0)) B ∧ Below w.heap.size w wr) (fun ii _ _ _ => 64 - (intOf ii).toNat)
  case atStart => exact ⟨0, _, false, _, _, by omega, rfl, rfl, rfl, by show _ = _; simp [openB], ⟨_, _, by rw [dn_end (N := 0) (k := 0) (by omega)]; rfl⟩, hD0, g0⟩
  case round =>
    obtain ⟨i, v, o, V, B, hi64, rfl, rfl, rfl, HO0, ⟨g, cap, rfl⟩, hD, gW⟩ := hrel
    clear hD0 g0
    by_cases hlt : i < 64
    · have hin : (i : Int) < 64 := by omega
      have ca := (gW.cell (p := ⟨ab, aoff + i, none⟩) hab).trans (HA.out i hlt)
      have cb := (gW.cell (p := ⟨bb, boff + i, none⟩) hbb).trans (HB.out i hlt)
      obtain ⟨z, hz⟩ : ∃ z, z = byt zb i := ⟨_, rfl⟩
      obtain ⟨y, hy⟩ : ∃ y, y = byt za i := ⟨_, rfl⟩
      rw [← hz] at cb
      rw [← hy] at ca
      by_cases heq : y = z
      · have HE : Hid (dn za zb (i + 1) 0 = dn za zb i 0 ∧ openB za zb (i + 1) = false) := by
          have e : byt za i = byt zb i := by rw [← hy, ← hz]; exact heq
          refine ⟨dn_alike e 0, ?_⟩
          simp [openB, e]
        have dz : (y == z) = true := by simpa using heq
        clear hz hy heq
        go_wp2_with fail
        go_quiet (fail)
        have gq : Below wr.heap.size wr (wr.drewN nq) := below_draws (Below.refl _ _) nq
        have hD := hD.below gq
        have gW := below_draws gW nq
        go_wp2_with fail
        go_roundw
        case rel => exact ⟨i + 1, _, false, V, B, by omega, by go_num, rfl, rfl, by show _ = _; rw [HE.out.2], ⟨g, cap, by rw [HE.out.1]⟩, by rw [HE.out.1]; exact hD, gW⟩
        case measure => simp [intOf]; omega
      · have hdf : byt za i ≠ byt zb i := by rw [← hy, ← hz]; exact heq
        have dz : (y == z) = false := by simpa using heq
        have HO : Hid (true = openB za zb (i + 1)) := by show _ = _; simp [openB, hdf]
        have HZ0 : Hid (z = byt zb i) := hz
        have HDf : Hid (byt za i ≠ byt zb i) := hdf
        clear hz hy heq hdf
        cases o
        · have hop : i = 0 ∨ byt za (i - 1) = byt zb (i - 1) := by
            have := HO0.out
            simp only [openB] at this
            by_cases h0 : i = 0
            · exact .inl h0
            · refine .inr ?_
              by_cases h3 : byt za (i - 1) = byt zb (i - 1)
              · exact h3
              · exact absurd this (by simp [h3]; omega)
          have hL3 := dn_new HDf.out hop 0 (Nat.zero_le _)
          obtain ⟨k, hkL⟩ : ∃ k, k = (dn za zb i 0).length := ⟨_, rfl⟩
          have HLn : Hid ((dn za zb (i + 1) 0).length = k + 1) := by show _ = _; rw [hL3, List.length_append, hkL]; rfl
          have hk64 : k ≤ 64 := by have := dn_count za zb i 0; omega
          obtain ⟨P, hP⟩ : ∃ P, P = rP (dn za zb (i + 1) 0) := ⟨_, rfl⟩
          obtain ⟨Z, hZ⟩ : ∃ Z : Nat → List Int, Z = fun j => if j = k then [] else rZ zb (dn za zb i 0) j := ⟨_, rfl⟩
          have HPk : Hid (P k = (i : Nat)) := by show _ = _; rw [hP, hL3, hkL]; exact rP_eq _ (i, 1)
          have HZk : Hid (Z k = []) := by show _ = _; rw [hZ]; simp only [if_true]
          have hD := hD.congr (P' := P) (Z' := Z) (fun j hj => ⟨by rw [hP, hL3]; exact (rP_lt _ _ j hj).symm, by rw [hZ]; simp only; rw [if_neg (by omega)]⟩)
          rw [← hkL] at hD ⊢
          have HF0 : Hid (∀ (W : World) (g cap : Nat) (V : Nat → Value) (B : Nat → Nat) (u : Value), Dlt w.heap.size W (.slice (some ⟨g, 0, none⟩) (k + 1) cap) (k + 1) P (fun i => if i = k then u else V i) (fun i => if i = k then Z k ++ [z] else Z i) B → ∃ V' B', Dlt w.heap.size W (.slice (some ⟨g, 0, none⟩) (k + 1) cap) (dn za zb (i + 1) 0).length (rP (dn za zb (i + 1) 0)) V' (rZ zb (dn za zb (i + 1) 0)) B') := fun W g cap V B u h => by
            rw [HLn.out]
            refine ⟨_, _, h.congr (fun j hj => ⟨by rw [hP], ?_⟩)⟩
            rw [hL3]
            by_cases e : j = k
            · subst e
              rw [if_pos rfl, HZk.out, List.nil_append, hkL, rZ_eq, HZ0.out]
              exact (take_more zb i 0 (by rw [HL2.out]; omega)).symm
            · rw [if_neg e, hZ]
              simp only
              rw [if_neg e, rZ_lt zb _ _ j (by omega)]
          clear hP hZ hL3 hkL hop HO0
          go_wp2_with fail
          go_quiet (fail)
          have gq : Below wr.heap.size wr (wr.drewN nq) := below_draws (Below.refl _ _) nq
          have hD := hD.below gq
          have gD := below_draws gW nq
          generalize wr.drewN nq = wq at hD gD ⊢
          clear gW gq ca cb
          have gT : Below wq.heap.size wq (wq.alloc (.cells #[.int .i64 (i : Nat), .slice none 0 0] 82)) := (Below.refl _ _).alloc (Nat.le_refl _) _
          go_wp2_with (at_builtin; refine wpList_append_own _ rfl _ _ 25 rfl w.heap.size 82 i5 (.agg #[.int .i64 0, .slice none 0 0]) 2 32 Tryd.underlying25 hi5 hz50 hz51 hz52 rfl (by decide) _ _ _ rfl (hD.row.alloc _) ⟨wq.heap.size, 0, none⟩ 1 1 [.int .i64 (i : Nat), .slice none 0 0] rfl rfl ?n1 ?n2 ?n3 ?n4 ?n5 ?_)
          case n1 =>
            intro j u hu
            match j, hu with
            | 0, hu => simp at hu; subst hu; simp [go_sem, Addr.add]
            | 1, hu => simp at hu; subst hu; simp [go_sem, Addr.add]
          case n2 =>
            intro u hu
            simp at hu
            rcases hu with rfl | rfl <;> rfl
          case n3 => unfold maxLen; omega
          case n4 => omega
          case n5 => have := gD.size; simp; omega
          intro v' w6 hown' hgrow _
          obtain ⟨g, cap, rfl⟩ := row_succ hown'
          have hD2 := (hD.below gT).open_ (v' := .slice (some ⟨g, 0, none⟩) (k + 1) cap) (by rw [HPk.out]; exact hown') hgrow HZk.out (by have := gD.size; simp; omega)
          have hlo : ∀ j, (Value.slice (some ⟨_, 0, none⟩) k _).ownBlock = some j → w.heap.size ≤ j := fun j e => (hD.row.lt j e).1
          have gD : Below w.heap.size w w6 := (gD.trans (gT.mono gD.size)).grown hgrow (by have := gD.size; simp; omega) hlo
          obtain ⟨V, B, hD⟩ : ∃ V B, Dlt w.heap.size w6 (.slice (some ⟨g, 0, none⟩) (k + 1) cap) (k + 1) P V Z B := ⟨_, _, hD2⟩
          have HF : Hid (∀ W u, Dlt w.heap.size W (.slice (some ⟨g, 0, none⟩) (k + 1) cap) (k + 1) P (fun i => if i = k then u else V i) (fun i => if i = k then Z k ++ [z] else Z i) B → ∃ V' B', Dlt w.heap.size W (.slice (some ⟨g, 0, none⟩) (k + 1) cap) (dn za zb (i + 1) 0).length (rP (dn za zb (i + 1) 0)) V' (rZ zb (dn za zb (i + 1) 0)) B') := fun W u h => HF0.out W g cap V B u h
          have cb : w6.cell? ⟨bb, boff + i, none⟩ = some (.int .u8 z) := by rw [HZ0.out]; exact (gD.cell (p := ⟨bb, boff + i, none⟩) hbb).trans (HB.out i hlt)
          have hzl : (Z k).length ≤ 64 := by rw [HZk.out]; simp
          have ikk : ((k : Int) + 1 - 1) = (k : Int) := by omega
          clear hD2 hlo hown' hgrow gT HF0 hi5 hz50 hz51 hz52
          go_upto_region 12 with (fail)
          refine wp_region_held_drew (S := fun V' => V'.cell? ⟨bb, boff + i, none⟩ = some (.int .u8 z)) (by kernel_rfl) (dl_keep cb (Below.refl _ _).drew) (fun hHeld => ?_)
          have hD := hD.below (W' := (w6).drew) (Below.refl _ _).drew
          have gD := gD.drew
          generalize (w6).drew = D at hHeld hD gD ⊢
          clear cb
          refine wpAnyH_take (i := 0) (v := .pointer (some ⟨g, k * 2, none⟩)) rfl (by kernel_rfl) (by kernel_rfl) (by kernel_rfl) (fun _ _ _ h => h) (Or.inl ⟨by kernel_rfl, fun u hSw => by (try dsimp only at hSw); go_simp; try with_reducible rfl⟩) hHeld ?_
          try simp only [List.getElem_toArray]
          try simp only [List.getElem_cons_succ]
          try simp only [List.getElem_cons_zero]
          try simp only [Act.put]
          try simp only [List.setIfInBounds_toArray]
          try simp only [List.set]
          refine wpAnyH_take (i := 1) (v := .pointer (some ⟨g, k * 2, none⟩)) rfl (by kernel_rfl) (by kernel_rfl) (by kernel_rfl) (fun _ _ _ h => h) (Or.inl ⟨by kernel_rfl, fun u hSw => by (try dsimp only at hSw); go_simp; try with_reducible rfl⟩) hHeld ?_
          try simp only [List.getElem_toArray]
          try simp only [List.getElem_cons_succ]
          try simp only [List.getElem_cons_zero]
          try simp only [Act.put]
          try simp only [List.setIfInBounds_toArray]
          try simp only [List.set]
          refine wpAnyH_take (i := 2) (v := .pointer (some ⟨g, k * 2, none⟩)) rfl (by kernel_rfl) (by kernel_rfl) (by kernel_rfl) (fun _ _ _ h => h) (Or.inl ⟨by kernel_rfl, fun u hSw => by (try dsimp only at hSw); go_simp; try with_reducible rfl⟩) hHeld ?_
          try simp only [List.getElem_toArray]
          try simp only [List.getElem_cons_succ]
          try simp only [List.getElem_cons_zero]
          try simp only [Act.put]
          try simp only [List.setIfInBounds_toArray]
          try simp only [List.set]
          refine wpAnyH_take (i := 3) (v := .pointer (some ⟨g, k * 2 + 1, none⟩)) rfl (by kernel_rfl) (by kernel_rfl) (by kernel_rfl) (fun _ _ _ h => h) (Or.inl ⟨by kernel_rfl, fun u hSw => by (try dsimp only at hSw); go_simp; try with_reducible rfl⟩) hHeld ?_
          try simp only [List.getElem_toArray]
          try simp only [List.getElem_cons_succ]
          try simp only [List.getElem_cons_zero]
          try simp only [Act.put]
          try simp only [List.setIfInBounds_toArray]
          try simp only [List.set]
          refine wpAnyH_take (i := 5) (v := .slice (some ⟨bb, boff, none⟩) 64 c2) rfl (by kernel_rfl) (by kernel_rfl) (by kernel_rfl) (fun _ _ _ h => h) (Or.inl ⟨by kernel_rfl, fun u hSw => by (try dsimp only at hSw); go_simp; try with_reducible rfl⟩) hHeld ?_
          try simp only [List.getElem_toArray]
          try simp only [List.getElem_cons_succ]
          try simp only [List.getElem_cons_zero]
          try simp only [Act.put]
          try simp only [List.setIfInBounds_toArray]
          try simp only [List.set]
          refine wpAnyH_take (i := 6) (v := .int .i64 i) rfl (by kernel_rfl) (by kernel_rfl) (by kernel_rfl) (fun _ _ _ h => h) (Or.inl ⟨by kernel_rfl, fun u hSw => by (try dsimp only at hSw); go_simp; try with_reducible rfl⟩) hHeld ?_
          try simp only [List.getElem_toArray]
          try simp only [List.getElem_cons_succ]
          try simp only [List.getElem_cons_zero]
          try simp only [Act.put]
          try simp only [List.setIfInBounds_toArray]
          try simp only [List.set]
          refine wpAnyH_take (i := 7) (v := .pointer (some ⟨bb, boff + i, none⟩)) rfl (by kernel_rfl) (by kernel_rfl) (by kernel_rfl) (fun _ _ _ h => h) (Or.inl ⟨by kernel_rfl, fun u hSw => by (try dsimp only at hSw); go_simp; try with_reducible rfl⟩) hHeld ?_
          try simp only [List.getElem_toArray]
          try simp only [List.getElem_cons_succ]
          try simp only [List.getElem_cons_zero]
          try simp only [Act.put]
          try simp only [List.setIfInBounds_toArray]
          try simp only [List.set]
          refine wpAnyH_take (i := 8) (v := .int .u8 z) rfl (by kernel_rfl) (by kernel_rfl) (by kernel_rfl) (fun _ _ _ h => h) (Or.inl ⟨by kernel_rfl, fun u hSw => by (try dsimp only at hSw); go_simp; try with_reducible rfl⟩) hHeld ?_
          try simp only [List.getElem_toArray]
          try simp only [List.getElem_cons_succ]
          try simp only [List.getElem_cons_zero]
          try simp only [Act.put]
          try simp only [List.setIfInBounds_toArray]
          try simp only [List.set]
          have hrowD := hD.row
          have cD : D.cell? ⟨g, k * 2 + 1, none⟩ = some (V k) := by rw [hrowD.cellAt (k * 2 + 1) (by omega)]; exact (dcells_at P V (k + 1) k (by omega)).2
          have hgl : g < D.heap.size := World.block_lt_of_cell? D _ cD
          have hgw0 : w.heap.size ≤ g := (hrowD.lt g rfl).1
          clear hrowD
          have vk : ∃ xa xl xc, V k = .slice xa xl xc := by
            rcases (hD.by' k (by omega)).2 with ⟨e, _⟩ | ⟨_, _, _, e, _⟩
            · exact ⟨_, _, _, e⟩
            · exact ⟨_, _, _, e⟩
          obtain ⟨xa, xl, xc, hvk⟩ := vk
          refine wpAnyH_ready (rs := [4, 9]) (by kernel_rfl) (by simp) ?_
          refine AllReadyH.cons rfl (fun K hK => ?_) (AllReadyH.cons rfl (fun K hK => ?_) AllReadyH.nil)
          ·
            have c4 := cD
            go_simp
            go_wp2_with fail
            refine hK.out _ _ hHeld (fun hHeld => ?_)
            clear hK K c4
            try simp only [Act.put]
            try simp only [List.setIfInBounds_toArray]
            try simp only [List.set]
            refine wpAnyH_ready (rs := [9]) (by kernel_rfl) (by simp) ?_
            refine AllReadyH.cons rfl (fun K hK => ?_) AllReadyH.nil
            go_simp
            go_wp2_with fail
            refine hK.out _ _ (dl_keep hHeld ((Below.refl _ _).alloc (Nat.le_refl _) _)) (fun hHeld => ?_)
            clear hK K
            try simp only [Act.put]
            try simp only [List.setIfInBounds_toArray]
            try simp only [List.set]
            have gT : Below D.heap.size D (D.alloc (.cells #[.int .u8 z] 5)) := (Below.refl _ D).alloc (Nat.le_refl _) _
            have hD3 := hD.below gT
            have gD3 := gD.trans (gT.mono gD.size)
            refine wpAnyH_ready (rs := [10]) (by kernel_rfl) (by simp) ?_
            refine AllReadyH.cons rfl (fun K hK => ?_) AllReadyH.nil
            rw [if_pos (by kernel_rfl)]
            refine wp_append_own _ _ _ 22 rfl (B k) 5 i0 (.int .u8 0) 1 1 Tryd.underlying22 hi hz0 hz1 hz2 rfl (by decide) (V k) (Z k).length ((Z k).map (Value.int .u8)) hvk.symm (hD3.by' k (by omega)) ⟨D.heap.size, 0, none⟩ 1 1 [.int .u8 z] rfl rfl (by
              intro j u hu
              match j, hu with
              | 0, hu => simp at hu; subst hu; simp [go_sem, Addr.add]) (by
              intro u hu
              simp at hu
              subst hu
              rfl) (by unfold maxLen; omega) (by omega) (hD3.hi k (by omega)) ?_
            intro u w6 hown' hgrow _
            obtain ⟨gu, cu, rfl⟩ := row_succ hown'
            have hD6 := hD3.more rfl hown' hgrow
            have hrow6 := hD3.row.kept hgrow (rows_apart hD3.row (hD3.by' k (by omega)))
            have c6 : w6.cell? ⟨g, k * 2 + 1, none⟩ = some (V k) := by rw [hrow6.cellAt (k * 2 + 1) (by omega)]; exact (dcells_at P V (k + 1) k (by omega)).2
            have f6 : w6.frozen? ⟨g, k * 2 + 1, none⟩ = false := hrow6.frozenAt _
            have hlo : ∀ j, (V k).ownBlock = some j → w.heap.size ≤ j := fun j e => Nat.le_trans (hD3.lo k (by omega)) ((hD3.by' k (by omega)).lt j e).1
            have g6 : Below w.heap.size w w6 := gD3.grown hgrow gD3.size hlo
            have hHeld6 : w6.cell? ⟨bb, boff + i, none⟩ = some (.int .u8 z) := hgrow.cell hHeld (fun e => by have := hlo _ e.symm; simp only at this; omega)
            refine hK.out _ _ hHeld6 (fun hHeld => ?_)
            clear hK K hHeld6 hD3 gD3 gT hown' hrow6 hlo
            try simp only [Act.put]
            try simp only [List.setIfInBounds_toArray]
            try simp only [List.set]
            refine wpAnyH_take (i := 11) (v := .pointer (some ⟨g, k * 2, none⟩)) rfl (by kernel_rfl) (by kernel_rfl) (by kernel_rfl) (fun _ _ _ h => h) (Or.inl ⟨by kernel_rfl, fun u hSw => by (try dsimp only at hSw); go_simp; try with_reducible rfl⟩) hHeld ?_
            try simp only [List.getElem_toArray]
            try simp only [List.getElem_cons_succ]
            try simp only [List.getElem_cons_zero]
            try simp only [Act.put]
            try simp only [List.setIfInBounds_toArray]
            try simp only [List.set]
            refine wpAnyH_take (i := 12) (v := .pointer (some ⟨g, k * 2 + 1, none⟩)) rfl (by kernel_rfl) (by kernel_rfl) (by kernel_rfl) (fun _ _ _ h => h) (Or.inl ⟨by kernel_rfl, fun u hSw => by (try dsimp only at hSw); go_simp; try with_reducible rfl⟩) hHeld ?_
            try simp only [List.getElem_toArray]
            try simp only [List.getElem_cons_succ]
            try simp only [List.getElem_cons_zero]
            try simp only [Act.put]
            try simp only [List.setIfInBounds_toArray]
            try simp only [List.set]
            refine wpAnyH_ready (rs := [13]) (by kernel_rfl) (by simp) ?_
            refine AllReadyH.cons rfl (fun K hK => ?_) AllReadyH.nil
            have hgw : w.heap.size ≤ g := hgw0
            go_simp
            go_wp2_with fail
            have g7 : Below w.heap.size w (w6.setCell ⟨g, k * 2 + 1, none⟩ (.slice (some ⟨gu, 0, none⟩) ((Z k).length + 1) cu)) := g6.setCell (by simp only; exact hgw) _
            have hHeld7 : (w6.setCell ⟨g, k * 2 + 1, none⟩ (.slice (some ⟨gu, 0, none⟩) ((Z k).length + 1) cu)).cell? ⟨bb, boff + i, none⟩ = some (.int .u8 z) := by rw [World.cell?_setCell_far _ _ _ _ (by simp only; omega)]; exact hHeld
            generalize w6.setCell ⟨g, k * 2 + 1, none⟩ (.slice (some ⟨gu, 0, none⟩) ((Z k).length + 1) cu) = w7 at hD6 g7 hHeld7 ⊢
            refine hK.out _ _ hHeld7 (fun hHeld => ?_)
            clear hK K c6 f6 g6 hHeld7 hHeld hD hgrow
            refine wpAnyH_done (by kernel_rfl) ?_ _
            have HDF := HF.out w7 _ hD6
            obtain ⟨V', B', HDF⟩ := HDF
            clear hD6 gD
            go_wp2_with fail
            go_roundw
            case rel => exact ⟨i + 1, _, _, V', B', by omega, by go_num, rfl, rfl, HO, ⟨g, cap, by rw [HLn.out]⟩, HDF, g7⟩
            case measure => simp [intOf]; omega
          ·
            go_simp
            go_wp2_with fail
            refine hK.out _ _ (dl_keep hHeld ((Below.refl _ _).alloc (Nat.le_refl _) _)) (fun hHeld => ?_)
            clear hK K
            try simp only [Act.put]
            try simp only [List.setIfInBounds_toArray]
            try simp only [List.set]
            refine wpAnyH_ready (rs := [4]) (by kernel_rfl) (by simp) ?_
            refine AllReadyH.cons rfl (fun K hK => ?_) AllReadyH.nil
            have c4 := (((Below.refl _ D).alloc (Nat.le_refl _) (.cells #[.int .u8 z] 5) : Below D.heap.size D (D.alloc (.cells #[.int .u8 z] 5))).cell (p := ⟨g, k * 2 + 1, none⟩) hgl).trans cD
            go_simp
            go_wp2_with fail
            refine hK.out _ _ hHeld (fun hHeld => ?_)
            clear hK K c4
            try simp only [Act.put]
            try simp only [List.setIfInBounds_toArray]
            try simp only [List.set]
            have gT : Below D.heap.size D (D.alloc (.cells #[.int .u8 z] 5)) := (Below.refl _ D).alloc (Nat.le_refl _) _
            have hD3 := hD.below gT
            have gD3 := gD.trans (gT.mono gD.size)
            refine wpAnyH_ready (rs := [10]) (by kernel_rfl) (by simp) ?_
            refine AllReadyH.cons rfl (fun K hK => ?_) AllReadyH.nil
            rw [if_pos (by kernel_rfl)]
            refine wp_append_own _ _ _ 22 rfl (B k) 5 i0 (.int .u8 0) 1 1 Tryd.underlying22 hi hz0 hz1 hz2 rfl (by decide) (V k) (Z k).length ((Z k).map (Value.int .u8)) hvk.symm (hD3.by' k (by omega)) ⟨D.heap.size, 0, none⟩ 1 1 [.int .u8 z] rfl rfl (by
              intro j u hu
              match j, hu with
              | 0, hu => simp at hu; subst hu; simp [go_sem, Addr.add]) (by
              intro u hu
              simp at hu
              subst hu
              rfl) (by unfold maxLen; omega) (by omega) (hD3.hi k (by omega)) ?_
            intro u w6 hown' hgrow _
            obtain ⟨gu, cu, rfl⟩ := row_succ hown'
            have hD6 := hD3.more rfl hown' hgrow
            have hrow6 := hD3.row.kept hgrow (rows_apart hD3.row (hD3.by' k (by omega)))
            have c6 : w6.cell? ⟨g, k * 2 + 1, none⟩ = some (V k) := by rw [hrow6.cellAt (k * 2 + 1) (by omega)]; exact (dcells_at P V (k + 1) k (by omega)).2
            have f6 : w6.frozen? ⟨g, k * 2 + 1, none⟩ = false := hrow6.frozenAt _
            have hlo : ∀ j, (V k).ownBlock = some j → w.heap.size ≤ j := fun j e => Nat.le_trans (hD3.lo k (by omega)) ((hD3.by' k (by omega)).lt j e).1
            have g6 : Below w.heap.size w w6 := gD3.grown hgrow gD3.size hlo
            have hHeld6 : w6.cell? ⟨bb, boff + i, none⟩ = some (.int .u8 z) := hgrow.cell hHeld (fun e => by have := hlo _ e.symm; simp only at this; omega)
            refine hK.out _ _ hHeld6 (fun hHeld => ?_)
            clear hK K hHeld6 hD3 gD3 gT hown' hrow6 hlo
            try simp only [Act.put]
            try simp only [List.setIfInBounds_toArray]
            try simp only [List.set]
            refine wpAnyH_take (i := 11) (v := .pointer (some ⟨g, k * 2, none⟩)) rfl (by kernel_rfl) (by kernel_rfl) (by kernel_rfl) (fun _ _ _ h => h) (Or.inl ⟨by kernel_rfl, fun u hSw => by (try dsimp only at hSw); go_simp; try with_reducible rfl⟩) hHeld ?_
            try simp only [List.getElem_toArray]
            try simp only [List.getElem_cons_succ]
            try simp only [List.getElem_cons_zero]
            try simp only [Act.put]
            try simp only [List.setIfInBounds_toArray]
            try simp only [List.set]
            refine wpAnyH_take (i := 12) (v := .pointer (some ⟨g, k * 2 + 1, none⟩)) rfl (by kernel_rfl) (by kernel_rfl) (by kernel_rfl) (fun _ _ _ h => h) (Or.inl ⟨by kernel_rfl, fun u hSw => by (try dsimp only at hSw); go_simp; try with_reducible rfl⟩) hHeld ?_
            try simp only [List.getElem_toArray]
            try simp only [List.getElem_cons_succ]
            try simp only [List.getElem_cons_zero]
            try simp only [Act.put]
            try simp only [List.setIfInBounds_toArray]
            try simp only [List.set]
            refine wpAnyH_ready (rs := [13]) (by kernel_rfl) (by simp) ?_
            refine AllReadyH.cons rfl (fun K hK => ?_) AllReadyH.nil
            have hgw : w.heap.size ≤ g := hgw0
            go_simp
            go_wp2_with fail
            have g7 : Below w.heap.size w (w6.setCell ⟨g, k * 2 + 1, none⟩ (.slice (some ⟨gu, 0, none⟩) ((Z k).length + 1) cu)) := g6.setCell (by simp only; exact hgw) _
            have hHeld7 : (w6.setCell ⟨g, k * 2 + 1, none⟩ (.slice (some ⟨gu, 0, none⟩) ((Z k).length + 1) cu)).cell? ⟨bb, boff + i, none⟩ = some (.int .u8 z) := by rw [World.cell?_setCell_far _ _ _ _ (by simp only; omega)]; exact hHeld
            generalize w6.setCell ⟨g, k * 2 + 1, none⟩ (.slice (some ⟨gu, 0, none⟩) ((Z k).length + 1) cu) = w7 at hD6 g7 hHeld7 ⊢
            refine hK.out _ _ hHeld7 (fun hHeld => ?_)
            clear hK K c6 f6 g6 hHeld7 hHeld hD hgrow
            refine wpAnyH_done (by kernel_rfl) ?_ _
            have HDF := HF.out w7 _ hD6
            obtain ⟨V', B', HDF⟩ := HDF
            clear hD6 gD
            go_wp2_with fail
            go_roundw
            case rel => exact ⟨i + 1, _, _, V', B', by omega, by go_num, rfl, rfl, HO, ⟨g, cap, by rw [HLn.out]⟩, HDF, g7⟩
            case measure => simp [intOf]; omega

        · have hop : 0 < i ∧ byt za (i - 1) ≠ byt zb (i - 1) := by have := HO0.out; simpa [openB] using this.symm
          obtain ⟨L, s, l, hL1, hL2, hL3⟩ := dn_more HDf.out hop.2 0 hop.1
          obtain ⟨k, hkL⟩ : ∃ k, k = L.length := ⟨_, rfl⟩
          have hlen : (dn za zb i 0).length = k + 1 := by rw [hL1, List.length_append, hkL]; rfl
          have hk64 : k ≤ 64 := by have := dn_count za zb i 0; omega
          have HLn : Hid ((dn za zb (i + 1) 0).length = k + 1) := by show _ = _; rw [hL3, List.length_append, hkL]; rfl
          obtain ⟨P, hP⟩ : ∃ P, P = rP (dn za zb i 0) := ⟨_, rfl⟩
          obtain ⟨Z, hZ⟩ : ∃ Z, Z = rZ zb (dn za zb i 0) := ⟨_, rfl⟩
          have hZk : Z k = (zb.drop s).take l := by rw [hZ, hL1, hkL]; exact rZ_eq zb L (s, l)
          have hzl : (Z k).length ≤ 64 := by rw [hZk, List.length_take]; omega
          rw [hlen, ← hP, ← hZ] at hD
          rw [hlen]
          have HF : Hid (∀ W u, Dlt w.heap.size W (.slice (some ⟨g, 0, none⟩) (k + 1) cap) (k + 1) P (fun i => if i = k then u else V i) (fun i => if i = k then Z k ++ [z] else Z i) B → ∃ V' B', Dlt w.heap.size W (.slice (some ⟨g, 0, none⟩) (k + 1) cap) (dn za zb (i + 1) 0).length (rP (dn za zb (i + 1) 0)) V' (rZ zb (dn za zb (i + 1) 0)) B') := fun W u h => by
            rw [HLn.out]
            refine ⟨_, _, h.congr (fun j hj => ?_)⟩
            rw [hP, hZ, hL1, hL3]
            by_cases e : j = k
            · subst e
              rw [if_pos rfl, hkL, rP_eq, rP_eq, rZ_eq, rZ_eq]
              refine ⟨rfl, ?_⟩
              rw [HZ0.out, ← hL2]
              exact (take_more zb s l (by rw [HL2.out]; omega)).symm
            · rw [if_neg e, rP_lt L _ j (by omega), rP_lt L _ j (by omega), rZ_lt zb L _ j (by omega), rZ_lt zb L _ j (by omega)]
              exact ⟨rfl, rfl⟩
          clear hP hZ hL1 hL2 hL3 hZk hkL hlen hop HO0
          go_wp2_with fail
          go_quiet (fail)
          have gq : Below wr.heap.size wr (wr.drewN nq) := below_draws (Below.refl _ _) nq
          have hD := hD.below gq
          have gD := below_draws gW nq
          have ikk : ((k : Int) + 1 - 1) = (k : Int) := by omega
          have cb := dl_keep cb gq
          generalize wr.drewN nq = wq at hD gD cb ⊢
          clear gW gq ca
          go_upto_region 12 with (fail)
          refine wp_region_held_drew (S := fun V' => V'.cell? ⟨bb, boff + i, none⟩ = some (.int .u8 z)) (by kernel_rfl) (dl_keep cb (Below.refl _ _).drew) (fun hHeld => ?_)
          have hD := hD.below (W' := (wq).drew) (Below.refl _ _).drew
          have gD := gD.drew
          generalize (wq).drew = D at hHeld hD gD ⊢
          clear cb
          refine wpAnyH_take (i := 0) (v := .pointer (some ⟨g, k * 2, none⟩)) rfl (by kernel_rfl) (by kernel_rfl) (by kernel_rfl) (fun _ _ _ h => h) (Or.inl ⟨by kernel_rfl, fun u hSw => by (try dsimp only at hSw); go_simp; try with_reducible rfl⟩) hHeld ?_
          try simp only [List.getElem_toArray]
          try simp only [List.getElem_cons_succ]
          try simp only [List.getElem_cons_zero]
          try simp only [Act.put]
          try simp only [List.setIfInBounds_toArray]
          try simp only [List.set]
          refine wpAnyH_take (i := 1) (v := .pointer (some ⟨g, k * 2, none⟩)) rfl (by kernel_rfl) (by kernel_rfl) (by kernel_rfl) (fun _ _ _ h => h) (Or.inl ⟨by kernel_rfl, fun u hSw => by (try dsimp only at hSw); go_simp; try with_reducible rfl⟩) hHeld ?_
          try simp only [List.getElem_toArray]
          try simp only [List.getElem_cons_succ]
          try simp only [List.getElem_cons_zero]
          try simp only [Act.put]
          try simp only [List.setIfInBounds_toArray]
          try simp only [List.set]
          refine wpAnyH_take (i := 2) (v := .pointer (some ⟨g, k * 2, none⟩)) rfl (by kernel_rfl) (by kernel_rfl) (by kernel_rfl) (fun _ _ _ h => h) (Or.inl ⟨by kernel_rfl, fun u hSw => by (try dsimp only at hSw); go_simp; try with_reducible rfl⟩) hHeld ?_
          try simp only [List.getElem_toArray]
          try simp only [List.getElem_cons_succ]
          try simp only [List.getElem_cons_zero]
          try simp only [Act.put]
          try simp only [List.setIfInBounds_toArray]
          try simp only [List.set]
          refine wpAnyH_take (i := 3) (v := .pointer (some ⟨g, k * 2 + 1, none⟩)) rfl (by kernel_rfl) (by kernel_rfl) (by kernel_rfl) (fun _ _ _ h => h) (Or.inl ⟨by kernel_rfl, fun u hSw => by (try dsimp only at hSw); go_simp; try with_reducible rfl⟩) hHeld ?_
          try simp only [List.getElem_toArray]
          try simp only [List.getElem_cons_succ]
          try simp only [List.getElem_cons_zero]
          try simp only [Act.put]
          try simp only [List.setIfInBounds_toArray]
          try simp only [List.set]
          refine wpAnyH_take (i := 5) (v := .slice (some ⟨bb, boff, none⟩) 64 c2) rfl (by kernel_rfl) (by kernel_rfl) (by kernel_rfl) (fun _ _ _ h => h) (Or.inl ⟨by kernel_rfl, fun u hSw => by (try dsimp only at hSw); go_simp; try with_reducible rfl⟩) hHeld ?_
          try simp only [List.getElem_toArray]
          try simp only [List.getElem_cons_succ]
          try simp only [List.getElem_cons_zero]
          try simp only [Act.put]
          try simp only [List.setIfInBounds_toArray]
          try simp only [List.set]
          refine wpAnyH_take (i := 6) (v := .int .i64 i) rfl (by kernel_rfl) (by kernel_rfl) (by kernel_rfl) (fun _ _ _ h => h) (Or.inl ⟨by kernel_rfl, fun u hSw => by (try dsimp only at hSw); go_simp; try with_reducible rfl⟩) hHeld ?_
          try simp only [List.getElem_toArray]
          try simp only [List.getElem_cons_succ]
          try simp only [List.getElem_cons_zero]
          try simp only [Act.put]
          try simp only [List.setIfInBounds_toArray]
          try simp only [List.set]
          refine wpAnyH_take (i := 7) (v := .pointer (some ⟨bb, boff + i, none⟩)) rfl (by kernel_rfl) (by kernel_rfl) (by kernel_rfl) (fun _ _ _ h => h) (Or.inl ⟨by kernel_rfl, fun u hSw => by (try dsimp only at hSw); go_simp; try with_reducible rfl⟩) hHeld ?_
          try simp only [List.getElem_toArray]
          try simp only [List.getElem_cons_succ]
          try simp only [List.getElem_cons_zero]
          try simp only [Act.put]
          try simp only [List.setIfInBounds_toArray]
          try simp only [List.set]
          refine wpAnyH_take (i := 8) (v := .int .u8 z) rfl (by kernel_rfl) (by kernel_rfl) (by kernel_rfl) (fun _ _ _ h => h) (Or.inl ⟨by kernel_rfl, fun u hSw => by (try dsimp only at hSw); go_simp; try with_reducible rfl⟩) hHeld ?_
          try simp only [List.getElem_toArray]
          try simp only [List.getElem_cons_succ]
          try simp only [List.getElem_cons_zero]
          try simp only [Act.put]
          try simp only [List.setIfInBounds_toArray]
          try simp only [List.set]
          have hrowD := hD.row
          have cD : D.cell? ⟨g, k * 2 + 1, none⟩ = some (V k) := by rw [hrowD.cellAt (k * 2 + 1) (by omega)]; exact (dcells_at P V (k + 1) k (by omega)).2
          have hgl : g < D.heap.size := World.block_lt_of_cell? D _ cD
          have hgw0 : w.heap.size ≤ g := (hrowD.lt g rfl).1
          clear hrowD
          have vk : ∃ xa xl xc, V k = .slice xa xl xc := by
            rcases (hD.by' k (by omega)).2 with ⟨e, _⟩ | ⟨_, _, _, e, _⟩
            · exact ⟨_, _, _, e⟩
            · exact ⟨_, _, _, e⟩
          obtain ⟨xa, xl, xc, hvk⟩ := vk
          refine wpAnyH_ready (rs := [4, 9]) (by kernel_rfl) (by simp) ?_
          refine AllReadyH.cons rfl (fun K hK => ?_) (AllReadyH.cons rfl (fun K hK => ?_) AllReadyH.nil)
          ·
            have c4 := cD
            go_simp
            go_wp2_with fail
            refine hK.out _ _ hHeld (fun hHeld => ?_)
            clear hK K c4
            try simp only [Act.put]
            try simp only [List.setIfInBounds_toArray]
            try simp only [List.set]
            refine wpAnyH_ready (rs := [9]) (by kernel_rfl) (by simp) ?_
            refine AllReadyH.cons rfl (fun K hK => ?_) AllReadyH.nil
            go_simp
            go_wp2_with fail
            refine hK.out _ _ (dl_keep hHeld ((Below.refl _ _).alloc (Nat.le_refl _) _)) (fun hHeld => ?_)
            clear hK K
            try simp only [Act.put]
            try simp only [List.setIfInBounds_toArray]
            try simp only [List.set]
            have gT : Below D.heap.size D (D.alloc (.cells #[.int .u8 z] 5)) := (Below.refl _ D).alloc (Nat.le_refl _) _
            have hD3 := hD.below gT
            have gD3 := gD.trans (gT.mono gD.size)
            refine wpAnyH_ready (rs := [10]) (by kernel_rfl) (by simp) ?_
            refine AllReadyH.cons rfl (fun K hK => ?_) AllReadyH.nil
            rw [if_pos (by kernel_rfl)]
            refine wp_append_own _ _ _ 22 rfl (B k) 5 i0 (.int .u8 0) 1 1 Tryd.underlying22 hi hz0 hz1 hz2 rfl (by decide) (V k) (Z k).length ((Z k).map (Value.int .u8)) hvk.symm (hD3.by' k (by omega)) ⟨D.heap.size, 0, none⟩ 1 1 [.int .u8 z] rfl rfl (by
              intro j u hu
              match j, hu with
              | 0, hu => simp at hu; subst hu; simp [go_sem, Addr.add]) (by
              intro u hu
              simp at hu
              subst hu
              rfl) (by unfold maxLen; omega) (by omega) (hD3.hi k (by omega)) ?_
            intro u w6 hown' hgrow _
            obtain ⟨gu, cu, rfl⟩ := row_succ hown'
            have hD6 := hD3.more rfl hown' hgrow
            have hrow6 := hD3.row.kept hgrow (rows_apart hD3.row (hD3.by' k (by omega)))
            have c6 : w6.cell? ⟨g, k * 2 + 1, none⟩ = some (V k) := by rw [hrow6.cellAt (k * 2 + 1) (by omega)]; exact (dcells_at P V (k + 1) k (by omega)).2
            have f6 : w6.frozen? ⟨g, k * 2 + 1, none⟩ = false := hrow6.frozenAt _
            have hlo : ∀ j, (V k).ownBlock = some j → w.heap.size ≤ j := fun j e => Nat.le_trans (hD3.lo k (by omega)) ((hD3.by' k (by omega)).lt j e).1
            have g6 : Below w.heap.size w w6 := gD3.grown hgrow gD3.size hlo
            have hHeld6 : w6.cell? ⟨bb, boff + i, none⟩ = some (.int .u8 z) := hgrow.cell hHeld (fun e => by have := hlo _ e.symm; simp only at this; omega)
            refine hK.out _ _ hHeld6 (fun hHeld => ?_)
            clear hK K hHeld6 hD3 gD3 gT hown' hrow6 hlo
            try simp only [Act.put]
            try simp only [List.setIfInBounds_toArray]
            try simp only [List.set]
            refine wpAnyH_take (i := 11) (v := .pointer (some ⟨g, k * 2, none⟩)) rfl (by kernel_rfl) (by kernel_rfl) (by kernel_rfl) (fun _ _ _ h => h) (Or.inl ⟨by kernel_rfl, fun u hSw => by (try dsimp only at hSw); go_simp; try with_reducible rfl⟩) hHeld ?_
            try simp only [List.getElem_toArray]
            try simp only [List.getElem_cons_succ]
            try simp only [List.getElem_cons_zero]
            try simp only [Act.put]
            try simp only [List.setIfInBounds_toArray]
            try simp only [List.set]
            refine wpAnyH_take (i := 12) (v := .pointer (some ⟨g, k * 2 + 1, none⟩)) rfl (by kernel_rfl) (by kernel_rfl) (by kernel_rfl) (fun _ _ _ h => h) (Or.inl ⟨by kernel_rfl, fun u hSw => by (try dsimp only at hSw); go_simp; try with_reducible rfl⟩) hHeld ?_
            try simp only [List.getElem_toArray]
            try simp only [List.getElem_cons_succ]
            try simp only [List.getElem_cons_zero]
            try simp only [Act.put]
            try simp only [List.setIfInBounds_toArray]
            try simp only [List.set]
            refine wpAnyH_ready (rs := [13]) (by kernel_rfl) (by simp) ?_
            refine AllReadyH.cons rfl (fun K hK => ?_) AllReadyH.nil
            have hgw : w.heap.size ≤ g := hgw0
            go_simp
            go_wp2_with fail
            have g7 : Below w.heap.size w (w6.setCell ⟨g, k * 2 + 1, none⟩ (.slice (some ⟨gu, 0, none⟩) ((Z k).length + 1) cu)) := g6.setCell (by simp only; exact hgw) _
            have hHeld7 : (w6.setCell ⟨g, k * 2 + 1, none⟩ (.slice (some ⟨gu, 0, none⟩) ((Z k).length + 1) cu)).cell? ⟨bb, boff + i, none⟩ = some (.int .u8 z) := by rw [World.cell?_setCell_far _ _ _ _ (by simp only; omega)]; exact hHeld
            generalize w6.setCell ⟨g, k * 2 + 1, none⟩ (.slice (some ⟨gu, 0, none⟩) ((Z k).length + 1) cu) = w7 at hD6 g7 hHeld7 ⊢
            refine hK.out _ _ hHeld7 (fun hHeld => ?_)
            clear hK K c6 f6 g6 hHeld7 hHeld hD hgrow
            refine wpAnyH_done (by kernel_rfl) ?_ _
            have HDF := HF.out w7 _ hD6
            obtain ⟨V', B', HDF⟩ := HDF
            clear hD6 gD
            go_wp2_with fail
            go_roundw
            case rel => exact ⟨i + 1, _, _, V', B', by omega, by go_num, rfl, rfl, HO, ⟨g, cap, by rw [HLn.out]⟩, HDF, g7⟩
            case measure => simp [intOf]; omega
          ·
            go_simp
            go_wp2_with fail
            refine hK.out _ _ (dl_keep hHeld ((Below.refl _ _).alloc (Nat.le_refl _) _)) (fun hHeld => ?_)
            clear hK K
            try simp only [Act.put]
            try simp only [List.setIfInBounds_toArray]
            try simp only [List.set]
            refine wpAnyH_ready (rs := [4]) (by kernel_rfl) (by simp) ?_
            refine AllReadyH.cons rfl (fun K hK => ?_) AllReadyH.nil
            have c4 := (((Below.refl _ D).alloc (Nat.le_refl _) (.cells #[.int .u8 z] 5) : Below D.heap.size D (D.alloc (.cells #[.int .u8 z] 5))).cell (p := ⟨g, k * 2 + 1, none⟩) hgl).trans cD
            go_simp
            go_wp2_with fail
            refine hK.out _ _ hHeld (fun hHeld => ?_)
            clear hK K c4
            try simp only [Act.put]
            try simp only [List.setIfInBounds_toArray]
            try simp only [List.set]
            have gT : Below D.heap.size D (D.alloc (.cells #[.int .u8 z] 5)) := (Below.refl _ D).alloc (Nat.le_refl _) _
            have hD3 := hD.below gT
            have gD3 := gD.trans (gT.mono gD.size)
            refine wpAnyH_ready (rs := [10]) (by kernel_rfl) (by simp) ?_
            refine AllReadyH.cons rfl (fun K hK => ?_) AllReadyH.nil
            rw [if_pos (by kernel_rfl)]
            refine wp_append_own _ _ _ 22 rfl (B k) 5 i0 (.int .u8 0) 1 1 Tryd.underlying22 hi hz0 hz1 hz2 rfl (by decide) (V k) (Z k).length ((Z k).map (Value.int .u8)) hvk.symm (hD3.by' k (by omega)) ⟨D.heap.size, 0, none⟩ 1 1 [.int .u8 z] rfl rfl (by
              intro j u hu
              match j, hu with
              | 0, hu => simp at hu; subst hu; simp [go_sem, Addr.add]) (by
              intro u hu
              simp at hu
              subst hu
              rfl) (by unfold maxLen; omega) (by omega) (hD3.hi k (by omega)) ?_
            intro u w6 hown' hgrow _
            obtain ⟨gu, cu, rfl⟩ := row_succ hown'
            have hD6 := hD3.more rfl hown' hgrow
            have hrow6 := hD3.row.kept hgrow (rows_apart hD3.row (hD3.by' k (by omega)))
            have c6 : w6.cell? ⟨g, k * 2 + 1, none⟩ = some (V k) := by rw [hrow6.cellAt (k * 2 + 1) (by omega)]; exact (dcells_at P V (k + 1) k (by omega)).2
            have f6 : w6.frozen? ⟨g, k * 2 + 1, none⟩ = false := hrow6.frozenAt _
            have hlo : ∀ j, (V k).ownBlock = some j → w.heap.size ≤ j := fun j e => Nat.le_trans (hD3.lo k (by omega)) ((hD3.by' k (by omega)).lt j e).1
            have g6 : Below w.heap.size w w6 := gD3.grown hgrow gD3.size hlo
            have hHeld6 : w6.cell? ⟨bb, boff + i, none⟩ = some (.int .u8 z) := hgrow.cell hHeld (fun e => by have := hlo _ e.symm; simp only at this; omega)
            refine hK.out _ _ hHeld6 (fun hHeld => ?_)
            clear hK K hHeld6 hD3 gD3 gT hown' hrow6 hlo
            try simp only [Act.put]
            try simp only [List.setIfInBounds_toArray]
            try simp only [List.set]
            refine wpAnyH_take (i := 11) (v := .pointer (some ⟨g, k * 2, none⟩)) rfl (by kernel_rfl) (by kernel_rfl) (by kernel_rfl) (fun _ _ _ h => h) (Or.inl ⟨by kernel_rfl, fun u hSw => by (try dsimp only at hSw); go_simp; try with_reducible rfl⟩) hHeld ?_
            try simp only [List.getElem_toArray]
            try simp only [List.getElem_cons_succ]
            try simp only [List.getElem_cons_zero]
            try simp only [Act.put]
            try simp only [List.setIfInBounds_toArray]
            try simp only [List.set]
            refine wpAnyH_take (i := 12) (v := .pointer (some ⟨g, k * 2 + 1, none⟩)) rfl (by kernel_rfl) (by kernel_rfl) (by kernel_rfl) (fun _ _ _ h => h) (Or.inl ⟨by kernel_rfl, fun u hSw => by (try dsimp only at hSw); go_simp; try with_reducible rfl⟩) hHeld ?_
            try simp only [List.getElem_toArray]
            try simp only [List.getElem_cons_succ]
            try simp only [List.getElem_cons_zero]
            try simp only [Act.put]
            try simp only [List.setIfInBounds_toArray]
            try simp only [List.set]
            refine wpAnyH_ready (rs := [13]) (by kernel_rfl) (by simp) ?_
            refine AllReadyH.cons rfl (fun K hK => ?_) AllReadyH.nil
            have hgw : w.heap.size ≤ g := hgw0
            go_simp
            go_wp2_with fail
            have g7 : Below w.heap.size w (w6.setCell ⟨g, k * 2 + 1, none⟩ (.slice (some ⟨gu, 0, none⟩) ((Z k).length + 1) cu)) := g6.setCell (by simp only; exact hgw) _
            have hHeld7 : (w6.setCell ⟨g, k * 2 + 1, none⟩ (.slice (some ⟨gu, 0, none⟩) ((Z k).length + 1) cu)).cell? ⟨bb, boff + i, none⟩ = some (.int .u8 z) := by rw [World.cell?_setCell_far _ _ _ _ (by simp only; omega)]; exact hHeld
            generalize w6.setCell ⟨g, k * 2 + 1, none⟩ (.slice (some ⟨gu, 0, none⟩) ((Z k).length + 1) cu) = w7 at hD6 g7 hHeld7 ⊢
            refine hK.out _ _ hHeld7 (fun hHeld => ?_)
            clear hK K c6 f6 g6 hHeld7 hHeld hD hgrow
            refine wpAnyH_done (by kernel_rfl) ?_ _
            have HDF := HF.out w7 _ hD6
            obtain ⟨V', B', HDF⟩ := HDF
            clear hD6 gD
            go_wp2_with fail
            go_roundw
            case rel => exact ⟨i + 1, _, _, V', B', by omega, by go_num, rfl, rfl, HO, ⟨g, cap, by rw [HLn.out]⟩, HDF, g7⟩
            case measure => simp [intOf]; omega

    · have e : i = 64 := by omega
      subst e
      have HDk : Hid (_) := hD
      go_wp2_with fail
      go_ret
      exact ⟨_, _, _, _, rfl, gW, HDk.out⟩



end Go.Proofs.YtcjkjenebnodbaaDoor.Df
