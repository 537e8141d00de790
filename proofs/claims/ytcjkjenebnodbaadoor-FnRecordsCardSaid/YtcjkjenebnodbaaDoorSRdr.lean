/-
  The program's readRuns.
-/
import Derived.Test.YtcjkjenebnodbaaDoorSDBnt

namespace Go.Proofs.YtcjkjenebnodbaaDoor
open Go.RowKit
set_option linter.unusedVariables false

/-- The bytes of zs from p on stand at the place o of block b. -/
def From (w : World) (b o : Nat) (zs : List Int) (p : Nat) : Prop := ∀ i, p + i < zs.length → w.cell? ⟨b, o + i, none⟩ = some (.int .u8 (zs.getD (p + i) 0))

theorem From.below {w w' : World} {b o : Nat} {zs : List Int} {p : Nat} (h : From w b o zs p) (hb : Below w.heap.size w w') : From w' b o zs p := fun i hi => cellUp hb (h i hi)
theorem From.step {w : World} {b o : Nat} {zs : List Int} {p : Nat} (h : From w b o zs p) (q : Nat) : From w b (o + q) zs (p + q) := fun i hi => by
  have := h (q + i) (by omega)
  rw [← Nat.add_assoc, ← Nat.add_assoc] at this
  exact this
theorem From.empty {w : World} {b o : Nat} {zs : List Int} {p : Nat} (h : zs.length ≤ p) : From w b o zs p := fun i hi => by omega
theorem From.reads {w : World} {b o : Nat} {zs : List Int} {p l : Nat} (h : From w b o zs p) (hl : p + l ≤ zs.length) : Reads w (some ⟨b, o, none⟩) ((zs.drop p).take l) := .inr ⟨b, o, rfl, fun i hi => by
  rw [List.length_take, List.length_drop] at hi
  rw [h i (by omega)]
  simp [List.getD, show i < l by omega]⟩

/-- What readRuns hands back. -/
def RdPost (w : World) (zs : List Int) (e : Ending) (w' : World) : Prop := ∃ v V B, e = .returned v ∧ Below w.heap.size w w' ∧ Dlt w.heap.size w' v (cnt zs) (rP zs) V (rZ zs) B

theorem info78 : ∃ i, Tryd.prog.info? 82 = some i ∧ i.zero = some (.agg #[.int .i64 0, .slice none 0 0]) ∧ i.size = 2 ∧ i.bytes = 32 := info35

set_option maxHeartbeats 4000000 in
theorem readRuns_any (zs : List Int) (b off cap : Nat) (cn : Nat) (w : World) (h5 : 5 ≤ zs.length) (hm : zs.length ≤ 1048576) (hcap : zs.length - 5 ≤ cap) (hcm : cap ≤ 9223372036854775807) (hf : From w b off zs 5) (hz : ∀ z ∈ zs, 0 ≤ z ∧ z ≤ 255) (hcn : (cn : Int) = zs.getD 4 0) :
    Calls Tryd.prog 26 #[.slice (some ⟨b, off, none⟩) (zs.length - 5) cap, .int .u8 cn] w fun e w' => RdPost w zs e w' := by
  obtain ⟨i0, hi0, hz0, hz1, hz2⟩ := info5
  obtain ⟨i5, hi5, hz50, hz51, hz52⟩ := info78
  have hcn255 : cn ≤ 255 := by
    have : 0 ≤ zs.getD 4 0 ∧ zs.getD 4 0 ≤ 255 := hz _ (by simp [List.getD, List.getElem?_eq_getElem (show 4 < zs.length by omega)])
    omega
  have HB : Hid (∀ i, i < zs.length → 0 ≤ zs.getD i 0 ∧ zs.getD i 0 ≤ 255) := fun i hi => hz _ (by simp [List.getD, List.getElem?_eq_getElem hi])
  have HCn : Hid (cnt zs = rdC zs (cn - 0) 0) := by show _ = _; unfold cnt; rw [← hcn]; simp
  have HF : Hid (From w b off zs 5) := hf
  clear hcn hf hz
  go_enter Tryd.func26, Tryd.ntmps26
  go_wp2_with fail
  go_loopw [8, 0, 5] (fun i dv v wr => ∃ (j db o dc : Nat) (V : Nat → Value) (B : Nat → Nat), j ≤ cn ∧ i = .int .u8 j ∧ dv = .slice (some ⟨db, o, none⟩) (zs.length - pos zs j) dc ∧ pos zs j ≤ zs.length ∧ zs.length - pos zs j ≤ dc ∧ dc ≤ 9223372036854775807 ∧ From w db o zs (pos zs j) ∧ Dlt w.heap.size wr v j (rP zs) V (rZ zs) B ∧ Below w.heap.size w wr ∧ Hid (cnt zs = rdC zs (cn - j) j)) (fun i _ _ _ => cn - (intOf i).toNat)
  case atStart => exact ⟨0, b, off, cap, fun _ => undef, fun _ => 0, Nat.zero_le _, rfl, rfl, h5, hcap, hcm, HF.out, Dlt.nil _ _ _ _ _ _, Below.refl _ _, HCn⟩
  case round =>
    obtain ⟨j, db, o, dc, V, B, hj, rfl, rfl, hpl, hdc, hdm, hF, hD, g, hC⟩ := hrel
    by_cases hlt : j < cn
    · have hjn : (j : Int) < (cn : Int) := by omega
      have hcs : cn - j = cn - (j + 1) + 1 := by omega
      have hp1 : pos zs (j + 1) = pos zs j + 2 + lenAt zs (pos zs j) := rfl
      have HN : Hid (¬ fit zs j → cnt zs = j) := fun h => by rw [hC.out, hcs]; simp only [rdC]; rw [if_neg h]
      have HY : Hid (fit zs j → cnt zs = rdC zs (cn - (j + 1)) (j + 1)) := fun h => by rw [hC.out, hcs]; simp only [rdC]; rw [if_pos h]
      obtain ⟨L, hL⟩ : ∃ L, L = zs.length - pos zs j := ⟨_, rfl⟩
      rw [← hL] at hdc ⊢
      clear hC hcs
      by_cases h2 : L < 2
      · have HE := HN.out (by unfold fit; omega)
        have hl2 : (L : Int) < 2 := by omega
        have hl2d : decide ((L : Int) < 2) = true := by simpa using hl2
        clear HN HY hp1 hL
        go_wp2_with fail
        go_ret
        exact ⟨_, V, B, rfl, g, by rw [HE]; exact hD⟩
      · have e1 : wr.cell? ⟨db, o + 1, none⟩ = some (.int .u8 (zs.getD (pos zs j + 1) 0)) := (g.cell (World.block_lt_of_cell? w _ (hF 1 (by omega)))).trans (hF 1 (by omega))
        obtain ⟨b0, b1⟩ := HB.out (pos zs j + 1) (by omega)
        obtain ⟨l, hl⟩ : ∃ l : Nat, l = lenAt zs (pos zs j) := ⟨_, rfl⟩
        have hlx : zs.getD (pos zs j + 1) 0 = (l : Int) := by rw [hl]; unfold lenAt; omega
        rw [hlx] at e1 b1
        rw [← hl] at hp1
        have hL2 : ¬ ((L : Int) < 2) := by omega
        have hL2d : decide ((L : Int) < 2) = false := by simpa using hL2
        have hL1 : (1 : Int) < (L : Int) := by omega
        clear b0 hlx
        by_cases h3 : L < 2 + l
        · have HE := HN.out (by unfold fit; omega)
          have hl3 : (L : Int) < 2 + (l : Int) := by omega
          have hl3d : decide ((L : Int) < 2 + (l : Int)) = true := by simpa using hl3
          clear HN HY hp1 hL hl
          go_wp2_with fail
          go_ret
          exact ⟨_, V, B, rfl, g, by rw [HE]; exact hD⟩
        · have hfit : fit zs j := by unfold fit; omega
          have HE : Hid (cnt zs = rdC zs (cn - (j + 1)) (j + 1)) := HY.out hfit
          have hl3 : ¬ ((L : Int) < 2 + (l : Int)) := by omega
          have hl3d : decide ((L : Int) < 2 + (l : Int)) = false := by simpa using hl3
          have HL : Hid (L = zs.length - pos zs j) := hL
          have HLl : Hid (l = lenAt zs (pos zs j)) := hl
          have HP1 : Hid (pos zs (j + 1) = pos zs j + 2 + l) := hp1
          have e0 : wr.cell? ⟨db, o, none⟩ = some (.int .u8 (zs.getD (pos zs j) 0)) := (g.cell (World.block_lt_of_cell? w _ (hF 0 (by omega)))).trans (hF 0 (by omega))
          have HZe : Hid (rZ zs j = (zs.drop (pos zs j + 2)).take l) := by show _ = _; unfold rZ; rw [hl]
          have HZl : Hid ((rZ zs j).length = l) := by show _ = _; rw [rZ_len hfit, hl]
          have HPe : Hid (rP zs j = zs.getD (pos zs j) 0) := rfl
          have hLm : L ≤ 1048576 := by omega
          obtain ⟨b2, b3⟩ := HB.out (pos zs j) (by omega)
          obtain ⟨p0, hp0⟩ : ∃ p0 : Nat, zs.getD (pos zs j) 0 = (p0 : Int) := ⟨(zs.getD (pos zs j) 0).toNat, by omega⟩
          rw [hp0] at e0 HPe b3
          have hp255 : p0 ≤ 255 := by omega
          have hwp : IntKind.i64.wrap (p0 : Int) = (p0 : Int) := by rw [IntKind.wrap_i64]; omega
          clear hL hl hp1 HN HY hfit b2 b3 hp0
          go_wp2_with fail
          have hS : Hid (∀ X, Below w.heap.size w X → X.cell? ⟨db, o, none⟩ = some (.int .u8 p0) ∧ Below w.heap.size w X) := fun X gX => ⟨by
            have hw : w.cell? ⟨db, o, none⟩ = some (.int .u8 p0) := by
              have h1 := hF 0 (by have := HL.out; omega)
              have h2 := g.cell (p := ⟨db, o, none⟩) (World.block_lt_of_cell? w _ h1)
              exact h2.symm.trans e0
            exact (gX.cell (World.block_lt_of_cell? w _ hw)).trans hw, gX⟩
          refine wp_region_held_drew (S := fun X => X.cell? ⟨db, o, none⟩ = some (.int .u8 p0) ∧ Below w.heap.size w X) (by kernel_rfl) (hS.out _ g.drew) (fun hHeld => ?_)
          have hD := hD.below (show Below wr.heap.size wr wr.drew from (Below.refl _ _).drew)
          generalize wr.drew = D at hHeld hD ⊢
          clear g e0 e1
          have hd2 : (2 : Int) ≤ 2 + (l : Int) := by omega
          have hd3 : 2 + (l : Int) ≤ (dc : Int) := by omega
          have hL0 : 0 < L := by omega
          obtain ⟨so, hso, hre⟩ : ∃ so, (if dc = 2 then (some ⟨db, o, none⟩ : Option Addr) else some ⟨db, o + 2, none⟩) = some ⟨db, so, none⟩ ∧ ∀ X, Below w.heap.size w X → Reads X (some ⟨db, so, none⟩) (rZ zs j) := by
            by_cases hd : dc = 2
            · refine ⟨o, by rw [if_pos hd], fun X _ => .inl (List.eq_nil_of_length_eq_zero (by have := HZl.out; omega))⟩
            · refine ⟨o + 2, by rw [if_neg hd], fun X gX => ?_⟩
              have h1 := (hF.step 2).reads (l := l) (by have := HL.out; omega)
              rw [HZe.out]
              exact h1.below gX (Nat.le_refl _)
          have HRe : Hid (∀ X, Below w.heap.size w X → Reads X (some ⟨db, so, none⟩) (rZ zs j)) := hre
          have HSo : Hid ((if dc = 2 then (some ⟨db, o, none⟩ : Option Addr) else some ⟨db, o + 2, none⟩) = some ⟨db, so, none⟩) := hso
          have HT : Hid ((2 + (l : Int)).toNat - 2 = l) := by show _ = _; omega
          clear hso hre
          refine wpAnyH_take (i := 0) (v := ?v1) rfl (by kernel_rfl) (by kernel_rfl) (by kernel_rfl) (fun _ _ _ h => h) (Or.inl ⟨by kernel_rfl, ?h1⟩) hHeld ?_
          case h1 => intro u hSw; (try dsimp only at hSw); go_simp; try with_reducible rfl
          try simp only [List.getElem_toArray]
          try simp only [List.getElem_cons_succ]
          try simp only [List.getElem_cons_zero]
          try simp only [Act.put]
          try simp only [List.setIfInBounds_toArray]
          try simp only [List.set]
          refine wpAnyH_take (i := 1) (v := ?v2) rfl (by kernel_rfl) (by kernel_rfl) (by kernel_rfl) (fun _ _ _ h => h) (Or.inl ⟨by kernel_rfl, ?h2⟩) hHeld ?_
          case h2 => intro u hSw; (try dsimp only at hSw); go_simp; try with_reducible rfl
          try simp only [List.getElem_toArray]
          try simp only [List.getElem_cons_succ]
          try simp only [List.getElem_cons_zero]
          try simp only [Act.put]
          try simp only [List.setIfInBounds_toArray]
          try simp only [List.set]
          refine wpAnyH_take (i := 2) (v := ?v3) rfl (by kernel_rfl) (by kernel_rfl) (by kernel_rfl) (fun _ _ _ h => h) (Or.inl ⟨by kernel_rfl, ?h3⟩) hHeld ?_
          case h3 => intro u hSw; (try dsimp only at hSw); go_simp; try with_reducible rfl
          try simp only [List.getElem_toArray]
          try simp only [List.getElem_cons_succ]
          try simp only [List.getElem_cons_zero]
          try simp only [Act.put]
          try simp only [List.setIfInBounds_toArray]
          try simp only [List.set]
          refine wpAnyH_take (i := 3) (v := ?v4) rfl (by kernel_rfl) (by kernel_rfl) (by kernel_rfl) (fun _ _ _ h => h) (Or.inl ⟨by kernel_rfl, ?h4⟩) hHeld ?_
          case h4 => intro u hSw; obtain ⟨e0, _⟩ := hSw; go_simp; try with_reducible rfl
          try simp only [List.getElem_toArray]
          try simp only [List.getElem_cons_succ]
          try simp only [List.getElem_cons_zero]
          try simp only [Act.put]
          try simp only [List.setIfInBounds_toArray]
          try simp only [List.set]
          refine wpAnyH_take (i := 4) (v := ?v5) rfl (by kernel_rfl) (by kernel_rfl) (by kernel_rfl) (fun _ _ _ h => h) (Or.inl ⟨by kernel_rfl, ?h5⟩) hHeld ?_
          case h5 => intro u hSw; (try dsimp only at hSw); go_simp; try with_reducible rfl
          try simp only [List.getElem_toArray]
          try simp only [List.getElem_cons_succ]
          try simp only [List.getElem_cons_zero]
          try simp only [Act.put]
          try simp only [List.setIfInBounds_toArray]
          try simp only [List.set]
          refine wpAnyH_take (i := 5) (v := ?v6) rfl (by kernel_rfl) (by kernel_rfl) (by kernel_rfl) (fun _ _ _ h => h) (Or.inl ⟨by kernel_rfl, ?h6⟩) hHeld ?_
          case h6 => intro u hSw; (try dsimp only at hSw); go_simp; try with_reducible rfl
          try simp only [List.getElem_toArray]
          try simp only [List.getElem_cons_succ]
          try simp only [List.getElem_cons_zero]
          try simp only [Act.put]
          try simp only [List.setIfInBounds_toArray]
          try simp only [List.set]
          refine wpAnyH_take (i := 6) (v := ?v7) rfl (by kernel_rfl) (by kernel_rfl) (by kernel_rfl) (fun _ _ _ h => h) (Or.inl ⟨by kernel_rfl, ?h7⟩) hHeld ?_
          case h7 => intro u hSw; (try dsimp only at hSw); go_simp; try with_reducible rfl
          try simp only [List.getElem_toArray]
          try simp only [List.getElem_cons_succ]
          try simp only [List.getElem_cons_zero]
          try simp only [Act.put]
          try simp only [List.setIfInBounds_toArray]
          try simp only [List.set]
          refine wpAnyH_take (i := 7) (v := ?v8) rfl (by kernel_rfl) (by kernel_rfl) (by kernel_rfl) (fun _ _ _ h => h) (Or.inl ⟨by kernel_rfl, ?h8⟩) hHeld ?_
          case h8 => intro u hSw; (try dsimp only at hSw); go_simp; try with_reducible rfl
          try simp only [List.getElem_toArray]
          try simp only [List.getElem_cons_succ]
          try simp only [List.getElem_cons_zero]
          try simp only [Act.put]
          try simp only [List.setIfInBounds_toArray]
          try simp only [List.set]
          rw [HSo.out, HT.out]
          have hl64 : l ≤ 1048576 := by omega
          have gD := hHeld.2
          have hDs := gD.size
          refine wpAnyH_ready (rs := [8]) (by kernel_rfl) (by simp) ?_
          refine AllReadyH.cons rfl (fun K hK => ?_) AllReadyH.nil
          go_simp
          go_wp2_with (go_at_call 48; refine (clone_any db so l (dc - 2) (rZ zs j) _ HZl.out hl64 (HRe.out _ hHeld.2)).mono ?_; rintro e w7 ⟨gu, cu, rfl, g7, hu⟩)
          refine hK.out _ _ (hS.out _ (gD.trans (g7.mono gD.size))) (fun hHeld => ?_)
          clear hK K
          try simp only [Act.put]
          try simp only [List.setIfInBounds_toArray]
          try simp only [List.set]
          have hD7 := hD.below g7
          have gD7 := gD.trans (g7.mono gD.size)
          have hw7 := gD7.size
          have h77 := g7.size
          have hlo : Hid (∀ i, i < j → ∀ g, (V i).ownBlock = some g → g < D.heap.size) := fun i hi g hg => (World.ownsRow.lt (hD.by' i hi) g hg).2
          clear hD g7
          refine wpAnyH_take (i := 9) (v := ?v9) rfl (by kernel_rfl) (by kernel_rfl) (by kernel_rfl) (fun _ _ _ h => h) (Or.inl ⟨by kernel_rfl, ?h9⟩) hHeld ?_
          case h9 => intro u hSw; (try dsimp only at hSw); go_simp; try with_reducible rfl
          try simp only [List.getElem_toArray]
          try simp only [List.getElem_cons_succ]
          try simp only [List.getElem_cons_zero]
          try simp only [Act.put]
          try simp only [List.setIfInBounds_toArray]
          try simp only [List.set]
          have gb : Below w7.heap.size w7 (w7.alloc (.cells #[.int .i64 p0, .slice (some ⟨gu, 0, none⟩) l cu] 82)) := by go_grown
          have gD8 := gD7.trans (gb.mono hw7)
          have hD8 := hD7.below gb
          have hu8 := hu.grown gb
          refine wpAnyH_ready (rs := [10]) (by kernel_rfl) (by simp) ?_
          refine AllReadyH.cons rfl (fun K hK => ?_) AllReadyH.nil
          go_simp
          refine hK.out _ _ (hS.out _ gD8) (fun hHeld => ?_)
          clear hK K
          try simp only [Act.put]
          try simp only [List.setIfInBounds_toArray]
          try simp only [List.set]
          refine wpAnyH_ready (rs := [11]) (by kernel_rfl) (by simp) ?_
          refine AllReadyH.cons rfl (fun K hK => ?_) AllReadyH.nil
          rw [if_pos (by kernel_rfl)]
          refine wp_append_own _ _ _ 25 rfl w.heap.size 82 i5 (.agg #[.int .i64 0, .slice none 0 0]) 2 32 Tryd.underlying25 hi5 hz50 hz51 hz52 rfl (by decide) _ _ _ rfl hD8.row ⟨w7.heap.size, 0, none⟩ 1 1 [.int .i64 (p0 : Int), .slice (some ⟨gu, 0, none⟩) l cu] rfl rfl (by
            intro i u hu
            match i, hu with
            | 0, hu => simp at hu; subst hu; simp [go_sem, Addr.add]
            | 1, hu => simp at hu; subst hu; simp [go_sem, Addr.add]) (by
            intro u hu
            simp at hu
            rcases hu with rfl | rfl <;> rfl) (by unfold maxLen; omega) (by omega) (by simp; omega) ?_
          intro v' w9 hown' hgrow _
          have hD9 := hD8.add (v' := v') (u := .slice (some ⟨gu, 0, none⟩) l cu) (b := D.heap.size) (by rw [HZl.out]; have h := hu8; unfold Gb at h; rw [HZl.out] at h; exact h) hlo.out hDs (by simp; omega) (by rw [HPe.out]; exact hown') hgrow
          have g9 : Below w.heap.size w w9 := Below.grown gD8 hgrow (by simp; omega) (fun q e => (World.ownsRow.lt hD8.row q e).1)
          refine hK.out _ _ (hS.out _ g9) (fun hHeld => ?_)
          clear hK K hown' hgrow hD8 hu8 hD7 gD7 gb gD8 hu
          try simp only [Act.put]
          try simp only [List.setIfInBounds_toArray]
          try simp only [List.set]
          refine wpAnyH_take (i := 12) (v := ?v10) rfl (by kernel_rfl) (by kernel_rfl) (by kernel_rfl) (fun _ _ _ h => h) (Or.inl ⟨by kernel_rfl, ?h10⟩) hHeld ?_
          case h10 => intro u hSw; (try dsimp only at hSw); go_simp; try with_reducible rfl
          try simp only [List.getElem_toArray]
          try simp only [List.getElem_cons_succ]
          try simp only [List.getElem_cons_zero]
          try simp only [Act.put]
          try simp only [List.setIfInBounds_toArray]
          try simp only [List.set]
          refine wpAnyH_done (by kernel_rfl) ?_ _
          clear hHeld
          have hd5 : (2 + (l : Int)).toNat = 2 + l := by omega
          by_cases hdl : dc = 2 + l
          · have HLL : Hid (L = 2 + l) := by show _ = _; omega
            go_wp2_with fail
            go_roundw
            case rel =>
              have q1 := HP1.out
              have q2 := HL.out
              have q3 := HLL.out
              exact ⟨j + 1, db, o, 0, _, _, by omega, by go_num, by rw [show zs.length - pos zs (j + 1) = L - (2 + l) by omega], by omega, by omega, by omega, From.empty (by omega), hD9, g9, HE⟩
            case measure => simp [intOf]; omega
          · have hdl2 : ¬ dc = 2 + l := hdl
            go_wp2_with fail
            go_roundw
            case rel =>
              have q1 := HP1.out
              have q2 := HL.out
              have q4 := hF.step (2 + l)
              rw [show pos zs j + (2 + l) = pos zs (j + 1) by omega] at q4
              exact ⟨j + 1, db, o + (2 + l), dc - (2 + l), _, _, by omega, by go_num, by rw [show zs.length - pos zs (j + 1) = L - (2 + l) by omega], by omega, by omega, by omega, q4, hD9, g9, HE⟩
            case measure => simp [intOf]; omega
    · have e : j = cn := by omega
      subst e
      have HE : Hid (cnt zs = j) := by show _ = _; rw [hC.out, Nat.sub_self]; rfl
      clear hC
      go_wp2_with fail
      go_ret
      exact ⟨_, V, B, rfl, g, by rw [HE.out]; exact hD⟩

end Go.Proofs.YtcjkjenebnodbaaDoor
