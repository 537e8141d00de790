/-
  The contract of the program's CompactPage.
-/
import Derived.Test.YtfjdochjcplifaaGreatIDrf
import Derived.Test.YtfjdochjcplifaaGreatIIpu
import Derived.Test.YtfjdochjcplifaaGreatIMce

namespace Go.Proofs.YtfjdochjcplifaaGreat
set_option maxRecDepth 20000
open Go.RowKit
set_option linter.unusedVariables false

/-- What CompactPage answers: its code, its page. -/
def cqQ (zs : List Int) : Int := fltOf zs
def cqB (zs : List Int) : List Int := if fltOf zs = 0 then cpP zs (nb zs 0) else []

/-- What the loop carries beside the packed page. -/
structure CpS (w : World) (b : Nat) (ys : List Int) (V : World) : Prop where
  a : Arr V b ys
  x : PRes V w.heap.size 0 0 (.slice none 0 0)
  g : Below w.heap.size w V
theorem CpS.below {w : World} {b : Nat} {ys : List Int} {W V : World} (h : CpS w b ys W) (hb : Below W.heap.size W V) : CpS w b ys V := ⟨h.a.grown hb, h.x.grown hb, h.g.trans (hb.mono h.g.size)⟩
theorem CpS.turned {w : World} {b pb : Nat} {ys : List Int} {W V : World} (h : CpS w b ys W) (ht : Turned pb (pb + 1) W V) (hn : w.heap.size < b ∧ b < pb) : CpS w b ys V := ⟨h.a.turned ht (.inl hn.2), h.x.turned ht (.inl (by omega)), h.g.trans (ht.toBelow h.g.size (by omega))⟩
theorem CpS.rd {w : World} {b k : Nat} {ys : List Int} {W : World} (h : CpS w b ys W) (p l : Nat) (e : cellOf ys k = (ys.drop p).take l) (hl : p + l ≤ 64) : Reads W (some ⟨b, p, none⟩) (cellOf ys k) := by
  rw [e]
  exact h.a.cellReads p l hl
theorem cpKeep {w : World} {b y : Nat} {p l : Int} {ys : List Int} {W V : World} (h : W.cell? ⟨y, 0, none⟩ = some (.int .u64 p) ∧ W.cell? ⟨y, 1, none⟩ = some (.int .u64 l) ∧ CpS w b ys W) (hb : Below W.heap.size W V) :
    V.cell? ⟨y, 0, none⟩ = some (.int .u64 p) ∧ V.cell? ⟨y, 1, none⟩ = some (.int .u64 l) ∧ CpS w b ys V :=
  ⟨(hb.cell (World.block_lt_of_cell? W _ h.1)).trans h.1, (hb.cell (World.block_lt_of_cell? W _ h.2.1)).trans h.2.1, h.2.2.below hb⟩
theorem cpTurn {w : World} {b y pb : Nat} {p l : Int} {ys : List Int} {W V : World} (h : W.cell? ⟨y, 0, none⟩ = some (.int .u64 p) ∧ W.cell? ⟨y, 1, none⟩ = some (.int .u64 l) ∧ CpS w b ys W) (ht : Turned pb (pb + 1) W V) (hy : pb < y) (hn : w.heap.size < b ∧ b < pb) :
    V.cell? ⟨y, 0, none⟩ = some (.int .u64 p) ∧ V.cell? ⟨y, 1, none⟩ = some (.int .u64 l) ∧ CpS w b ys V :=
  ⟨ht.cell h.1 (by simp only; omega), ht.cell h.2.1 (by simp only; omega), h.2.2.turned ht hn⟩

set_option maxHeartbeats 4000000 in
theorem implCompactPage_any (a : Option Addr) (zs : List Int) (n c : Nat) (w : World) (hn : zs.length = n) (hm : n ≤ 1048576) (hnc : n ≤ c) (hr : Reads w a zs) (hz : ∀ z ∈ zs, 0 ≤ z ∧ z ≤ 255) :
    Calls Tryz.prog 156 #[.slice a n c] w fun e w' => ∃ a' d', e = .returned (.agg #[.int .i64 (cqQ zs), .int .i64 0, .slice a' (cqB zs).length d']) ∧ (cqB zs).length ≤ d' ∧ Below w.heap.size w w' ∧ BytesIn w.heap.size w'.heap.size w' a' (cqB zs) := by
  have hX : PRes (w.alloc (.cells #[.int .i64 0, .int .i64 0, .slice none 0 0] 146)) w.heap.size 0 0 (.slice none 0 0) := ⟨by simp [go_sem], by simp [go_sem], by simp [go_sem], by simp [go_sem], by simp [go_sem], by simp [go_sem]⟩
  have g : Below w.heap.size w (w.alloc (.cells #[.int .i64 0, .int .i64 0, .slice none 0 0] 146)) := by go_grown
  have hr := hr.below g (Nat.le_refl _)
  obtain ⟨X, hX0⟩ : ∃ X, w.alloc (.cells #[.int .i64 0, .int .i64 0, .slice none 0 0] 146) = X := ⟨_, rfl⟩
  rw [hX0] at hX g hr
  go_enter Tryz.func156, Tryz.ntmps156
  go_wp2_with fail
  refine (loadPage_all a zs n c _ hn hm hnc hr hz).mono ?_
  rintro e w1 ⟨rfl, g1⟩
  have hX1 := hX.grown g1
  have g : Below w.heap.size w w1 := g.trans (g1.mono g.size)
  clear hX0 hX g1 hr
  have hpl := pg_len zs
  obtain ⟨ys, hys⟩ : ∃ ys, ys = pg zs := ⟨_, rfl⟩
  have HY : Hid (ys = pg zs) := hys
  rw [← hys] at hpl ⊢
  clear hys
  go_upto_region 2 with (refine wpList_storePg rfl _ _ rfl _ ys rfl rfl hpl (filled 0 0) (arr_new _ (filled 0 0) rfl) ?_)
  generalize hZ : World.setRow _ w1.heap.size (pgC ys) = Z
  have hA : Arr Z w1.heap.size ys := by rw [← hZ]; exact (arr_new w1 (filled 0 0) rfl).put hpl
  have gZ : Below w1.heap.size w1 Z := by rw [← hZ]; exact setRow_below ((Below.refl _ _).alloc (Nat.le_refl _) _) (Nat.le_refl _) _
  have hX2 := hX1.grown gZ
  have g : Below w.heap.size w Z := g.trans (gZ.mono g.size)
  have hlt := hX1.lt
  clear hZ gZ hX1
  generalize w1.heap.size = b at hA hlt
  by_cases hq : fltOf zs = 0
  · have hF := fine_of hz hq
    have hyz : ys = zs := by rw [HY.out, pg, if_pos hF.pg.len]
    subst hyz
    have HQ : Hid (cqQ ys = 0 ∧ cqB ys = cpP ys (nb ys 0)) := by refine ⟨hq, ?_⟩; unfold cqB; rw [if_pos hq]
    rw [hq]
    clear hq
    have hfew := hF.few
    have hsum := hF.sum
    obtain ⟨n0, hn0⟩ : ∃ n0, n0 = nb ys 0 := ⟨_, rfl⟩
    have HN : Hid (nb ys 0 = n0) := hn0.symm
    have hBo : Hid (∀ k, k ≤ n0 → Both ys k) := fun k hk => both_all hF k (by rw [← hn0]; exact hk)
    have hcl0 : Hid (∀ k, k < n0 → (cellOf ys k).length = nb ys (3 + 2 * k)) := fun k hk => cellOf_length hF k (by rw [← hn0]; exact hk)
    have hplace : Hid (∀ k, k < n0 → (nb ys (2 + 2 * k) = 0 ∧ nb ys (3 + 2 * k) = 0) ∨ (nb ys (2 + 2 * k) ≠ 0 ∧ nb ys (3 + 2 * k) ≠ 0 ∧ nb ys 1 ≤ nb ys (2 + 2 * k) ∧ nb ys (2 + 2 * k) + nb ys (3 + 2 * k) ≤ 64)) := fun k hk => hF.place k (by rw [← hn0]; exact hk)
    have hlens : Hid (∀ k, k < n0 → lens ys k + nb ys (3 + 2 * k) ≤ 62) := fun k hk => by
      have := lens_le ys (k + 1) (n0 - (k + 1))
      rw [show k + 1 + (n0 - (k + 1)) = nb ys 0 by omega] at this
      have h2 : lens ys (k + 1) = lens ys k + nb ys (3 + 2 * k) := rfl
      omega
    rw [← hn0] at hfew
    clear hn0 hsum
    have hAlt := hA.lt
    go_upto_region 5 with (fail)
    generalize hV : World.alloc Z _ = V
    have hP : Arr V Z.heap.size (filled 0 0) := by rw [← hV]; exact arr_new Z (filled 0 0) rfl
    have gV : Below Z.heap.size Z V := by rw [← hV]; exact (Below.refl _ _).alloc (Nat.le_refl _) _
    have hS : CpS w b ys V := ⟨hA.grown gV, hX2.grown gV, g.trans (gV.mono g.size)⟩
    clear hV gV hA hX2 g
    generalize Z.heap.size = pb at hP hAlt
    have hpb : w.heap.size < b ∧ b < pb := ⟨hlt, hAlt⟩
    have q0 := hP.cell 0 (by omega)
    have q1 := hP.cell 1 (by omega)
    have v0 := hP.frozen 0
    have v1 := hP.frozen 1
    have a0 := hS.a.at 0 (by omega)
    have hpb0 : pb ≠ b := by omega
    go_upto_region 6 with (fail)
    generalize hV2 : World.setCell _ _ _ = V2
    have hP2 : Arr V2 pb (cpP ys 0) := by rw [← hV2]; exact (hP.set 0 _).set 1 _
    have t2 : Turned pb (pb + 1) V V2 := by rw [← hV2]; exact ((Turned.refl _ _ _).setCell (p := ⟨pb, 0, none⟩) (Nat.le_refl _) (Nat.lt_succ_self _) _).setCell (p := ⟨pb, 1, none⟩) (Nat.le_refl _) (Nat.lt_succ_self _) _
    have hS2 := hS.turned t2 hpb
    clear hV2 t2 q0 q1 v0 v1 a0 hP hS
    have hA := hS2.a
    go_wp2_with (refine wpList_loadPg rfl _ rfl _ rfl ys (by assumption) ?_)
    refine (slots_any ys _ hF.pg).mono ?_
    rintro e w3 ⟨rfl, g3⟩
    rw [HN.out]
    have hS3 := hS2.below g3
    have hP3 := hP2.grown g3
    clear g3 hS2 hP2 hA
    go_wp2_with fail
    go_loopw [23] (fun i wr => ∃ k : Nat, k ≤ n0 ∧ i = .int .u64 k ∧ Arr wr pb (cpP ys k) ∧ CpS w b ys wr) (fun i _ => n0 - (intOf i).toNat)
    case atStart => exact ⟨0, Nat.zero_le _, rfl, hP3, hS3⟩
    case round =>
      obtain ⟨k, hk, rfl, hP, hS⟩ := hrel
      clear hS3 hP3
      by_cases hlt2 : k < n0
      · have hkn : (k : Int) < (n0 : Int) := by omega
        have hA := hS.a
        go_wp2_with (refine wpList_loadPg rfl _ rfl _ rfl ys (by assumption) ?_)
        refine (spanOf_any ys k _ hF.pg (by omega)).mono ?_
        rintro e w4 ⟨rfl, g4⟩
        have hS4 := hS.below g4
        have hP4 := hP.grown g4
        clear g4 hS hP hA
        obtain ⟨p, hp⟩ : ∃ p, p = nb ys (2 + 2 * k) := ⟨_, rfl⟩
        obtain ⟨l, hl⟩ : ∃ l, l = nb ys (3 + 2 * k) := ⟨_, rfl⟩
        rw [← hp, ← hl]
        have hplk := hplace.out k hlt2
        have hlk := hlens.out k hlt2
        have hclk := hcl0.out k hlt2
        rw [← hp, ← hl] at hplk
        rw [← hl] at hlk hclk
        have HCL : Hid ((cellOf ys k).length = l) := hclk
        have HC : Hid (cellOf ys k = (ys.drop p).take l) := by show _ = _; unfold cellOf; rw [← hp, ← hl]
        have HEmp : Hid (empB ys k = (p == 0 && l == 0)) := by show _ = _; unfold empB; rw [← hp, ← hl]
        have hpby : pb < w4.heap.size := hP4.lt
        clear hp hl hclk
        go_upto_region 10 with (fail)
        generalize hY : World.alloc w4 _ = wr2
        have s0 : wr2.cell? ⟨w4.heap.size, 0, none⟩ = some (.int .u64 p) := by rw [← hY]; simp [go_sem]
        have s1 : wr2.cell? ⟨w4.heap.size, 1, none⟩ = some (.int .u64 l) := by rw [← hY]; simp [go_sem]
        have gY : Below w4.heap.size w4 wr2 := by rw [← hY]; exact (Below.refl _ _).alloc (Nat.le_refl _) _
        have hS := hS4.below gY
        have hP := hP4.grown gY
        clear hY gY hS4 hP4
        generalize w4.heap.size = y at s0 s1 hpby
        have hyp : pb < y := hpby
        go_wp2_with fail
        refine (isEmpty_any p l _).mono ?_
        rintro e wr3 ⟨rfl, g5⟩
        obtain ⟨s0, s1, hS⟩ := cpKeep ⟨s0, s1, hS⟩ g5
        have hP := hP.grown g5
        clear g5
        have hB := hBo.out k hk
        by_cases hem : p = 0 ∧ l = 0
        · have HE : Hid (cpP ys (k + 1) = cpP ys k) := by show _ = _; simp only [cpP]; rw [if_pos (by rw [HEmp.out, hem.1, hem.2]; rfl)]
          obtain ⟨rfl, rfl⟩ := hem
          go_wp2_with fail
          go_roundw
          case rel => exact ⟨k + 1, by omega, by go_num, by rw [HE.out]; exact hP, hS⟩
          case measure => simp [intOf]; omega
        · have hl1 : 1 ≤ l := by omega
          have hpl : p + l ≤ 64 := by omega
          have de : (p == 0 && l == 0) = false := by simp; omega
          have HE : Hid (cpP ys (k + 1) = aheadP (cpP ys k) k (cellOf ys k)) := by show _ = _; simp only [cpP]; rw [if_neg (by rw [HEmp.out, de]; simp)]
          rw [de]
          obtain ⟨q, hq⟩ : ∃ q, q = p + l := ⟨_, rfl⟩
          have HPL : Hid (p + l = q) := hq.symm
          have hq64 : (q : Int) ≤ 64 := by omega
          have hpq : (p : Int) ≤ (q : Int) := by omega
          have hql : q - p = l := by omega
          have hp64 : ¬ (64 = p) := by omega
          have hlow : lens ys k + l ≤ 62 := hlk
          clear hplk hem de hq
          go_upto_region 11 with (fail)
          refine wp_region_held_drew (S := fun V => V.cell? ⟨y, 0, none⟩ = some (.int .u64 p) ∧ V.cell? ⟨y, 1, none⟩ = some (.int .u64 l) ∧ CpS w b ys V) (by kernel_rfl) (cpKeep ⟨s0, s1, hS⟩ (Below.refl _ _).drew) (fun hHeld => ?_)
          have hP : Arr wr3.drew pb (cpP ys k) := hP.grown (Below.refl _ _).drew
          clear hS s0 s1
          refine wpAnyH_take (i := 0) (v := .int .u64 k) rfl (by kernel_rfl) (by kernel_rfl) (by kernel_rfl) (fun _ _ _ h => h) (Or.inl ⟨by kernel_rfl, fun u hSw => by (try dsimp only at hSw); go_simp; try with_reducible rfl⟩) hHeld ?_
          try simp only [List.getElem_toArray]
          try simp only [List.getElem_cons_succ]
          try simp only [List.getElem_cons_zero]
          try simp only [Act.put]
          try simp only [List.setIfInBounds_toArray]
          try simp only [List.set]
          refine wpAnyH_take (i := 1) (v := .pointer (some ⟨y, 0, none⟩)) rfl (by kernel_rfl) (by kernel_rfl) (by kernel_rfl) (fun _ _ _ h => h) (Or.inl ⟨by kernel_rfl, fun u hSw => by (try dsimp only at hSw); go_simp; try with_reducible rfl⟩) hHeld ?_
          try simp only [List.getElem_toArray]
          try simp only [List.getElem_cons_succ]
          try simp only [List.getElem_cons_zero]
          try simp only [Act.put]
          try simp only [List.setIfInBounds_toArray]
          try simp only [List.set]
          refine wpAnyH_take (i := 2) (v := .int .u64 p) rfl (by kernel_rfl) (by kernel_rfl) (by kernel_rfl) (fun _ _ _ h => h) (Or.inl ⟨by kernel_rfl, fun u hSw => by (try dsimp only at hSw); go_simp; try with_reducible rfl⟩) hHeld ?_
          try simp only [List.getElem_toArray]
          try simp only [List.getElem_cons_succ]
          try simp only [List.getElem_cons_zero]
          try simp only [Act.put]
          try simp only [List.setIfInBounds_toArray]
          try simp only [List.set]
          refine wpAnyH_take (i := 3) (v := .agg #[.int .u64 p, .int .u64 l]) rfl (by kernel_rfl) (by kernel_rfl) (by kernel_rfl) (fun _ _ _ h => h) (Or.inl ⟨by kernel_rfl, fun u hSw => by (try dsimp only at hSw); go_simp; try with_reducible rfl⟩) hHeld ?_
          try simp only [List.getElem_toArray]
          try simp only [List.getElem_cons_succ]
          try simp only [List.getElem_cons_zero]
          try simp only [Act.put]
          try simp only [List.setIfInBounds_toArray]
          try simp only [List.set]
          refine wpAnyH_ready (rs := [4]) (by kernel_rfl) (by simp) ?_
          refine AllReadyH.cons rfl (fun K hK => ?_) AllReadyH.nil
          go_simp
          go_wp2_with (go_at_call 182; refine (spanEnd_any p l _ (by omega) (by omega)).mono ?_; rintro e w4 ⟨rfl, hb⟩; rw [HPL.out])
          refine hK.out _ _ (cpKeep hHeld hb) (fun hHeld => ?_)
          clear hK K
          try simp only [Act.put]
          try simp only [List.setIfInBounds_toArray]
          try simp only [List.set]
          have hP : Arr w4 pb (cpP ys k) := hP.grown hb
          clear hb
          refine wpAnyH_take (i := 5) (v := .slice (some ⟨b, p, none⟩) l (64 - p)) rfl (by kernel_rfl) (by kernel_rfl) (by kernel_rfl) (fun _ _ _ h => h) (Or.inl ⟨by kernel_rfl, fun u hSw => by (try dsimp only at hSw); go_simp; try with_reducible rfl⟩) hHeld ?_
          try simp only [List.getElem_toArray]
          try simp only [List.getElem_cons_succ]
          try simp only [List.getElem_cons_zero]
          try simp only [Act.put]
          try simp only [List.setIfInBounds_toArray]
          try simp only [List.set]
          refine wpAnyH_ready (rs := [6]) (by kernel_rfl) (by simp) ?_
          refine AllReadyH.cons rfl (fun K hK => ?_) AllReadyH.nil
          go_simp
          go_wp2_with (go_at_call 155; refine (writeAhead_any pb k l b p (64 - p) _ _ _ hP hB.pg (cellOf_bd hF.pg k) HCL.out hl1 (by rw [hB.low]; omega) (by rw [hB.low]; omega) (by omega) (hHeld.2.2.rd p l HC.out hpl)).mono ?_; rintro e w5 ⟨rfl, t5, hP5⟩)
          refine hK.out _ _ (cpTurn hHeld t5 hyp hpb) (fun hHeld => ?_)
          clear hK K
          try simp only [Act.put]
          try simp only [List.setIfInBounds_toArray]
          try simp only [List.set]
          obtain ⟨_, _, hS⟩ := hHeld
          refine wpAnyH_done (by kernel_rfl) ?_ _

          have HE2 : Hid (Arr w5 pb (cpP ys (k + 1))) := by show Arr _ _ _; rw [HE.out]; exact hP5
          clear hP5 t5
          go_wp2_with fail
          go_roundw
          case rel => exact ⟨k + 1, by omega, by go_num, HE2.out, hS⟩
          case measure => simp [intOf]; omega
      · have e : k = n0 := by omega
        subst e
        have hpl2 := hP.lt
        have hx2 := hS.x.lt
        have g := hS.g
        have hy : BytesIn (w.heap.size + 1) wr.heap.size wr (some ⟨pb, 0, none⟩) (cpP ys k) := hP.bytes (by omega) hpl2
        have hlen := hP.len
        have HLen : Hid ((cpP ys k).length = 64) := hlen
        obtain ⟨c0, c1, c2, f0, f1, f2⟩ := hS.x
        clear hlen hP hS
        go_wp2_with fail
        refine bodyPost_ret (v := .agg #[.int .i64 0, .int .i64 0, .slice (some ⟨pb, 0, none⟩) 64 64]) (by simp [results, Tryz.results156, go_sem, c0, c1, c2]) rfl ?_
        refine ⟨some ⟨pb, 0, none⟩, 64, by rw [HQ.out.1, HQ.out.2, HN.out, HLen.out], Nat.le_of_eq (by rw [HQ.out.2, HN.out, HLen.out]), by go_grown, ?_⟩
        rw [HQ.out.2, HN.out]
        exact (((hy.setCell (by simp) _).setCell (by simp) _).setCell (by simp) _).mono (by omega) (by simp)
  · obtain ⟨q, hqq⟩ : ∃ q, q = fltOf zs := ⟨_, rfl⟩
    have HQ : Hid (cqQ zs = q ∧ cqB zs = []) := by refine ⟨hqq.symm, ?_⟩; unfold cqB; rw [if_neg hq]
    have dq : (q != 0) = true := by rw [hqq]; simpa using hq
    rw [← hqq]
    clear hq hqq hA
    obtain ⟨c0, c1, c2, f0, f1, f2⟩ := hX2
    go_wp2_with fail
    refine bodyPost_ret (v := .agg #[.int .i64 q, .int .i64 0, .slice none 0 0]) (by simp [results, Tryz.results156, go_sem, c0, c1, c2]) rfl ?_
    exact ⟨none, 0, by rw [HQ.out.1, HQ.out.2]; rfl, Nat.le_of_eq (by rw [HQ.out.2]; rfl), by go_grown, by rw [HQ.out.2]; exact .inl rfl⟩

end Go.Proofs.YtfjdochjcplifaaGreat
