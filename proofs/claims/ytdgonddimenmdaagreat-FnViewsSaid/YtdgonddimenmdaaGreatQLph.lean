/-
  The model's l6Pages: pages with some rows, some of them moved.
-/
import Derived.Test.YtdgonddimenmdaaGreatQIcp
import Derived.Deep.RegionHeld

namespace Go.Proofs.YtdgonddimenmdaaGreat
open Go.RowKit
set_option linter.unusedVariables false
set_option maxRecDepth 20000

/-- What l6Pages hands back. -/
def LgPost (b : Nat) (a : Option Addr) (n c : Nat) (zs : List Int) (i : Int) (w : World) (e : Ending) (w' : World) : Prop :=
  ∃ pg g0 d0 g1 d1 y0 y1, e = .returned (.slice (some ⟨pg, 0, none⟩) 2 2) ∧ Pg2 w.heap.size pg g0 d0 g1 d1 y0 y1 w' ∧ Turned b (b + 1) w w' ∧ ∃ j, j ≤ i + 60 ∧ SrcAt w' b a n c zs j

set_option maxHeartbeats 8000000 in
theorem l6Pages_any (b : Nat) (a : Option Addr) (n c : Nat) (zs : List Int) (i : Int) (w : World) (h : SrcAt w b a n c zs i) (i9 : i ≤ 500) :
    Calls Tryz.prog 32 #[.pointer (some ⟨b, 0, none⟩)] w fun e w' => LgPost b a n c zs i w e w' := by
  have hlb := h.lt
  have hi0 := h.i0
  go_enter Tryz.func32, Tryz.ntmps32
  go_wp2_with fail
  refine (l2New_any 0 w).mono ?_
  rintro e w1 ⟨rfl, g1', hB0⟩
  have hs1 : w.heap.size < w1.heap.size := by
    rcases hB0 with h | ⟨b', off, e, h1, h2, _⟩
    · simp [newBytes] at h
    · simp at e; omega
  go_wp2_with fail
  refine (l2New_any 0 w1).mono ?_
  rintro e w2 ⟨rfl, g2', hB1⟩
  have hs2 : w1.heap.size < w2.heap.size := by
    rcases hB1 with h | ⟨b', off, e, h1, h2, _⟩
    · simp [newBytes] at h
    · simp at e; omega
  go_upto_region 2 with (fail)
  generalize hY : World.alloc _ _ = Y
  have gY : Below w2.heap.size w2 Y := by rw [← hY]; go_grown
  have P : Pg2 w.heap.size w2.heap.size w.heap.size 64 w1.heap.size 64 (newBytes 0) (newBytes 0) Y := by
    have r0 := (hB0.reads.below g2' (Nat.le_refl _)).below gY (Nat.le_refl _)
    have r1 := hB1.reads.below gY (Nat.le_refl _)
    have hyS := gY.size
    refine ⟨by rw [← hY]; simp [go_sem], by rw [← hY]; simp [go_sem], ⟨rfl, fine_new 0 (by omega) (by omega), r0, by omega, Nat.le_refl _, by omega, by omega⟩, ⟨rfl, fine_new 0 (by omega) (by omega), r1, by omega, by omega, by omega, by omega⟩, by intro o; rw [← hY]; simp [go_sem], by omega⟩
  have hS := ((h.below g1').below g2').below gY
  have T : Turned b (b + 1) w Y := ((Turned.ofBelow g1').trans (Turned.ofBelow g2')).trans (Turned.ofBelow gY)
  have hpgY : w2.heap.size < Y.heap.size := by rw [← hY]; simp
  have hpw : w.heap.size ≤ w2.heap.size := Nat.le_trans g1'.size g2'.size
  clear hY gY hB0 hB1 g1' g2' h
  generalize w2.heap.size = pg at P hpgY hpw ⊢
  go_wp2_with fail
  refine (l6DrawRows_any b a n c zs i _ hS (by omega)).mono ?_
  rintro e w3 ⟨⟨rv, rfl, hG⟩, t3, jd, hjd, hS3⟩
  have hjd0 := hS3.i0
  have P := P.src t3 (by omega)
  have T := T.trans t3
  obtain ⟨rg, cap, rs, rfl, hrl, hss, ho⟩ := hG
  obtain ⟨rbase, hrb⟩ : ∃ rbase, rbase = Y.heap.size := ⟨_, rfl⟩
  rw [← hrb] at ho hpgY
  clear hrb t3 hS
  have HSS : Hid (∀ r ∈ rs, okR r) := hss
  obtain ⟨rn, hrn⟩ : ∃ rn, rn = rs.length := ⟨_, rfl⟩
  have HRN : Hid (rs.length = rn) := hrn.symm
  obtain ⟨rv, hrv⟩ : ∃ rv, rv = Value.slice (some ⟨rg, 0, none⟩) rs.length cap := ⟨_, rfl⟩
  rw [← hrv] at ho
  have HRV : Hid (rv = .slice (some ⟨rg, 0, none⟩) rn cap) := by show _ = _; rw [hrv, hrn]
  rw [← hrn] at hrl ⊢
  clear hss hrn hrv
  go_wp2_with fail
  go_loopw [5] (fun k wr => ∃ j : Nat, j ≤ rn ∧ k = .int .i64 j ∧ Turned b (b + 1) w wr ∧ (∃ jj, jj ≤ jd + 2 * (j : Int) ∧ SrcAt wr b a n c zs jj) ∧ ∃ g0 d0 g1 d1 y0 y1, Pg2 w.heap.size pg g0 d0 g1 d1 y0 y1 wr ∧ wr.ownsRow rbase 32 4 rv rs.length (flat rwE rs)) (fun k _ => rn - (intOf k).toNat)
  case atStart => exact ⟨0, Nat.zero_le _, rfl, T, ⟨jd, by omega, hS3⟩, _, _, _, _, _, _, P, ho⟩
  case round =>
    clear P T hS3 ho
    obtain ⟨j, hj, rfl, T, ⟨jj, hjj, hS⟩, g0, d0, g1, d1, y0, y1, P, ho⟩ := hrel
    have hjj0 := hS.i0
    by_cases hlt : j < rn
    · have hjn : (j : Int) < (rn : Int) := by omega
      obtain ⟨x, hx⟩ := at_lt (rs := rs) (i := j) (by rw [HRN.out]; exact hlt)
      have hok := HSS.out x (List.mem_of_getElem? hx)
      go_wp2_with fail
      refine (l1Chance_any b a n c zs jj 3 _ hS (by omega) (by omega) (by omega)).mono ?_
      rintro e w4 ⟨⟨z, rfl⟩, t4, hS4⟩
      have P := P.src t4 (by omega)
      have T := T.trans t4
      have ho := ownsRow_src ho t4 (by omega)
      clear t4 hS
      obtain ⟨_, _, e', _, hin, _⟩ := SlIn.ofRow rwE_len ho
      rw [HRV.out, HRN.out] at e'
      cases e'
      obtain ⟨rb, ro, er, R⟩ := hin.reads.row hx
      simp at er
      obtain ⟨rfl, rfl⟩ := er
      rw [Nat.zero_add] at R
      obtain ⟨xt, xk, xv, xs⟩ := x
      have hrgb : b + 1 ≤ rg := by
        rcases ho.2 with ⟨h0, _⟩ | ⟨g', cap', cur, h0, hge, _⟩
        · rw [HRV.out] at h0; simp at h0
        · rw [HRV.out] at h0
          simp at h0
          omega
      have H : LgS w b a n c zs (jj + 1) pg g0 d0 g1 d1 y0 y1 rg (j * 4) ⟨xt, xk, xv, xs⟩ rbase rv rs w4 := ⟨P, R, hS4, T, ho⟩
      clear P R hS4 T ho hin hx
      cases z
      · have hxs8 : xs.size ≤ 8 := hok.2.2.2
        go_wp2_with fail
        refine (l1Next_any b a n c zs (jj + 1) 2 _ H.s (by omega) (by omega) (by omega)).mono ?_
        rintro e w5 ⟨⟨r5, rfl, hr50, hr51⟩, t5, hS5⟩
        have hrbl := World.block_lt_of_cell? w4 _ H.r.c0
        have H : LgS w b a n c zs (jj + 1 + 1) pg g0 d0 g1 d1 y0 y1 rg (j * 4) ⟨xt, xk, xv, xs⟩ rbase rv rs w5 := ⟨H.p.src t5 (by omega), H.r.src t5 (by omega), hS5, H.t.trans t5, ownsRow_src H.o t5 (by omega)⟩
        clear t5 hS5 hrbl
        rcases (show r5 = 0 ∨ r5 = 1 by omega) with rfl | rfl
        · clear hr50 hr51
          go_upto_region 14 with (fail)
          refine wp_region_held_drew (S := LgS w b a n c zs (jj + 1 + 1) pg g0 d0 g1 d1 y0 y1 rg (j * 4) ⟨xt, xk, xv, xs⟩ rbase rv rs) (by kernel_rfl) H.drew (fun hHeld => ?_)
          generalize World.drew _ = D at hHeld ⊢
          clear H
          refine wpAnyH_take (i := 0) (v := ?v39) rfl (by kernel_rfl) (by kernel_rfl) (by kernel_rfl) (fun _ _ _ h => h) (Or.inl ⟨by kernel_rfl, ?h39⟩) hHeld ?_
          case h39 => intro u hSw; (obtain ⟨c0, c1, -, -, -, -⟩ := hSw.p; obtain ⟨r0, r1, r2, r3⟩ := hSw.r; dsimp only at r0 r1 r2 r3); clear hSw; go_simp; try with_reducible rfl
          try simp only [List.getElem_toArray]
          try simp only [List.getElem_cons_succ]
          try simp only [List.getElem_cons_zero]
          try simp only [Act.put]
          try simp only [List.setIfInBounds_toArray]
          try simp only [List.set]
          refine wpAnyH_take (i := 1) (v := ?v40) rfl (by kernel_rfl) (by kernel_rfl) (by kernel_rfl) (fun _ _ _ h => h) (Or.inl ⟨by kernel_rfl, ?h40⟩) hHeld ?_
          case h40 => intro u hSw; (obtain ⟨c0, c1, -, -, -, -⟩ := hSw.p; obtain ⟨r0, r1, r2, r3⟩ := hSw.r; dsimp only at r0 r1 r2 r3); clear hSw; go_simp; try with_reducible rfl
          try simp only [List.getElem_toArray]
          try simp only [List.getElem_cons_succ]
          try simp only [List.getElem_cons_zero]
          try simp only [Act.put]
          try simp only [List.setIfInBounds_toArray]
          try simp only [List.set]
          refine wpAnyH_take (i := 2) (v := ?v41) rfl (by kernel_rfl) (by kernel_rfl) (by kernel_rfl) (fun _ _ _ h => h) (Or.inl ⟨by kernel_rfl, ?h41⟩) hHeld ?_
          case h41 => intro u hSw; (obtain ⟨c0, c1, -, -, -, -⟩ := hSw.p; obtain ⟨r0, r1, r2, r3⟩ := hSw.r; dsimp only at r0 r1 r2 r3); clear hSw; go_simp; try with_reducible rfl
          try simp only [List.getElem_toArray]
          try simp only [List.getElem_cons_succ]
          try simp only [List.getElem_cons_zero]
          try simp only [Act.put]
          try simp only [List.setIfInBounds_toArray]
          try simp only [List.set]
          refine wpAnyH_take (i := 3) (v := ?v42) rfl (by kernel_rfl) (by kernel_rfl) (by kernel_rfl) (fun _ _ _ h => h) (Or.inl ⟨by kernel_rfl, ?h42⟩) hHeld ?_
          case h42 => intro u hSw; (obtain ⟨c0, c1, -, -, -, -⟩ := hSw.p; obtain ⟨r0, r1, r2, r3⟩ := hSw.r; dsimp only at r0 r1 r2 r3); clear hSw; go_simp; try with_reducible rfl
          try simp only [List.getElem_toArray]
          try simp only [List.getElem_cons_succ]
          try simp only [List.getElem_cons_zero]
          try simp only [Act.put]
          try simp only [List.setIfInBounds_toArray]
          try simp only [List.set]
          refine wpAnyH_take (i := 4) (v := ?v43) rfl (by kernel_rfl) (by kernel_rfl) (by kernel_rfl) (fun _ _ _ h => h) (Or.inl ⟨by kernel_rfl, ?h43⟩) hHeld ?_
          case h43 => intro u hSw; (obtain ⟨c0, c1, -, -, -, -⟩ := hSw.p; obtain ⟨r0, r1, r2, r3⟩ := hSw.r; dsimp only at r0 r1 r2 r3); clear hSw; go_simp; try with_reducible rfl
          try simp only [List.getElem_toArray]
          try simp only [List.getElem_cons_succ]
          try simp only [List.getElem_cons_zero]
          try simp only [Act.put]
          try simp only [List.setIfInBounds_toArray]
          try simp only [List.set]
          refine wpAnyH_take (i := 5) (v := ?v44) rfl (by kernel_rfl) (by kernel_rfl) (by kernel_rfl) (fun _ _ _ h => h) (Or.inl ⟨by kernel_rfl, ?h44⟩) hHeld ?_
          case h44 => intro u hSw; (obtain ⟨c0, c1, -, -, -, -⟩ := hSw.p; obtain ⟨r0, r1, r2, r3⟩ := hSw.r; dsimp only at r0 r1 r2 r3); clear hSw; go_simp; try with_reducible rfl
          try simp only [List.getElem_toArray]
          try simp only [List.getElem_cons_succ]
          try simp only [List.getElem_cons_zero]
          try simp only [Act.put]
          try simp only [List.setIfInBounds_toArray]
          try simp only [List.set]
          refine wpAnyH_take (i := 6) (v := ?v45) rfl (by kernel_rfl) (by kernel_rfl) (by kernel_rfl) (fun _ _ _ h => h) (Or.inl ⟨by kernel_rfl, ?h45⟩) hHeld ?_
          case h45 => intro u hSw; (obtain ⟨c0, c1, -, -, -, -⟩ := hSw.p; obtain ⟨r0, r1, r2, r3⟩ := hSw.r; dsimp only at r0 r1 r2 r3); clear hSw; go_simp; try with_reducible rfl
          try simp only [List.getElem_toArray]
          try simp only [List.getElem_cons_succ]
          try simp only [List.getElem_cons_zero]
          try simp only [Act.put]
          try simp only [List.setIfInBounds_toArray]
          try simp only [List.set]
          refine wpAnyH_ready (rs := [7]) (by kernel_rfl) (by simp) ?_
          refine AllReadyH.cons rfl (fun K hK => ?_) AllReadyH.nil
          go_simp
          go_wp2_with (go_at_call 37; refine (l1CellO_any 0 xt xk xv xs rg (j * 4) _ (by omega) (by omega) hok.1.1 hok.1.2 hok.2.1.1 hok.2.1.2 hok.2.2.1.1 hok.2.2.1.2 hok.2.2.2 hHeld.r).mono ?_; rintro e D1 ⟨cg, cc, rfl, _, gb, hcb⟩)
          refine hK.out _ _ (hHeld.up gb) (fun hHeld => ?_)
          clear hK K
          clear gb
          try simp only [Act.put]
          try simp only [List.setIfInBounds_toArray]
          try simp only [List.set]
          have hD1 := hHeld.t.size
          have hD1p := hHeld.p.lt
          refine wpAnyH_ready (rs := [8]) (by kernel_rfl) (by simp) ?_
          refine AllReadyH.cons rfl (fun K hK => ?_) AllReadyH.nil
          go_simp
          go_wp2_with fail
          refine (l2Put_of (some ⟨g0, 0, none⟩) y0 (cellBytes 0 xt xk xv xs) d0 cg 0 (6 + xs.size) _ _ hHeld.p.p0.rd hHeld.p.p0.fine (cellBytes_len _ _ _ _ _) (by omega) (by omega) (cellBytes_rng hok (by omega) (by omega)) hcb.reads).mono ?_
          rintro e D2 ⟨gb, hor⟩
          rcases hor with ⟨q, hq, rfl⟩ | ⟨ng, nd, ny, sl, rfl, hnd, hng, hN, hNF, hs0, hs1'⟩
          · refine hK.out _ _ (hHeld.up gb) (fun hHeld => ?_)
            clear hK K
            try simp only [Act.put]
            try simp only [List.setIfInBounds_toArray]
            try simp only [List.set]
            clear gb hcb
            refine wpAnyH_take (i := 9) (v := ?v46) rfl (by kernel_rfl) (by kernel_rfl) (by kernel_rfl) (fun _ _ _ h => h) (Or.inl ⟨by kernel_rfl, ?h46⟩) hHeld ?_
            case h46 => intro u hSw; clear hSw; go_simp; try with_reducible rfl
            try simp only [List.getElem_toArray]
            try simp only [List.getElem_cons_succ]
            try simp only [List.getElem_cons_zero]
            try simp only [Act.put]
            try simp only [List.setIfInBounds_toArray]
            try simp only [List.set]
            refine wpAnyH_take (i := 10) (v := ?v47) rfl (by kernel_rfl) (by kernel_rfl) (by kernel_rfl) (fun _ _ _ h => h) (Or.inl ⟨by kernel_rfl, ?h47⟩) hHeld ?_
            case h47 => intro u hSw; clear hSw; go_simp; try with_reducible rfl
            try simp only [List.getElem_toArray]
            try simp only [List.getElem_cons_succ]
            try simp only [List.getElem_cons_zero]
            try simp only [Act.put]
            try simp only [List.setIfInBounds_toArray]
            try simp only [List.set]
            refine wpAnyH_take (i := 11) (v := ?v48) rfl (by kernel_rfl) (by kernel_rfl) (by kernel_rfl) (fun _ _ _ h => h) (Or.inl ⟨by kernel_rfl, ?h48⟩) hHeld ?_
            case h48 => intro u hSw; clear hSw; go_simp; try with_reducible rfl
            try simp only [List.getElem_toArray]
            try simp only [List.getElem_cons_succ]
            try simp only [List.getElem_cons_zero]
            try simp only [Act.put]
            try simp only [List.setIfInBounds_toArray]
            try simp only [List.set]
            refine wpAnyH_take (i := 12) (v := ?v49) rfl (by kernel_rfl) (by kernel_rfl) (by kernel_rfl) (fun _ _ _ h => h) (Or.inl ⟨by kernel_rfl, ?h49⟩) hHeld ?_
            case h49 => intro u hSw; clear hSw; go_simp; try with_reducible rfl
            try simp only [List.getElem_toArray]
            try simp only [List.getElem_cons_succ]
            try simp only [List.getElem_cons_zero]
            try simp only [Act.put]
            try simp only [List.setIfInBounds_toArray]
            try simp only [List.set]
            refine wpAnyH_take (i := 13) (v := ?v50) rfl (by kernel_rfl) (by kernel_rfl) (by kernel_rfl) (fun _ _ _ h => h) (Or.inl ⟨by kernel_rfl, ?h50⟩) hHeld ?_
            case h50 => intro u hSw; clear hSw; go_simp; try with_reducible rfl
            try simp only [List.getElem_toArray]
            try simp only [List.getElem_cons_succ]
            try simp only [List.getElem_cons_zero]
            try simp only [Act.put]
            try simp only [List.setIfInBounds_toArray]
            try simp only [List.set]
            refine wpAnyH_take (i := 14) (v := ?v51) rfl (by kernel_rfl) (by kernel_rfl) (by kernel_rfl) (fun _ _ _ h => h) (Or.inl ⟨by kernel_rfl, ?h51⟩) hHeld ?_
            case h51 => intro u hSw; clear hSw; go_simp; try with_reducible rfl
            try simp only [List.getElem_toArray]
            try simp only [List.getElem_cons_succ]
            try simp only [List.getElem_cons_zero]
            try simp only [Act.put]
            try simp only [List.setIfInBounds_toArray]
            try simp only [List.set]
            refine wpAnyH_take (i := 15) (v := ?v52) rfl (by kernel_rfl) (by kernel_rfl) (by kernel_rfl) (fun _ _ _ h => h) (Or.inl ⟨by kernel_rfl, ?h52⟩) hHeld ?_
            case h52 => intro u hSw; clear hSw; go_simp; try with_reducible rfl
            try simp only [List.getElem_toArray]
            try simp only [List.getElem_cons_succ]
            try simp only [List.getElem_cons_zero]
            try simp only [Act.put]
            try simp only [List.setIfInBounds_toArray]
            try simp only [List.set]
            refine wpAnyH_done (by kernel_rfl) ?_ _
            have dq : (q == 0) = false := by simpa using hq
            go_wp2_with fail
            go_roundw
            case rel => exact ⟨j + 1, by omega, by go_num, hHeld.t, ⟨_, by omega, hHeld.s⟩, _, _, _, _, _, _, hHeld.p, hHeld.o⟩
            case measure => simp [intOf]; omega
          · refine hK.out _ _ (hHeld.up gb) (fun hHeld => ?_)
            clear hK K
            try simp only [Act.put]
            try simp only [List.setIfInBounds_toArray]
            try simp only [List.set]
            have P1 : PgN w.heap.size pg ng nd ny D2 := ⟨hN.len, hNF, (hN.bytes (Nat.le_refl _) hN.lt).reads, hnd, by omega, by omega, hN.lt⟩
            clear gb hcb hN hng hNF hD1 hD1p
            refine wpAnyH_take (i := 9) (v := ?v53) rfl (by kernel_rfl) (by kernel_rfl) (by kernel_rfl) (fun _ _ _ h => h) (Or.inl ⟨by kernel_rfl, ?h53⟩) hHeld ?_
            case h53 => intro u hSw; clear hSw; go_simp; try with_reducible rfl
            try simp only [List.getElem_toArray]
            try simp only [List.getElem_cons_succ]
            try simp only [List.getElem_cons_zero]
            try simp only [Act.put]
            try simp only [List.setIfInBounds_toArray]
            try simp only [List.set]
            refine wpAnyH_take (i := 10) (v := ?v54) rfl (by kernel_rfl) (by kernel_rfl) (by kernel_rfl) (fun _ _ _ h => h) (Or.inl ⟨by kernel_rfl, ?h54⟩) hHeld ?_
            case h54 => intro u hSw; clear hSw; go_simp; try with_reducible rfl
            try simp only [List.getElem_toArray]
            try simp only [List.getElem_cons_succ]
            try simp only [List.getElem_cons_zero]
            try simp only [Act.put]
            try simp only [List.setIfInBounds_toArray]
            try simp only [List.set]
            refine wpAnyH_take (i := 11) (v := ?v55) rfl (by kernel_rfl) (by kernel_rfl) (by kernel_rfl) (fun _ _ _ h => h) (Or.inl ⟨by kernel_rfl, ?h55⟩) hHeld ?_
            case h55 => intro u hSw; clear hSw; go_simp; try with_reducible rfl
            try simp only [List.getElem_toArray]
            try simp only [List.getElem_cons_succ]
            try simp only [List.getElem_cons_zero]
            try simp only [Act.put]
            try simp only [List.setIfInBounds_toArray]
            try simp only [List.set]
            refine wpAnyH_take (i := 12) (v := ?v56) rfl (by kernel_rfl) (by kernel_rfl) (by kernel_rfl) (fun _ _ _ h => h) (Or.inl ⟨by kernel_rfl, ?h56⟩) hHeld ?_
            case h56 => intro u hSw; clear hSw; go_simp; try with_reducible rfl
            try simp only [List.getElem_toArray]
            try simp only [List.getElem_cons_succ]
            try simp only [List.getElem_cons_zero]
            try simp only [Act.put]
            try simp only [List.setIfInBounds_toArray]
            try simp only [List.set]
            refine wpAnyH_take (i := 13) (v := ?v57) rfl (by kernel_rfl) (by kernel_rfl) (by kernel_rfl) (fun _ _ _ h => h) (Or.inl ⟨by kernel_rfl, ?h57⟩) hHeld ?_
            case h57 => intro u hSw; clear hSw; go_simp; try with_reducible rfl
            try simp only [List.getElem_toArray]
            try simp only [List.getElem_cons_succ]
            try simp only [List.getElem_cons_zero]
            try simp only [Act.put]
            try simp only [List.setIfInBounds_toArray]
            try simp only [List.set]
            refine wpAnyH_take (i := 14) (v := ?v58) rfl (by kernel_rfl) (by kernel_rfl) (by kernel_rfl) (fun _ _ _ h => h) (Or.inl ⟨by kernel_rfl, ?h58⟩) hHeld ?_
            case h58 => intro u hSw; clear hSw; go_simp; try with_reducible rfl
            try simp only [List.getElem_toArray]
            try simp only [List.getElem_cons_succ]
            try simp only [List.getElem_cons_zero]
            try simp only [Act.put]
            try simp only [List.setIfInBounds_toArray]
            try simp only [List.set]
            refine wpAnyH_take (i := 15) (v := ?v59) rfl (by kernel_rfl) (by kernel_rfl) (by kernel_rfl) (fun _ _ _ h => h) (Or.inl ⟨by kernel_rfl, ?h59⟩) hHeld ?_
            case h59 => intro u hSw; clear hSw; go_simp; try with_reducible rfl
            try simp only [List.getElem_toArray]
            try simp only [List.getElem_cons_succ]
            try simp only [List.getElem_cons_zero]
            try simp only [Act.put]
            try simp only [List.setIfInBounds_toArray]
            try simp only [List.set]
            refine wpAnyH_done (by kernel_rfl) ?_ _
            obtain ⟨Pp, Pr, Ps, Pt, Po⟩ := hHeld
            have Q1 := Pp.set0 P1
            have hpl := Pp.lo
            have Ps2 := Ps.setFar (p := ⟨pg, 0, none⟩) (by simp only; omega) (.slice (some ⟨ng, 0, none⟩) 64 nd)
            have Po2 := ownsRow_setCell_below Po (a := ⟨pg, 0, none⟩) (show pg < rbase by omega) (.slice (some ⟨ng, 0, none⟩) 64 nd)
            have T2 := Pt.low (w2 := D2.setCell ⟨pg, 0, none⟩ (.slice (some ⟨ng, 0, none⟩) 64 nd)) (by go_grown)
            obtain ⟨c0, c1, _, _, hfz, _⟩ := Pp
            have f0 := hfz 0
            clear Ps Pr Po Pt P1
            go_wp2_with fail
            go_roundw
            case rel => exact ⟨j + 1, by omega, by go_num, T2, ⟨_, by omega, Ps2⟩, _, _, _, _, _, _, Q1, Po2⟩
            case measure => simp [intOf]; omega
        · clear hr50 hr51
          go_upto_region 14 with (fail)
          refine wp_region_held_drew (S := LgS w b a n c zs (jj + 1 + 1) pg g0 d0 g1 d1 y0 y1 rg (j * 4) ⟨xt, xk, xv, xs⟩ rbase rv rs) (by kernel_rfl) H.drew (fun hHeld => ?_)
          generalize World.drew _ = D at hHeld ⊢
          clear H
          refine wpAnyH_take (i := 0) (v := ?v60) rfl (by kernel_rfl) (by kernel_rfl) (by kernel_rfl) (fun _ _ _ h => h) (Or.inl ⟨by kernel_rfl, ?h60⟩) hHeld ?_
          case h60 => intro u hSw; (obtain ⟨c0, c1, -, -, -, -⟩ := hSw.p; obtain ⟨r0, r1, r2, r3⟩ := hSw.r; dsimp only at r0 r1 r2 r3); clear hSw; go_simp; try with_reducible rfl
          try simp only [List.getElem_toArray]
          try simp only [List.getElem_cons_succ]
          try simp only [List.getElem_cons_zero]
          try simp only [Act.put]
          try simp only [List.setIfInBounds_toArray]
          try simp only [List.set]
          refine wpAnyH_take (i := 1) (v := ?v61) rfl (by kernel_rfl) (by kernel_rfl) (by kernel_rfl) (fun _ _ _ h => h) (Or.inl ⟨by kernel_rfl, ?h61⟩) hHeld ?_
          case h61 => intro u hSw; (obtain ⟨c0, c1, -, -, -, -⟩ := hSw.p; obtain ⟨r0, r1, r2, r3⟩ := hSw.r; dsimp only at r0 r1 r2 r3); clear hSw; go_simp; try with_reducible rfl
          try simp only [List.getElem_toArray]
          try simp only [List.getElem_cons_succ]
          try simp only [List.getElem_cons_zero]
          try simp only [Act.put]
          try simp only [List.setIfInBounds_toArray]
          try simp only [List.set]
          refine wpAnyH_take (i := 2) (v := ?v62) rfl (by kernel_rfl) (by kernel_rfl) (by kernel_rfl) (fun _ _ _ h => h) (Or.inl ⟨by kernel_rfl, ?h62⟩) hHeld ?_
          case h62 => intro u hSw; (obtain ⟨c0, c1, -, -, -, -⟩ := hSw.p; obtain ⟨r0, r1, r2, r3⟩ := hSw.r; dsimp only at r0 r1 r2 r3); clear hSw; go_simp; try with_reducible rfl
          try simp only [List.getElem_toArray]
          try simp only [List.getElem_cons_succ]
          try simp only [List.getElem_cons_zero]
          try simp only [Act.put]
          try simp only [List.setIfInBounds_toArray]
          try simp only [List.set]
          refine wpAnyH_take (i := 3) (v := ?v63) rfl (by kernel_rfl) (by kernel_rfl) (by kernel_rfl) (fun _ _ _ h => h) (Or.inl ⟨by kernel_rfl, ?h63⟩) hHeld ?_
          case h63 => intro u hSw; (obtain ⟨c0, c1, -, -, -, -⟩ := hSw.p; obtain ⟨r0, r1, r2, r3⟩ := hSw.r; dsimp only at r0 r1 r2 r3); clear hSw; go_simp; try with_reducible rfl
          try simp only [List.getElem_toArray]
          try simp only [List.getElem_cons_succ]
          try simp only [List.getElem_cons_zero]
          try simp only [Act.put]
          try simp only [List.setIfInBounds_toArray]
          try simp only [List.set]
          refine wpAnyH_take (i := 4) (v := ?v64) rfl (by kernel_rfl) (by kernel_rfl) (by kernel_rfl) (fun _ _ _ h => h) (Or.inl ⟨by kernel_rfl, ?h64⟩) hHeld ?_
          case h64 => intro u hSw; (obtain ⟨c0, c1, -, -, -, -⟩ := hSw.p; obtain ⟨r0, r1, r2, r3⟩ := hSw.r; dsimp only at r0 r1 r2 r3); clear hSw; go_simp; try with_reducible rfl
          try simp only [List.getElem_toArray]
          try simp only [List.getElem_cons_succ]
          try simp only [List.getElem_cons_zero]
          try simp only [Act.put]
          try simp only [List.setIfInBounds_toArray]
          try simp only [List.set]
          refine wpAnyH_take (i := 5) (v := ?v65) rfl (by kernel_rfl) (by kernel_rfl) (by kernel_rfl) (fun _ _ _ h => h) (Or.inl ⟨by kernel_rfl, ?h65⟩) hHeld ?_
          case h65 => intro u hSw; (obtain ⟨c0, c1, -, -, -, -⟩ := hSw.p; obtain ⟨r0, r1, r2, r3⟩ := hSw.r; dsimp only at r0 r1 r2 r3); clear hSw; go_simp; try with_reducible rfl
          try simp only [List.getElem_toArray]
          try simp only [List.getElem_cons_succ]
          try simp only [List.getElem_cons_zero]
          try simp only [Act.put]
          try simp only [List.setIfInBounds_toArray]
          try simp only [List.set]
          refine wpAnyH_take (i := 6) (v := ?v66) rfl (by kernel_rfl) (by kernel_rfl) (by kernel_rfl) (fun _ _ _ h => h) (Or.inl ⟨by kernel_rfl, ?h66⟩) hHeld ?_
          case h66 => intro u hSw; (obtain ⟨c0, c1, -, -, -, -⟩ := hSw.p; obtain ⟨r0, r1, r2, r3⟩ := hSw.r; dsimp only at r0 r1 r2 r3); clear hSw; go_simp; try with_reducible rfl
          try simp only [List.getElem_toArray]
          try simp only [List.getElem_cons_succ]
          try simp only [List.getElem_cons_zero]
          try simp only [Act.put]
          try simp only [List.setIfInBounds_toArray]
          try simp only [List.set]
          refine wpAnyH_ready (rs := [7]) (by kernel_rfl) (by simp) ?_
          refine AllReadyH.cons rfl (fun K hK => ?_) AllReadyH.nil
          go_simp
          go_wp2_with (go_at_call 37; refine (l1CellO_any 0 xt xk xv xs rg (j * 4) _ (by omega) (by omega) hok.1.1 hok.1.2 hok.2.1.1 hok.2.1.2 hok.2.2.1.1 hok.2.2.1.2 hok.2.2.2 hHeld.r).mono ?_; rintro e D1 ⟨cg, cc, rfl, _, gb, hcb⟩)
          refine hK.out _ _ (hHeld.up gb) (fun hHeld => ?_)
          clear hK K
          clear gb
          try simp only [Act.put]
          try simp only [List.setIfInBounds_toArray]
          try simp only [List.set]
          have hD1 := hHeld.t.size
          have hD1p := hHeld.p.lt
          refine wpAnyH_ready (rs := [8]) (by kernel_rfl) (by simp) ?_
          refine AllReadyH.cons rfl (fun K hK => ?_) AllReadyH.nil
          go_simp
          go_wp2_with fail
          refine (l2Put_of (some ⟨g1, 0, none⟩) y1 (cellBytes 0 xt xk xv xs) d1 cg 0 (6 + xs.size) _ _ hHeld.p.p1.rd hHeld.p.p1.fine (cellBytes_len _ _ _ _ _) (by omega) (by omega) (cellBytes_rng hok (by omega) (by omega)) hcb.reads).mono ?_
          rintro e D2 ⟨gb, hor⟩
          rcases hor with ⟨q, hq, rfl⟩ | ⟨ng, nd, ny, sl, rfl, hnd, hng, hN, hNF, hs0, hs1'⟩
          · refine hK.out _ _ (hHeld.up gb) (fun hHeld => ?_)
            clear hK K
            try simp only [Act.put]
            try simp only [List.setIfInBounds_toArray]
            try simp only [List.set]
            clear gb hcb
            refine wpAnyH_take (i := 9) (v := ?v67) rfl (by kernel_rfl) (by kernel_rfl) (by kernel_rfl) (fun _ _ _ h => h) (Or.inl ⟨by kernel_rfl, ?h67⟩) hHeld ?_
            case h67 => intro u hSw; clear hSw; go_simp; try with_reducible rfl
            try simp only [List.getElem_toArray]
            try simp only [List.getElem_cons_succ]
            try simp only [List.getElem_cons_zero]
            try simp only [Act.put]
            try simp only [List.setIfInBounds_toArray]
            try simp only [List.set]
            refine wpAnyH_take (i := 10) (v := ?v68) rfl (by kernel_rfl) (by kernel_rfl) (by kernel_rfl) (fun _ _ _ h => h) (Or.inl ⟨by kernel_rfl, ?h68⟩) hHeld ?_
            case h68 => intro u hSw; clear hSw; go_simp; try with_reducible rfl
            try simp only [List.getElem_toArray]
            try simp only [List.getElem_cons_succ]
            try simp only [List.getElem_cons_zero]
            try simp only [Act.put]
            try simp only [List.setIfInBounds_toArray]
            try simp only [List.set]
            refine wpAnyH_take (i := 11) (v := ?v69) rfl (by kernel_rfl) (by kernel_rfl) (by kernel_rfl) (fun _ _ _ h => h) (Or.inl ⟨by kernel_rfl, ?h69⟩) hHeld ?_
            case h69 => intro u hSw; clear hSw; go_simp; try with_reducible rfl
            try simp only [List.getElem_toArray]
            try simp only [List.getElem_cons_succ]
            try simp only [List.getElem_cons_zero]
            try simp only [Act.put]
            try simp only [List.setIfInBounds_toArray]
            try simp only [List.set]
            refine wpAnyH_take (i := 12) (v := ?v70) rfl (by kernel_rfl) (by kernel_rfl) (by kernel_rfl) (fun _ _ _ h => h) (Or.inl ⟨by kernel_rfl, ?h70⟩) hHeld ?_
            case h70 => intro u hSw; clear hSw; go_simp; try with_reducible rfl
            try simp only [List.getElem_toArray]
            try simp only [List.getElem_cons_succ]
            try simp only [List.getElem_cons_zero]
            try simp only [Act.put]
            try simp only [List.setIfInBounds_toArray]
            try simp only [List.set]
            refine wpAnyH_take (i := 13) (v := ?v71) rfl (by kernel_rfl) (by kernel_rfl) (by kernel_rfl) (fun _ _ _ h => h) (Or.inl ⟨by kernel_rfl, ?h71⟩) hHeld ?_
            case h71 => intro u hSw; clear hSw; go_simp; try with_reducible rfl
            try simp only [List.getElem_toArray]
            try simp only [List.getElem_cons_succ]
            try simp only [List.getElem_cons_zero]
            try simp only [Act.put]
            try simp only [List.setIfInBounds_toArray]
            try simp only [List.set]
            refine wpAnyH_take (i := 14) (v := ?v72) rfl (by kernel_rfl) (by kernel_rfl) (by kernel_rfl) (fun _ _ _ h => h) (Or.inl ⟨by kernel_rfl, ?h72⟩) hHeld ?_
            case h72 => intro u hSw; clear hSw; go_simp; try with_reducible rfl
            try simp only [List.getElem_toArray]
            try simp only [List.getElem_cons_succ]
            try simp only [List.getElem_cons_zero]
            try simp only [Act.put]
            try simp only [List.setIfInBounds_toArray]
            try simp only [List.set]
            refine wpAnyH_take (i := 15) (v := ?v73) rfl (by kernel_rfl) (by kernel_rfl) (by kernel_rfl) (fun _ _ _ h => h) (Or.inl ⟨by kernel_rfl, ?h73⟩) hHeld ?_
            case h73 => intro u hSw; clear hSw; go_simp; try with_reducible rfl
            try simp only [List.getElem_toArray]
            try simp only [List.getElem_cons_succ]
            try simp only [List.getElem_cons_zero]
            try simp only [Act.put]
            try simp only [List.setIfInBounds_toArray]
            try simp only [List.set]
            refine wpAnyH_done (by kernel_rfl) ?_ _
            have dq : (q == 0) = false := by simpa using hq
            go_wp2_with fail
            go_roundw
            case rel => exact ⟨j + 1, by omega, by go_num, hHeld.t, ⟨_, by omega, hHeld.s⟩, _, _, _, _, _, _, hHeld.p, hHeld.o⟩
            case measure => simp [intOf]; omega
          · refine hK.out _ _ (hHeld.up gb) (fun hHeld => ?_)
            clear hK K
            try simp only [Act.put]
            try simp only [List.setIfInBounds_toArray]
            try simp only [List.set]
            have P1 : PgN w.heap.size pg ng nd ny D2 := ⟨hN.len, hNF, (hN.bytes (Nat.le_refl _) hN.lt).reads, hnd, by omega, by omega, hN.lt⟩
            clear gb hcb hN hng hNF hD1 hD1p
            refine wpAnyH_take (i := 9) (v := ?v74) rfl (by kernel_rfl) (by kernel_rfl) (by kernel_rfl) (fun _ _ _ h => h) (Or.inl ⟨by kernel_rfl, ?h74⟩) hHeld ?_
            case h74 => intro u hSw; clear hSw; go_simp; try with_reducible rfl
            try simp only [List.getElem_toArray]
            try simp only [List.getElem_cons_succ]
            try simp only [List.getElem_cons_zero]
            try simp only [Act.put]
            try simp only [List.setIfInBounds_toArray]
            try simp only [List.set]
            refine wpAnyH_take (i := 10) (v := ?v75) rfl (by kernel_rfl) (by kernel_rfl) (by kernel_rfl) (fun _ _ _ h => h) (Or.inl ⟨by kernel_rfl, ?h75⟩) hHeld ?_
            case h75 => intro u hSw; clear hSw; go_simp; try with_reducible rfl
            try simp only [List.getElem_toArray]
            try simp only [List.getElem_cons_succ]
            try simp only [List.getElem_cons_zero]
            try simp only [Act.put]
            try simp only [List.setIfInBounds_toArray]
            try simp only [List.set]
            refine wpAnyH_take (i := 11) (v := ?v76) rfl (by kernel_rfl) (by kernel_rfl) (by kernel_rfl) (fun _ _ _ h => h) (Or.inl ⟨by kernel_rfl, ?h76⟩) hHeld ?_
            case h76 => intro u hSw; clear hSw; go_simp; try with_reducible rfl
            try simp only [List.getElem_toArray]
            try simp only [List.getElem_cons_succ]
            try simp only [List.getElem_cons_zero]
            try simp only [Act.put]
            try simp only [List.setIfInBounds_toArray]
            try simp only [List.set]
            refine wpAnyH_take (i := 12) (v := ?v77) rfl (by kernel_rfl) (by kernel_rfl) (by kernel_rfl) (fun _ _ _ h => h) (Or.inl ⟨by kernel_rfl, ?h77⟩) hHeld ?_
            case h77 => intro u hSw; clear hSw; go_simp; try with_reducible rfl
            try simp only [List.getElem_toArray]
            try simp only [List.getElem_cons_succ]
            try simp only [List.getElem_cons_zero]
            try simp only [Act.put]
            try simp only [List.setIfInBounds_toArray]
            try simp only [List.set]
            refine wpAnyH_take (i := 13) (v := ?v78) rfl (by kernel_rfl) (by kernel_rfl) (by kernel_rfl) (fun _ _ _ h => h) (Or.inl ⟨by kernel_rfl, ?h78⟩) hHeld ?_
            case h78 => intro u hSw; clear hSw; go_simp; try with_reducible rfl
            try simp only [List.getElem_toArray]
            try simp only [List.getElem_cons_succ]
            try simp only [List.getElem_cons_zero]
            try simp only [Act.put]
            try simp only [List.setIfInBounds_toArray]
            try simp only [List.set]
            refine wpAnyH_take (i := 14) (v := ?v79) rfl (by kernel_rfl) (by kernel_rfl) (by kernel_rfl) (fun _ _ _ h => h) (Or.inl ⟨by kernel_rfl, ?h79⟩) hHeld ?_
            case h79 => intro u hSw; clear hSw; go_simp; try with_reducible rfl
            try simp only [List.getElem_toArray]
            try simp only [List.getElem_cons_succ]
            try simp only [List.getElem_cons_zero]
            try simp only [Act.put]
            try simp only [List.setIfInBounds_toArray]
            try simp only [List.set]
            refine wpAnyH_take (i := 15) (v := ?v80) rfl (by kernel_rfl) (by kernel_rfl) (by kernel_rfl) (fun _ _ _ h => h) (Or.inl ⟨by kernel_rfl, ?h80⟩) hHeld ?_
            case h80 => intro u hSw; clear hSw; go_simp; try with_reducible rfl
            try simp only [List.getElem_toArray]
            try simp only [List.getElem_cons_succ]
            try simp only [List.getElem_cons_zero]
            try simp only [Act.put]
            try simp only [List.setIfInBounds_toArray]
            try simp only [List.set]
            refine wpAnyH_done (by kernel_rfl) ?_ _
            obtain ⟨Pp, Pr, Ps, Pt, Po⟩ := hHeld
            have Q1 := Pp.set1 P1
            have hpl := Pp.lo
            have Ps2 := Ps.setFar (p := ⟨pg, 1, none⟩) (by simp only; omega) (.slice (some ⟨ng, 0, none⟩) 64 nd)
            have Po2 := ownsRow_setCell_below Po (a := ⟨pg, 1, none⟩) (show pg < rbase by omega) (.slice (some ⟨ng, 0, none⟩) 64 nd)
            have T2 := Pt.low (w2 := D2.setCell ⟨pg, 1, none⟩ (.slice (some ⟨ng, 0, none⟩) 64 nd)) (by go_grown)
            obtain ⟨c0, c1, _, _, hfz, _⟩ := Pp
            have f0 := hfz 1
            clear Ps Pr Po Pt P1
            go_wp2_with fail
            go_roundw
            case rel => exact ⟨j + 1, by omega, by go_num, T2, ⟨_, by omega, Ps2⟩, _, _, _, _, _, _, Q1, Po2⟩
            case measure => simp [intOf]; omega
      · have hxs8 : xs.size ≤ 8 := hok.2.2.2
        go_upto_region 7 with (fail)
        refine wp_region_held_drew (S := LgS w b a n c zs (jj + 1) pg g0 d0 g1 d1 y0 y1 rg (j * 4) ⟨xt, xk, xv, xs⟩ rbase rv rs) (by kernel_rfl) H.drew (fun hHeld => ?_)
        generalize World.drew _ = D at hHeld ⊢
        clear H
        refine wpAnyH_take (i := 0) (v := ?v1) rfl (by kernel_rfl) (by kernel_rfl) (by kernel_rfl) (fun _ _ _ h => h) (Or.inl ⟨by kernel_rfl, ?h1⟩) hHeld ?_
        case h1 => intro u hSw; (obtain ⟨c0, c1, -, -, -, -⟩ := hSw.p; obtain ⟨r0, r1, r2, r3⟩ := hSw.r; dsimp only at r0 r1 r2 r3); clear hSw; go_simp; try with_reducible rfl
        try simp only [List.getElem_toArray]
        try simp only [List.getElem_cons_succ]
        try simp only [List.getElem_cons_zero]
        try simp only [Act.put]
        try simp only [List.setIfInBounds_toArray]
        try simp only [List.set]
        refine wpAnyH_take (i := 1) (v := ?v2) rfl (by kernel_rfl) (by kernel_rfl) (by kernel_rfl) (fun _ _ _ h => h) (Or.inl ⟨by kernel_rfl, ?h2⟩) hHeld ?_
        case h2 => intro u hSw; (obtain ⟨c0, c1, -, -, -, -⟩ := hSw.p; obtain ⟨r0, r1, r2, r3⟩ := hSw.r; dsimp only at r0 r1 r2 r3); clear hSw; go_simp; try with_reducible rfl
        try simp only [List.getElem_toArray]
        try simp only [List.getElem_cons_succ]
        try simp only [List.getElem_cons_zero]
        try simp only [Act.put]
        try simp only [List.setIfInBounds_toArray]
        try simp only [List.set]
        refine wpAnyH_take (i := 2) (v := ?v3) rfl (by kernel_rfl) (by kernel_rfl) (by kernel_rfl) (fun _ _ _ h => h) (Or.inl ⟨by kernel_rfl, ?h3⟩) hHeld ?_
        case h3 => intro u hSw; (obtain ⟨c0, c1, -, -, -, -⟩ := hSw.p; obtain ⟨r0, r1, r2, r3⟩ := hSw.r; dsimp only at r0 r1 r2 r3); clear hSw; go_simp; try with_reducible rfl
        try simp only [List.getElem_toArray]
        try simp only [List.getElem_cons_succ]
        try simp only [List.getElem_cons_zero]
        try simp only [Act.put]
        try simp only [List.setIfInBounds_toArray]
        try simp only [List.set]
        refine wpAnyH_take (i := 3) (v := ?v4) rfl (by kernel_rfl) (by kernel_rfl) (by kernel_rfl) (fun _ _ _ h => h) (Or.inl ⟨by kernel_rfl, ?h4⟩) hHeld ?_
        case h4 => intro u hSw; (obtain ⟨c0, c1, -, -, -, -⟩ := hSw.p; obtain ⟨r0, r1, r2, r3⟩ := hSw.r; dsimp only at r0 r1 r2 r3); clear hSw; go_simp; try with_reducible rfl
        try simp only [List.getElem_toArray]
        try simp only [List.getElem_cons_succ]
        try simp only [List.getElem_cons_zero]
        try simp only [Act.put]
        try simp only [List.setIfInBounds_toArray]
        try simp only [List.set]
        refine wpAnyH_take (i := 4) (v := ?v5) rfl (by kernel_rfl) (by kernel_rfl) (by kernel_rfl) (fun _ _ _ h => h) (Or.inl ⟨by kernel_rfl, ?h5⟩) hHeld ?_
        case h5 => intro u hSw; (obtain ⟨c0, c1, -, -, -, -⟩ := hSw.p; obtain ⟨r0, r1, r2, r3⟩ := hSw.r; dsimp only at r0 r1 r2 r3); clear hSw; go_simp; try with_reducible rfl
        try simp only [List.getElem_toArray]
        try simp only [List.getElem_cons_succ]
        try simp only [List.getElem_cons_zero]
        try simp only [Act.put]
        try simp only [List.setIfInBounds_toArray]
        try simp only [List.set]
        refine wpAnyH_take (i := 5) (v := ?v6) rfl (by kernel_rfl) (by kernel_rfl) (by kernel_rfl) (fun _ _ _ h => h) (Or.inl ⟨by kernel_rfl, ?h6⟩) hHeld ?_
        case h6 => intro u hSw; (obtain ⟨c0, c1, -, -, -, -⟩ := hSw.p; obtain ⟨r0, r1, r2, r3⟩ := hSw.r; dsimp only at r0 r1 r2 r3); clear hSw; go_simp; try with_reducible rfl
        try simp only [List.getElem_toArray]
        try simp only [List.getElem_cons_succ]
        try simp only [List.getElem_cons_zero]
        try simp only [Act.put]
        try simp only [List.setIfInBounds_toArray]
        try simp only [List.set]
        refine wpAnyH_ready (rs := [6]) (by kernel_rfl) (by simp) ?_
        refine AllReadyH.cons rfl (fun K hK => ?_) AllReadyH.nil
        go_simp
        go_wp2_with (go_at_call 37; refine (l1CellO_any 2 xt xk xv xs rg (j * 4) _ (by omega) (by omega) hok.1.1 hok.1.2 hok.2.1.1 hok.2.1.2 hok.2.2.1.1 hok.2.2.1.2 hok.2.2.2 hHeld.r).mono ?_; rintro e D1 ⟨cg, cc, rfl, _, gb, hcb⟩)
        refine hK.out _ _ (hHeld.up gb) (fun hHeld => ?_)
        clear hK K
        clear gb
        try simp only [Act.put]
        try simp only [List.setIfInBounds_toArray]
        try simp only [List.set]
        have hD1 := hHeld.t.size
        have hD1p := hHeld.p.lt
        refine wpAnyH_ready (rs := [7]) (by kernel_rfl) (by simp) ?_
        refine AllReadyH.cons rfl (fun K hK => ?_) AllReadyH.nil
        go_simp
        go_wp2_with fail
        refine (l2Put_of (some ⟨g1, 0, none⟩) y1 (cellBytes 2 xt xk xv xs) d1 cg 0 (6 + xs.size) _ _ hHeld.p.p1.rd hHeld.p.p1.fine (cellBytes_len _ _ _ _ _) (by omega) (by omega) (cellBytes_rng hok (by omega) (by omega)) hcb.reads).mono ?_
        rintro e D2 ⟨gb, hor⟩
        rcases hor with ⟨q, hq, rfl⟩ | ⟨ng, nd, ny, sl, rfl, hnd, hng, hN, hNF, hs0, hs1'⟩
        · refine hK.out _ _ (hHeld.up gb) (fun hHeld => ?_)
          clear hK K
          try simp only [Act.put]
          try simp only [List.setIfInBounds_toArray]
          try simp only [List.set]
          clear gb hcb
          refine wpAnyH_take (i := 8) (v := ?v7) rfl (by kernel_rfl) (by kernel_rfl) (by kernel_rfl) (fun _ _ _ h => h) (Or.inl ⟨by kernel_rfl, ?h7⟩) hHeld ?_
          case h7 => intro u hSw; clear hSw; go_simp; try with_reducible rfl
          try simp only [List.getElem_toArray]
          try simp only [List.getElem_cons_succ]
          try simp only [List.getElem_cons_zero]
          try simp only [Act.put]
          try simp only [List.setIfInBounds_toArray]
          try simp only [List.set]
          refine wpAnyH_take (i := 9) (v := ?v8) rfl (by kernel_rfl) (by kernel_rfl) (by kernel_rfl) (fun _ _ _ h => h) (Or.inl ⟨by kernel_rfl, ?h8⟩) hHeld ?_
          case h8 => intro u hSw; clear hSw; go_simp; try with_reducible rfl
          try simp only [List.getElem_toArray]
          try simp only [List.getElem_cons_succ]
          try simp only [List.getElem_cons_zero]
          try simp only [Act.put]
          try simp only [List.setIfInBounds_toArray]
          try simp only [List.set]
          refine wpAnyH_take (i := 10) (v := ?v9) rfl (by kernel_rfl) (by kernel_rfl) (by kernel_rfl) (fun _ _ _ h => h) (Or.inl ⟨by kernel_rfl, ?h9⟩) hHeld ?_
          case h9 => intro u hSw; clear hSw; go_simp; try with_reducible rfl
          try simp only [List.getElem_toArray]
          try simp only [List.getElem_cons_succ]
          try simp only [List.getElem_cons_zero]
          try simp only [Act.put]
          try simp only [List.setIfInBounds_toArray]
          try simp only [List.set]
          refine wpAnyH_take (i := 11) (v := ?v10) rfl (by kernel_rfl) (by kernel_rfl) (by kernel_rfl) (fun _ _ _ h => h) (Or.inl ⟨by kernel_rfl, ?h10⟩) hHeld ?_
          case h10 => intro u hSw; clear hSw; go_simp; try with_reducible rfl
          try simp only [List.getElem_toArray]
          try simp only [List.getElem_cons_succ]
          try simp only [List.getElem_cons_zero]
          try simp only [Act.put]
          try simp only [List.setIfInBounds_toArray]
          try simp only [List.set]
          refine wpAnyH_take (i := 12) (v := ?v11) rfl (by kernel_rfl) (by kernel_rfl) (by kernel_rfl) (fun _ _ _ h => h) (Or.inl ⟨by kernel_rfl, ?h11⟩) hHeld ?_
          case h11 => intro u hSw; clear hSw; go_simp; try with_reducible rfl
          try simp only [List.getElem_toArray]
          try simp only [List.getElem_cons_succ]
          try simp only [List.getElem_cons_zero]
          try simp only [Act.put]
          try simp only [List.setIfInBounds_toArray]
          try simp only [List.set]
          refine wpAnyH_take (i := 13) (v := ?v12) rfl (by kernel_rfl) (by kernel_rfl) (by kernel_rfl) (fun _ _ _ h => h) (Or.inl ⟨by kernel_rfl, ?h12⟩) hHeld ?_
          case h12 => intro u hSw; clear hSw; go_simp; try with_reducible rfl
          try simp only [List.getElem_toArray]
          try simp only [List.getElem_cons_succ]
          try simp only [List.getElem_cons_zero]
          try simp only [Act.put]
          try simp only [List.setIfInBounds_toArray]
          try simp only [List.set]
          refine wpAnyH_take (i := 14) (v := ?v13) rfl (by kernel_rfl) (by kernel_rfl) (by kernel_rfl) (fun _ _ _ h => h) (Or.inl ⟨by kernel_rfl, ?h13⟩) hHeld ?_
          case h13 => intro u hSw; clear hSw; go_simp; try with_reducible rfl
          try simp only [List.getElem_toArray]
          try simp only [List.getElem_cons_succ]
          try simp only [List.getElem_cons_zero]
          try simp only [Act.put]
          try simp only [List.setIfInBounds_toArray]
          try simp only [List.set]
          refine wpAnyH_done (by kernel_rfl) ?_ _
          have dq : (q == 0) = false := by simpa using hq
          go_wp2_with fail
          go_roundw
          case rel => exact ⟨j + 1, by omega, by go_num, hHeld.t, ⟨_, by omega, hHeld.s⟩, _, _, _, _, _, _, hHeld.p, hHeld.o⟩
          case measure => simp [intOf]; omega
        · refine hK.out _ _ (hHeld.up gb) (fun hHeld => ?_)
          clear hK K
          try simp only [Act.put]
          try simp only [List.setIfInBounds_toArray]
          try simp only [List.set]
          have P1 : PgN w.heap.size pg ng nd ny D2 := ⟨hN.len, hNF, (hN.bytes (Nat.le_refl _) hN.lt).reads, hnd, by omega, by omega, hN.lt⟩
          clear gb hcb hN hng hNF hD1 hD1p
          refine wpAnyH_take (i := 8) (v := ?v14) rfl (by kernel_rfl) (by kernel_rfl) (by kernel_rfl) (fun _ _ _ h => h) (Or.inl ⟨by kernel_rfl, ?h14⟩) hHeld ?_
          case h14 => intro u hSw; clear hSw; go_simp; try with_reducible rfl
          try simp only [List.getElem_toArray]
          try simp only [List.getElem_cons_succ]
          try simp only [List.getElem_cons_zero]
          try simp only [Act.put]
          try simp only [List.setIfInBounds_toArray]
          try simp only [List.set]
          refine wpAnyH_take (i := 9) (v := ?v15) rfl (by kernel_rfl) (by kernel_rfl) (by kernel_rfl) (fun _ _ _ h => h) (Or.inl ⟨by kernel_rfl, ?h15⟩) hHeld ?_
          case h15 => intro u hSw; clear hSw; go_simp; try with_reducible rfl
          try simp only [List.getElem_toArray]
          try simp only [List.getElem_cons_succ]
          try simp only [List.getElem_cons_zero]
          try simp only [Act.put]
          try simp only [List.setIfInBounds_toArray]
          try simp only [List.set]
          refine wpAnyH_take (i := 10) (v := ?v16) rfl (by kernel_rfl) (by kernel_rfl) (by kernel_rfl) (fun _ _ _ h => h) (Or.inl ⟨by kernel_rfl, ?h16⟩) hHeld ?_
          case h16 => intro u hSw; clear hSw; go_simp; try with_reducible rfl
          try simp only [List.getElem_toArray]
          try simp only [List.getElem_cons_succ]
          try simp only [List.getElem_cons_zero]
          try simp only [Act.put]
          try simp only [List.setIfInBounds_toArray]
          try simp only [List.set]
          refine wpAnyH_take (i := 11) (v := ?v17) rfl (by kernel_rfl) (by kernel_rfl) (by kernel_rfl) (fun _ _ _ h => h) (Or.inl ⟨by kernel_rfl, ?h17⟩) hHeld ?_
          case h17 => intro u hSw; clear hSw; go_simp; try with_reducible rfl
          try simp only [List.getElem_toArray]
          try simp only [List.getElem_cons_succ]
          try simp only [List.getElem_cons_zero]
          try simp only [Act.put]
          try simp only [List.setIfInBounds_toArray]
          try simp only [List.set]
          refine wpAnyH_take (i := 12) (v := ?v18) rfl (by kernel_rfl) (by kernel_rfl) (by kernel_rfl) (fun _ _ _ h => h) (Or.inl ⟨by kernel_rfl, ?h18⟩) hHeld ?_
          case h18 => intro u hSw; clear hSw; go_simp; try with_reducible rfl
          try simp only [List.getElem_toArray]
          try simp only [List.getElem_cons_succ]
          try simp only [List.getElem_cons_zero]
          try simp only [Act.put]
          try simp only [List.setIfInBounds_toArray]
          try simp only [List.set]
          refine wpAnyH_take (i := 13) (v := ?v19) rfl (by kernel_rfl) (by kernel_rfl) (by kernel_rfl) (fun _ _ _ h => h) (Or.inl ⟨by kernel_rfl, ?h19⟩) hHeld ?_
          case h19 => intro u hSw; clear hSw; go_simp; try with_reducible rfl
          try simp only [List.getElem_toArray]
          try simp only [List.getElem_cons_succ]
          try simp only [List.getElem_cons_zero]
          try simp only [Act.put]
          try simp only [List.setIfInBounds_toArray]
          try simp only [List.set]
          refine wpAnyH_take (i := 14) (v := ?v20) rfl (by kernel_rfl) (by kernel_rfl) (by kernel_rfl) (fun _ _ _ h => h) (Or.inl ⟨by kernel_rfl, ?h20⟩) hHeld ?_
          case h20 => intro u hSw; clear hSw; go_simp; try with_reducible rfl
          try simp only [List.getElem_toArray]
          try simp only [List.getElem_cons_succ]
          try simp only [List.getElem_cons_zero]
          try simp only [Act.put]
          try simp only [List.setIfInBounds_toArray]
          try simp only [List.set]
          refine wpAnyH_done (by kernel_rfl) ?_ _
          have H9 := hHeld
          clear hHeld
          go_upto_region 9 with (fail)
          refine wp_region_held_drew (S := fun V => LgS w b a n c zs (jj + 1) pg g0 d0 g1 d1 y0 y1 rg (j * 4) ⟨xt, xk, xv, xs⟩ rbase rv rs V ∧ PgN w.heap.size pg ng nd ny V) (by kernel_rfl) ⟨H9.drew, P1.below ⟨rfl, rfl, rfl, Nat.le_refl _, fun _ _ => rfl⟩⟩ (fun hHeld => ?_)
          generalize World.drew _ = D9 at hHeld ⊢
          clear H9 P1
          refine wpAnyH_take (i := 0) (v := ?v21) rfl (by kernel_rfl) (by kernel_rfl) (by kernel_rfl) (fun _ _ _ h => h) (Or.inl ⟨by kernel_rfl, ?h21⟩) hHeld ?_
          case h21 => intro u hSw; (obtain ⟨c0, c1, -, -, -, -⟩ := hSw.1.p; obtain ⟨r0, r1, r2, r3⟩ := hSw.1.r; dsimp only at r0 r1 r2 r3); clear hSw; go_simp; try with_reducible rfl
          try simp only [List.getElem_toArray]
          try simp only [List.getElem_cons_succ]
          try simp only [List.getElem_cons_zero]
          try simp only [Act.put]
          try simp only [List.setIfInBounds_toArray]
          try simp only [List.set]
          refine wpAnyH_take (i := 1) (v := ?v22) rfl (by kernel_rfl) (by kernel_rfl) (by kernel_rfl) (fun _ _ _ h => h) (Or.inl ⟨by kernel_rfl, ?h22⟩) hHeld ?_
          case h22 => intro u hSw; (obtain ⟨c0, c1, -, -, -, -⟩ := hSw.1.p; obtain ⟨r0, r1, r2, r3⟩ := hSw.1.r; dsimp only at r0 r1 r2 r3); clear hSw; go_simp; try with_reducible rfl
          try simp only [List.getElem_toArray]
          try simp only [List.getElem_cons_succ]
          try simp only [List.getElem_cons_zero]
          try simp only [Act.put]
          try simp only [List.setIfInBounds_toArray]
          try simp only [List.set]
          refine wpAnyH_take (i := 2) (v := ?v23) rfl (by kernel_rfl) (by kernel_rfl) (by kernel_rfl) (fun _ _ _ h => h) (Or.inl ⟨by kernel_rfl, ?h23⟩) hHeld ?_
          case h23 => intro u hSw; (obtain ⟨c0, c1, -, -, -, -⟩ := hSw.1.p; obtain ⟨r0, r1, r2, r3⟩ := hSw.1.r; dsimp only at r0 r1 r2 r3); clear hSw; go_simp; try with_reducible rfl
          try simp only [List.getElem_toArray]
          try simp only [List.getElem_cons_succ]
          try simp only [List.getElem_cons_zero]
          try simp only [Act.put]
          try simp only [List.setIfInBounds_toArray]
          try simp only [List.set]
          refine wpAnyH_take (i := 3) (v := ?v24) rfl (by kernel_rfl) (by kernel_rfl) (by kernel_rfl) (fun _ _ _ h => h) (Or.inl ⟨by kernel_rfl, ?h24⟩) hHeld ?_
          case h24 => intro u hSw; (obtain ⟨c0, c1, -, -, -, -⟩ := hSw.1.p; obtain ⟨r0, r1, r2, r3⟩ := hSw.1.r; dsimp only at r0 r1 r2 r3); clear hSw; go_simp; try with_reducible rfl
          try simp only [List.getElem_toArray]
          try simp only [List.getElem_cons_succ]
          try simp only [List.getElem_cons_zero]
          try simp only [Act.put]
          try simp only [List.setIfInBounds_toArray]
          try simp only [List.set]
          refine wpAnyH_ready (rs := [4]) (by kernel_rfl) (by simp) ?_
          refine AllReadyH.cons rfl (fun K hK => ?_) AllReadyH.nil
          go_simp
          go_wp2_with (go_at_call 35; refine (l1Stub_wide 1 sl _ (by omega) (by omega) (by omega) (by omega)).mono ?_; rintro e E1 ⟨rfl, gb, hcb⟩)
          refine hK.out _ _ (⟨hHeld.1.up gb, hHeld.2.below gb⟩) (fun hHeld => ?_)
          clear hK K
          clear gb
          try simp only [Act.put]
          try simp only [List.setIfInBounds_toArray]
          try simp only [List.set]
          have hE1 := hHeld.1.t.size
          have hE1p := hHeld.1.p.lt
          refine wpAnyH_ready (rs := [5]) (by kernel_rfl) (by simp) ?_
          refine AllReadyH.cons rfl (fun K hK => ?_) AllReadyH.nil
          go_simp
          go_wp2_with fail
          refine (l2Put_of (some ⟨g0, 0, none⟩) y0 [1, 1, sl] d0 D9.heap.size 0 3 _ _ hHeld.1.p.p0.rd hHeld.1.p.p0.fine rfl (by omega) (by omega) (by intro z hz; simp at hz; omega) hcb.reads).mono ?_
          rintro e E2 ⟨gb, hor⟩
          rcases hor with ⟨q, hq, rfl⟩ | ⟨mg, md, my, ms, rfl, hmd, hmg, hM, hMF, hms0, hms1⟩
          · refine hK.out _ _ (⟨hHeld.1.up gb, hHeld.2.below gb⟩) (fun hHeld => ?_)
            clear hK K
            try simp only [Act.put]
            try simp only [List.setIfInBounds_toArray]
            try simp only [List.set]
            clear gb hcb
            refine wpAnyH_take (i := 6) (v := ?v25) rfl (by kernel_rfl) (by kernel_rfl) (by kernel_rfl) (fun _ _ _ h => h) (Or.inl ⟨by kernel_rfl, ?h25⟩) hHeld ?_
            case h25 => intro u hSw; clear hSw; go_simp; try with_reducible rfl
            try simp only [List.getElem_toArray]
            try simp only [List.getElem_cons_succ]
            try simp only [List.getElem_cons_zero]
            try simp only [Act.put]
            try simp only [List.setIfInBounds_toArray]
            try simp only [List.set]
            refine wpAnyH_take (i := 7) (v := ?v26) rfl (by kernel_rfl) (by kernel_rfl) (by kernel_rfl) (fun _ _ _ h => h) (Or.inl ⟨by kernel_rfl, ?h26⟩) hHeld ?_
            case h26 => intro u hSw; clear hSw; go_simp; try with_reducible rfl
            try simp only [List.getElem_toArray]
            try simp only [List.getElem_cons_succ]
            try simp only [List.getElem_cons_zero]
            try simp only [Act.put]
            try simp only [List.setIfInBounds_toArray]
            try simp only [List.set]
            refine wpAnyH_take (i := 8) (v := ?v27) rfl (by kernel_rfl) (by kernel_rfl) (by kernel_rfl) (fun _ _ _ h => h) (Or.inl ⟨by kernel_rfl, ?h27⟩) hHeld ?_
            case h27 => intro u hSw; clear hSw; go_simp; try with_reducible rfl
            try simp only [List.getElem_toArray]
            try simp only [List.getElem_cons_succ]
            try simp only [List.getElem_cons_zero]
            try simp only [Act.put]
            try simp only [List.setIfInBounds_toArray]
            try simp only [List.set]
            refine wpAnyH_take (i := 9) (v := ?v28) rfl (by kernel_rfl) (by kernel_rfl) (by kernel_rfl) (fun _ _ _ h => h) (Or.inl ⟨by kernel_rfl, ?h28⟩) hHeld ?_
            case h28 => intro u hSw; clear hSw; go_simp; try with_reducible rfl
            try simp only [List.getElem_toArray]
            try simp only [List.getElem_cons_succ]
            try simp only [List.getElem_cons_zero]
            try simp only [Act.put]
            try simp only [List.setIfInBounds_toArray]
            try simp only [List.set]
            refine wpAnyH_take (i := 10) (v := ?v29) rfl (by kernel_rfl) (by kernel_rfl) (by kernel_rfl) (fun _ _ _ h => h) (Or.inl ⟨by kernel_rfl, ?h29⟩) hHeld ?_
            case h29 => intro u hSw; clear hSw; go_simp; try with_reducible rfl
            try simp only [List.getElem_toArray]
            try simp only [List.getElem_cons_succ]
            try simp only [List.getElem_cons_zero]
            try simp only [Act.put]
            try simp only [List.setIfInBounds_toArray]
            try simp only [List.set]
            refine wpAnyH_take (i := 11) (v := ?v30) rfl (by kernel_rfl) (by kernel_rfl) (by kernel_rfl) (fun _ _ _ h => h) (Or.inl ⟨by kernel_rfl, ?h30⟩) hHeld ?_
            case h30 => intro u hSw; clear hSw; go_simp; try with_reducible rfl
            try simp only [List.getElem_toArray]
            try simp only [List.getElem_cons_succ]
            try simp only [List.getElem_cons_zero]
            try simp only [Act.put]
            try simp only [List.setIfInBounds_toArray]
            try simp only [List.set]
            refine wpAnyH_take (i := 12) (v := ?v31) rfl (by kernel_rfl) (by kernel_rfl) (by kernel_rfl) (fun _ _ _ h => h) (Or.inl ⟨by kernel_rfl, ?h31⟩) hHeld ?_
            case h31 => intro u hSw; clear hSw; go_simp; try with_reducible rfl
            try simp only [List.getElem_toArray]
            try simp only [List.getElem_cons_succ]
            try simp only [List.getElem_cons_zero]
            try simp only [Act.put]
            try simp only [List.setIfInBounds_toArray]
            try simp only [List.set]
            refine wpAnyH_done (by kernel_rfl) ?_ _
            have dq : (q == 0) = false := by simpa using hq
            have G := hHeld.1
            clear hHeld
            go_wp2_with fail
            go_roundw
            case rel => exact ⟨j + 1, by omega, by go_num, G.t, ⟨_, by omega, G.s⟩, _, _, _, _, _, _, G.p, G.o⟩
            case measure => simp [intOf]; omega
          · refine hK.out _ _ (⟨hHeld.1.up gb, hHeld.2.below gb⟩) (fun hHeld => ?_)
            clear hK K
            try simp only [Act.put]
            try simp only [List.setIfInBounds_toArray]
            try simp only [List.set]
            have P0 : PgN w.heap.size pg mg md my E2 := ⟨hM.len, hMF, (hM.bytes (Nat.le_refl _) hM.lt).reads, hmd, by omega, by omega, hM.lt⟩
            clear gb hcb hM hmg hMF hE1 hE1p
            refine wpAnyH_take (i := 6) (v := ?v32) rfl (by kernel_rfl) (by kernel_rfl) (by kernel_rfl) (fun _ _ _ h => h) (Or.inl ⟨by kernel_rfl, ?h32⟩) hHeld ?_
            case h32 => intro u hSw; clear hSw; go_simp; try with_reducible rfl
            try simp only [List.getElem_toArray]
            try simp only [List.getElem_cons_succ]
            try simp only [List.getElem_cons_zero]
            try simp only [Act.put]
            try simp only [List.setIfInBounds_toArray]
            try simp only [List.set]
            refine wpAnyH_take (i := 7) (v := ?v33) rfl (by kernel_rfl) (by kernel_rfl) (by kernel_rfl) (fun _ _ _ h => h) (Or.inl ⟨by kernel_rfl, ?h33⟩) hHeld ?_
            case h33 => intro u hSw; clear hSw; go_simp; try with_reducible rfl
            try simp only [List.getElem_toArray]
            try simp only [List.getElem_cons_succ]
            try simp only [List.getElem_cons_zero]
            try simp only [Act.put]
            try simp only [List.setIfInBounds_toArray]
            try simp only [List.set]
            refine wpAnyH_take (i := 8) (v := ?v34) rfl (by kernel_rfl) (by kernel_rfl) (by kernel_rfl) (fun _ _ _ h => h) (Or.inl ⟨by kernel_rfl, ?h34⟩) hHeld ?_
            case h34 => intro u hSw; clear hSw; go_simp; try with_reducible rfl
            try simp only [List.getElem_toArray]
            try simp only [List.getElem_cons_succ]
            try simp only [List.getElem_cons_zero]
            try simp only [Act.put]
            try simp only [List.setIfInBounds_toArray]
            try simp only [List.set]
            refine wpAnyH_take (i := 9) (v := ?v35) rfl (by kernel_rfl) (by kernel_rfl) (by kernel_rfl) (fun _ _ _ h => h) (Or.inl ⟨by kernel_rfl, ?h35⟩) hHeld ?_
            case h35 => intro u hSw; clear hSw; go_simp; try with_reducible rfl
            try simp only [List.getElem_toArray]
            try simp only [List.getElem_cons_succ]
            try simp only [List.getElem_cons_zero]
            try simp only [Act.put]
            try simp only [List.setIfInBounds_toArray]
            try simp only [List.set]
            refine wpAnyH_take (i := 10) (v := ?v36) rfl (by kernel_rfl) (by kernel_rfl) (by kernel_rfl) (fun _ _ _ h => h) (Or.inl ⟨by kernel_rfl, ?h36⟩) hHeld ?_
            case h36 => intro u hSw; clear hSw; go_simp; try with_reducible rfl
            try simp only [List.getElem_toArray]
            try simp only [List.getElem_cons_succ]
            try simp only [List.getElem_cons_zero]
            try simp only [Act.put]
            try simp only [List.setIfInBounds_toArray]
            try simp only [List.set]
            refine wpAnyH_take (i := 11) (v := ?v37) rfl (by kernel_rfl) (by kernel_rfl) (by kernel_rfl) (fun _ _ _ h => h) (Or.inl ⟨by kernel_rfl, ?h37⟩) hHeld ?_
            case h37 => intro u hSw; clear hSw; go_simp; try with_reducible rfl
            try simp only [List.getElem_toArray]
            try simp only [List.getElem_cons_succ]
            try simp only [List.getElem_cons_zero]
            try simp only [Act.put]
            try simp only [List.setIfInBounds_toArray]
            try simp only [List.set]
            refine wpAnyH_take (i := 12) (v := ?v38) rfl (by kernel_rfl) (by kernel_rfl) (by kernel_rfl) (fun _ _ _ h => h) (Or.inl ⟨by kernel_rfl, ?h38⟩) hHeld ?_
            case h38 => intro u hSw; clear hSw; go_simp; try with_reducible rfl
            try simp only [List.getElem_toArray]
            try simp only [List.getElem_cons_succ]
            try simp only [List.getElem_cons_zero]
            try simp only [Act.put]
            try simp only [List.setIfInBounds_toArray]
            try simp only [List.set]
            refine wpAnyH_done (by kernel_rfl) ?_ _
            obtain ⟨⟨Pp, Pr, Ps, Pt, Po⟩, P1⟩ := hHeld
            have Q1 := Pp.set1 P1
            have t1 : Turned pg (pg + 1) E2 (E2.setCell ⟨pg, 1, none⟩ (.slice (some ⟨ng, 0, none⟩) 64 nd)) := (Turned.refl _ _ _).setCell (p := ⟨pg, 1, none⟩) (Nat.le_refl _) (Nat.lt_succ_self _) _
            have Q0 := Q1.set0 (P0.src t1 (.inr ⟨rfl, rfl⟩))
            have hpl := Pp.lo
            have Ps2 := (Ps.setFar (p := ⟨pg, 1, none⟩) (by simp only; omega) (.slice (some ⟨ng, 0, none⟩) 64 nd)).setFar (p := ⟨pg, 0, none⟩) (by simp only; omega) (.slice (some ⟨mg, 0, none⟩) 64 md)
            have Po2 := ownsRow_setCell_below (ownsRow_setCell_below Po (a := ⟨pg, 1, none⟩) (show pg < rbase by omega) (.slice (some ⟨ng, 0, none⟩) 64 nd)) (a := ⟨pg, 0, none⟩) (show pg < rbase by omega) (.slice (some ⟨mg, 0, none⟩) 64 md)
            have T2 := Pt.low (w2 := (E2.setCell ⟨pg, 1, none⟩ (.slice (some ⟨ng, 0, none⟩) 64 nd)).setCell ⟨pg, 0, none⟩ (.slice (some ⟨mg, 0, none⟩) 64 md)) (by go_grown)
            obtain ⟨c0, c1, _, _, hfz, _⟩ := Pp
            have f0 := hfz 0
            have f1 := hfz 1
            clear Ps Pr Po Pt P0 P1 Q1 t1
            go_wp2_with fail
            go_roundw
            case rel => exact ⟨j + 1, by omega, by go_num, T2, ⟨_, by omega, Ps2⟩, _, _, _, _, _, _, Q0, Po2⟩
            case measure => simp [intOf]; omega
    · have hj' : j = rn := by omega
      have hjm : ¬ (j : Int) < (rn : Int) := by omega
      go_wp2_with fail
      go_ret
      exact ⟨pg, g0, d0, g1, d1, y0, y1, rfl, P, T, jj, by omega, hS⟩

end Go.Proofs.YtdgonddimenmdaaGreat
