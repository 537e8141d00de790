/-
  The program's recordBytes and PackRecord once more, with a bound of the capacity.
-/
import Derived.Test.YtcjkjenebnodbaaDoorSPrc
import Derived.Test.YtcjkjenebnodbaaDoorSApb
import Derived.Laws.BytesArg
import Derived.Laws.BitsAllLaws

namespace Go.Proofs.YtcjkjenebnodbaaDoor
open Go.RowKit
set_option linter.unusedVariables false

set_option maxHeartbeats 2000000 in
theorem recordBytesC_any (k tx pg : Int) (a : Option Addr) (n c : Nat) (P : Nat → Int) (A : Nat → Option Addr) (C : Nat → Nat) (Z : Nat → List Int) (w : World) (ho : RunsOk n Z) (hr : RunsRead w a n P A C Z) :
    Calls Tryd.prog 30 #[.agg #[.int .i64 k, .int .i64 tx, .int .i64 pg, .slice a n c]] w fun e w' => ∃ g d, e = .returned (.slice (some ⟨g, 0, none⟩) (packB k tx pg n P Z).length d) ∧ (packB k tx pg n P Z).length ≤ d ∧ d ≤ 9223372036854775807 ∧ Below w.heap.size w w' ∧ BytesIn w.heap.size w'.heap.size w' (some ⟨g, 0, none⟩) (packB k tx pg n P Z) := by
  obtain ⟨i0, hi0, hz0, hz1, hz2⟩ := info5
  have hn := ho.few
  have HO : Hid (RunsOk n Z) := ho
  have HR : Hid (RunsRead w a n P A C Z) := hr
  clear hr ho
  go_enter Tryd.func30, Tryd.ntmps30
  go_upto_region 1 with (fail)
  generalize hY : World.alloc w _ = Y
  have g : Below w.heap.size w Y := by rw [← hY]; go_grown
  have x0 : Y.cell? ⟨w.heap.size, 0, none⟩ = some (.int .i64 k) := by rw [← hY]; simp [go_sem]
  have x1 : Y.cell? ⟨w.heap.size, 1, none⟩ = some (.int .i64 tx) := by rw [← hY]; simp [go_sem]
  have x2 : Y.cell? ⟨w.heap.size, 2, none⟩ = some (.int .i64 pg) := by rw [← hY]; simp [go_sem]
  have x3 : Y.cell? ⟨w.heap.size, 3, none⟩ = some (.slice a n c) := by rw [← hY]; simp [go_sem]
  clear hY
  have hYs := g.size
  go_upto_region 2 with (fail)
  generalize hV : World.alloc Y _ = V
  have gV : Below Y.heap.size Y V := by rw [← hV]; go_grown
  have hG : Gb w.heap.size V (.slice (some ⟨Y.heap.size, 0, none⟩) 5 5) (recB0 k tx pg n 0 P Z) := by
    rw [← hV]
    exact World.ownsRow_lit (base := w.heap.size) (e := 5) (size := 1) Y _ 5 g.size (by unfold maxLen; omega) rfl
  have x3 := cellUp gV x3
  have g : Below w.heap.size w V := g.trans (gV.mono g.size)
  clear hV gV x0 x1 x2 hYs
  generalize Y.heap.size = yb at hG ⊢
  go_wp2_with fail
  go_loopw [24, 3] (fun i v wr => ∃ (j : Nat), j ≤ n ∧ i = .int .i64 j ∧ Gb w.heap.size wr v (recB0 k tx pg n j P Z) ∧ Below w.heap.size w wr) (fun i _ _ => n - (intOf i).toNat)
  case atStart => exact ⟨0, Nat.zero_le _, rfl, hG, g⟩
  case round =>
    obtain ⟨j, hj, rfl, hG, g⟩ := hrel
    by_cases hlt : j < n
    · obtain ⟨rb, ro, rfl⟩ : ∃ rb ro, a = some ⟨rb, ro, none⟩ := by
        rcases HR.out with h | ⟨rb, ro, h, _⟩
        · omega
        · exact ⟨rb, ro, h⟩
      obtain ⟨e0, e1, e2⟩ := (HR.out.below g (Nat.le_refl _)).at_ j hlt
      obtain ⟨z1, z64⟩ := HO.out.len j hlt
      have htot := HO.out.upto (j + 1) (by omega)
      have hsc := recB0_succ k tx pg n j P Z
      have hbl := recB0_len k tx pg n j P Z
      simp only [took] at htot
      obtain ⟨xs, hxs⟩ : ∃ xs, xs = recB0 k tx pg n j P Z := ⟨_, rfl⟩
      obtain ⟨zs, hzs⟩ : ∃ zs, zs = Z j := ⟨_, rfl⟩
      obtain ⟨l, hlv⟩ : ∃ l, l = (Z j).length := ⟨_, rfl⟩
      rw [← hxs] at hG hsc hbl
      rw [← hlv] at e1 z1 z64 hsc htot
      rw [← hzs] at e2 hsc
      have HS : Hid (recB0 k tx pg n (j + 1) P Z = xs ++ [P j % 256, (l : Int)] ++ zs) := hsc
      have HZ : Hid (zs = Z j) := hzs
      have HL : Hid (zs.length = l) := by show _ = _; rw [hzs, hlv]
      have hxl : xs.length ≤ 300 := by omega
      have hjn : (j : Int) < (n : Int) := by omega
      have hvlt : Hid _ := World.ownsRow.lt hG
      clear hsc hbl hxs hzs hlv x3
      go_upto_region 5 with (fail)
      generalize hV : World.alloc wr _ = V
      have gV : Below wr.heap.size wr V := by rw [← hV]; go_grown
      have y0 : V.cell? ⟨wr.heap.size, 0, none⟩ = some (.int .i64 (P j)) := by rw [← hV]; simp [go_sem]
      have y1 : V.cell? ⟨wr.heap.size, 1, none⟩ = some (.slice (A j) l (C j)) := by rw [← hV]; simp [go_sem]
      have hG := hG.grown gV
      have e2 := e2.below gV (Nat.le_refl _)
      have g : Below w.heap.size w V := g.trans (gV.mono g.size)
      have hwv := g.size
      have hlt1 : wr.heap.size < V.heap.size := World.block_lt_of_cell? V _ y0
      have hrv := gV.size
      clear hV gV e0 e1
      go_wp2_with (at_builtin; refine wpList_append_own _ rfl _ _ 22 rfl w.heap.size 5 i0 (.int .u8 0) 1 1 Tryd.underlying22 hi0 hz0 hz1 hz2 rfl (by decide) _ _ _ rfl (World.ownsRow.alloc hG _) ⟨V.heap.size, 0, none⟩ 2 2 ([P j % 256, (l : Int)].map (Value.int .u8)) rfl rfl ?n1 (ones _) ?n3 ?n4 ?n5 ?_)
      case n1 => exact news_at (fun i hi => by
        match i, hi with
        | 0, _ => simp [go_sem]
        | 1, _ => simp [go_sem])
      case n3 => unfold maxLen; omega
      case n4 => omega
      case n5 => simp; omega
      intro v' w6 hown' hgrow _
      have hG6 : Gb w.heap.size w6 v' (xs ++ [P j % 256, (l : Int)]) := by unfold Gb; simpa using hown'
      have g6 : Below w.heap.size w w6 := Below.grown (g.alloc hwv _) hgrow (by simp; omega) (fun q e => (hvlt.out q e).1)
      have y1 : w6.cell? ⟨wr.heap.size, 1, none⟩ = some (.slice (A j) l (C j)) := hgrow.cell (cellUp (show Below V.heap.size V (V.alloc _) from (Below.refl _ _).alloc (Nat.le_refl _) _) y1) (fun e => by have := (hvlt.out _ e.symm).2; simp at this)
      obtain ⟨_, _, e2⟩ := (HR.out.below g6 (Nat.le_refl _)).at_ j hlt
      rcases e2 with e2 | ⟨ab, ao, hA, hc⟩
      · have h1 := HL.out
        rw [HZ.out, e2] at h1
        simp at h1
        omega
      rw [← HZ.out] at hc
      rw [hA] at y1
      have hw6 := g6.size
      clear hown' hgrow hG g hwv hlt1 hrv y0
      go_wp2_with (at_builtin; refine wpList_append_own _ rfl _ _ 22 rfl w.heap.size 5 i0 (.int .u8 0) 1 1 Tryd.underlying22 hi0 hz0 hz1 hz2 rfl (by decide) _ _ _ rfl hG6 ⟨ab, ao, none⟩ l (C j) (zs.map (Value.int .u8)) rfl (by rw [List.length_map, HL.out, Nat.mul_one]) (news_at hc) (ones _) ?n3 ?n4 ?n5 ?_)
      case n3 => unfold maxLen; simp; omega
      case n4 => simp; omega
      case n5 => omega
      intro v' w7 hown' hgrow _
      have hG7 : Gb w.heap.size w7 v' (recB0 k tx pg n (j + 1) P Z) := by
        unfold Gb
        rw [HS.out]
        have h7 := hown'
        simp [HL.out] at h7 ⊢
        rw [show xs.length + (l + 1 + 1) = xs.length + 2 + l by omega]
        exact h7
      have g7 : Below w.heap.size w w7 := Below.grown g6 hgrow hw6 (fun q e => (World.ownsRow.lt hG6 q e).1)
      clear hown' hgrow hG6 g6 hw6 y1 hc
      go_wp2_with fail
      go_roundw
      case rel => exact ⟨j + 1, by omega, by go_num, hG7, g7⟩
      case measure => simp [intOf]; omega
    · have e : j = n := by omega
      subst e
      have hlen := recB0_len k tx pg j j P Z
      have hlen1 := recB1_len k tx pg j P Z
      have htot := HO.out.tot
      obtain ⟨gb, cap, hv, hle, hb0⟩ := hG.form (by omega)
      subst hv
      have c0 : wr.cell? ⟨gb, 0, none⟩ = some (.int .u8 0) := by rw [World.ownsRow.cellAt hG 0 (by omega)]; rfl
      have f0 : wr.frozen? ⟨gb, 0, none⟩ = false := World.ownsRow.frozenAt hG 0
      have hst := (World.ownsRow.stored hG 0 (.int .u8 (((recB0 k tx pg j j P Z).length : Int) + 2))).1
      have hgs := g.setCell (p := ⟨gb, 0, none⟩) hb0 (.int .u8 (((recB0 k tx pg j j P Z).length : Int) + 2))
      have hG1 : Gb w.heap.size (wr.setCell ⟨gb, 0, none⟩ (.int .u8 (((recB0 k tx pg j j P Z).length : Int) + 2))) (.slice (some ⟨gb, 0, none⟩) (recB1 k tx pg j P Z).length cap) (recB1 k tx pg j P Z) := by
        unfold Gb
        rw [hlen1, ← hlen]
        unfold recB1
        rw [List.map_set]
        exact hst
      have HS : Hid (packB k tx pg j P Z = recB1 k tx pg j P Z ++ [((sumN (recB1 k tx pg j P Z) (recB1 k tx pg j P Z).length / 256 : Nat) : Int), ((sumN (recB1 k tx pg j P Z) (recB1 k tx pg j P Z).length % 256 : Nat) : Int)]) := rfl
      have HB : Hid (∀ z ∈ recB1 k tx pg j P Z, 0 ≤ z ∧ z ≤ 255) := recB1_bd HO.out.few htot HO.out.both
      have hsl := sumN_lt (recB1 k tx pg j P Z) (recB1 k tx pg j P Z).length
      obtain ⟨xs, hxs⟩ : ∃ xs, xs = recB1 k tx pg j P Z := ⟨_, rfl⟩
      obtain ⟨L, hL⟩ : ∃ L, L = xs.length := ⟨_, rfl⟩
      have hLL : (recB0 k tx pg j j P Z).length = L := by rw [hL, hxs, hlen1, hlen]
      rw [← hxs] at hG1 HS HB hsl
      rw [← hL] at hG1 HS hsl
      rw [hLL] at hgs hG1 hle ⊢
      have HLx : Hid (xs.length = L) := hL.symm
      have hLb : L + 2 ≤ 255 := by omega
      have hL0 : 0 < L := by omega
      have hL1 : (0 : Int) < (L : Int) := by omega
      clear hst hlen hlen1 htot hxs hL hG g hLL
      go_upto_region 9 with (fail)
      clear c0 f0
      generalize World.setCell wr _ _ = V at hG1 hgs ⊢
      go_wp2_with fail
      refine (sumOf_any (some ⟨gb, 0, none⟩) L cap xs _ HLx.out (by omega) (by have h := hG1; rw [← HLx.out] at h; exact h.bytes.reads) HB.out).mono ?_
      rintro e w8 ⟨rfl, hw8⟩
      subst w8
      obtain ⟨sm, hsm⟩ : ∃ sm, sm = sumN xs L := ⟨_, rfl⟩
      rw [← hsm] at HS hsl ⊢
      clear hsm
      have hbit : bits .and .u32 (sm : Int) 255 = (sm : Int) % 256 := bits_mask .u32 16 (by decide) wraps_u32 8 (by decide) sm (by omega) (by omega)
      have hws := hgs.size
      have hGL : V.ownsRow w.heap.size 5 1 (.slice (some ⟨gb, 0, none⟩) L cap) L (xs.map (Value.int .u8)) := by
        have h := hG1
        unfold Gb at h
        rw [HLx.out] at h
        exact h
      go_wp2_with (at_builtin; refine wpList_append_own _ rfl _ _ 22 rfl w.heap.size 5 i0 (.int .u8 0) 1 1 Tryd.underlying22 hi0 hz0 hz1 hz2 rfl (by decide) _ _ _ rfl (World.ownsRow.alloc hGL _) ⟨V.heap.size, 0, none⟩ 2 2 ([(sm : Int) / 256, (sm : Int) % 256].map (Value.int .u8)) rfl rfl ?n1 (ones _) ?n3 ?n4 ?n5 ?_)
      case n1 => exact news_at (fun i hi => by
        match i, hi with
        | 0, _ => simp [go_sem]
        | 1, _ => simp [go_sem])
      case n3 => unfold maxLen; omega
      case n4 => omega
      case n5 => simp; omega
      intro v' w9 hown' hgrow _
      have hG9 : Gb w.heap.size w9 v' (packB k tx pg j P Z) := by
        unfold Gb
        rw [HS.out]
        have h9 := hown'
        simp [HLx.out] at h9 ⊢
        exact h9
      have g9 : Below w.heap.size w w9 := Below.grown (hgs.alloc hws _) hgrow (by simp; omega) (fun q e => (World.ownsRow.lt hGL q e).1)
      obtain ⟨gb9, cap9, hv9, hle9, _⟩ := hG9.form (by rw [HS.out]; simp)
      have hcm9 : cap9 ≤ 9223372036854775807 := by
        obtain ⟨_, c9, e9, _, k9, _⟩ := hG9.shape
        rw [hv9] at e9
        simp only [Value.slice.injEq] at e9
        omega
      subst hv9
      clear hown' hgrow hG1 hGL hgs hws
      go_wp2_with fail
      go_ret
      exact ⟨gb9, cap9, rfl, hle9, hcm9, g9, hG9.bytes⟩

set_option maxHeartbeats 1000000 in
theorem implPackRecordC_any (k tx pg : Int) (a : Option Addr) (n c : Nat) (P : Nat → Int) (A : Nat → Option Addr) (C : Nat → Nat) (Z : Nat → List Int) (w : World) (hm : n ≤ 1048576) (hz : Hid (∀ i, i < n → (Z i).length ≤ 1048576)) (hzb : Hid (∀ i, i < n → ∀ z ∈ Z i, 0 ≤ z ∧ z ≤ 255)) (hr : RunsRead w a n P A C Z) :
    Calls Tryd.prog 10 #[.agg #[.int .i64 k, .int .i64 tx, .int .i64 pg, .slice a n c]] w fun e w' => ∃ a' d', e = .returned (.agg #[.int .i64 (recQ k tx pg n P Z), .slice a' (pkB k tx pg n P Z).length d']) ∧ (pkB k tx pg n P Z).length ≤ d' ∧ d' ≤ 9223372036854775807 ∧ Below w.heap.size w w' ∧ BytesIn w.heap.size w'.heap.size w' a' (pkB k tx pg n P Z) := by
  have HR : Hid (RunsRead w a n P A C Z) := hr
  clear hr
  go_enter Tryd.func10, Tryd.ntmps10
  go_upto_region 1 with (fail)
  generalize hY : World.alloc _ _ = Y
  have g : Below w.heap.size w Y := by rw [← hY]; go_grown
  have hB : RcAt Y w.heap.size k tx pg a n c := by rw [← hY]; exact ⟨by simp [go_sem], by simp [go_sem], by simp [go_sem], by simp [go_sem]⟩
  have y0 : Y.cell? ⟨w.heap.size + 1, 0, none⟩ = some (.int .i64 0) := by rw [← hY]; simp [go_sem]
  have y1 : Y.cell? ⟨w.heap.size + 1, 1, none⟩ = some (.slice none 0 0) := by rw [← hY]; simp [go_sem]
  have v0 : Y.frozen? ⟨w.heap.size + 1, 0, none⟩ = false := by rw [← hY]; simp [go_sem]
  have v1 : Y.frozen? ⟨w.heap.size + 1, 1, none⟩ = false := by rw [← hY]; simp [go_sem]
  have hs : w.heap.size + 2 ≤ Y.heap.size := by rw [← hY]; simp
  clear hY
  have hB0 := hB
  obtain ⟨c0, c1, c2, c3⟩ := hB0
  go_wp2_with fail
  refine (implRecordFault_any k tx pg a n c P A C Z _ hm hz (HR.out.below g (Nat.le_refl _))).mono ?_
  rintro e w1 ⟨rfl, g1⟩



  have hB := hB.up g1
  have y0 := cellUp g1 y0
  have y1 := cellUp g1 y1
  have v0 := (g1.frozen (p := ⟨w.heap.size + 1, 0, none⟩) (by simp only; omega)).trans v0
  have v1 := (g1.frozen (p := ⟨w.heap.size + 1, 1, none⟩) (by simp only; omega)).trans v1
  have hs : w.heap.size + 2 ≤ w1.heap.size := Nat.le_trans hs g1.size
  have g : Below w.heap.size w w1 := g.trans (g1.mono g.size)
  clear g1 c0 c1 c2 c3
  obtain ⟨q, hq⟩ : ∃ q, q = recQ k tx pg n P Z := ⟨_, rfl⟩
  have HQ : Hid (recQ k tx pg n P Z = q) := hq.symm
  rw [← hq]
  by_cases hq0 : q = 0
  · have hok := rec_runs (by rw [← hq]; exact hq0) hzb.out
    have HP : Hid (pkB k tx pg n P Z = packB k tx pg n P Z) := by show _ = _; unfold pkB; rw [← hq, if_pos hq0]
    subst hq0
    clear hq
    have hB0 := hB
    obtain ⟨c0, c1, c2, c3⟩ := hB0
    go_wp2_with fail
    refine (recordBytesC_any k tx pg a n c P A C Z _ hok (HR.out.below g (Nat.le_refl _))).mono ?_
    rintro e w2 ⟨gb, d, rfl, hd, hdm, g2, hy⟩
    have y0 := cellUp g2 y0
    have y1 := cellUp g2 y1
    have v0 := (g2.frozen (p := ⟨w.heap.size + 1, 0, none⟩) (by simp only; omega)).trans v0
    have v1 := (g2.frozen (p := ⟨w.heap.size + 1, 1, none⟩) (by simp only; omega)).trans v1
    have hs1 := g2.size
    have hgm : Hid (BytesIn (w.heap.size + 2) w2.heap.size w2 (some ⟨gb, 0, none⟩) (packB k tx pg n P Z)) := hy.mono hs (Nat.le_refl _)
    have g : Below w.heap.size w w2 := g.trans (g2.mono g.size)
    clear g2 c0 c1 c2 c3 hy hB hok
    obtain ⟨L, hL⟩ : ∃ L, L = (packB k tx pg n P Z).length := ⟨_, rfl⟩
    rw [← hL] at hd ⊢
    have HL : Hid ((packB k tx pg n P Z).length = L) := hL.symm
    clear hL
    go_wp2_with fail
    refine bodyPost_ret (v := .agg #[.int .i64 0, .slice (some ⟨gb, 0, none⟩) L d]) (by simp [results, Tryd.results10, go_sem, *]) rfl ?_
    refine ⟨some ⟨gb, 0, none⟩, d, by rw [HQ.out, HP.out, HL.out], by rw [HP.out, HL.out]; exact hd, hdm, by go_grown, ?_⟩
    rw [HP.out]
    exact ((hgm.out.setCell (by simp) _).setCell (by simp) _).mono (by omega) (by simp)
  · have HP : Hid (pkB k tx pg n P Z = []) := by show _ = _; unfold pkB; rw [← hq, if_neg hq0]
    have dq : (q != 0) = true := by simpa using hq0
    clear hq hq0 hB
    go_wp2_with fail
    refine bodyPost_ret (v := .agg #[.int .i64 q, .slice none 0 0]) (by simp [results, Tryd.results10, go_sem, *]) rfl ?_
    exact ⟨none, 0, by rw [HQ.out, HP.out]; rfl, by rw [HP.out]; exact Nat.le_refl _, by omega, by go_grown, by rw [HP.out]; exact .inl rfl⟩

end Go.Proofs.YtcjkjenebnodbaaDoor
