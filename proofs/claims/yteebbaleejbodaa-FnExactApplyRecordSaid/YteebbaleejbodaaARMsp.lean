/-
  The model's l6Spots and l6Cell, of right pages.
-/
import Derived.Test.YteebbaleejbodaaARKvs

namespace Go.Proofs.Yteebbaleejbodaa
open Go.RowKit Go.Maps
set_option linter.unusedVariables false

theorem pagesQ_zero : ∀ {ps : List (List Int)}, pagesQ ps = 0 → ∀ zs ∈ ps, pageC zs = 0
  | [], _, zs, h => by simp at h
  | z :: l, h, zs, hz => by
    unfold pagesQ at h
    split at h
    · rename_i h0
      rcases List.mem_cons.1 hz with rfl | hz
      · exact h0
      · exact pagesQ_zero h zs hz
    · rename_i h0; exact absurd h h0

/-- A right page. -/
structure Right (zs : List Int) : Prop where
  f : Fine zs
  b : ∀ s, s < nb zs 0 → empB zs s = false → (unp (cellOf zs s)).q = 0
theorem right_of {zs : List Int} (hz : ∀ z ∈ zs, 0 ≤ z ∧ z ≤ 255) (h : pageC zs = 0) : Right zs := by
  obtain ⟨h1, h2⟩ := pageC_fine h
  refine ⟨fine_of hz h1, fun s hs he => ?_⟩
  have hb := badTo_not h2 s hs
  unfold badAt at hb
  rw [he] at hb
  simpa using hb
theorem pageL_right {p : Int} {zs : List Int} (h : pageC zs = 0) : pageL p zs = cellsTo p zs (nb zs 0) := if_pos h

theorem infoS' : (Try.prog.info? 171).map (fun i => (i.zero, i.size, i.bytes)) = some (some (.agg #[.int .i64 0, .int .i64 0, .int .i64 0, .int .i64 0, .int .i64 0, .int .i64 0, .int .i64 0, .int .i64 0, .int .i64 0, .string ⟨#[]⟩]), 10, 88) := by kernel_rfl
theorem elS : ElT 166 171 spE 10 88 where
  und := Try.underlying166
  inf := by
    have h := infoS'
    cases hi : Try.prog.info? 171 with
    | none => rw [hi] at h; simp at h
    | some i => rw [hi] at h; simp at h; exact ⟨i, _, rfl, h.1, h.2.1, h.2.2, rfl⟩
  len := spE_len
  one := elP.one
  pos := by decide
  few := by decide

theorem ownsRow_lit0 (w : World) (e size : Nat) : (w.alloc (.cells #[] e)).ownsRow w.heap.size e size (.slice (some ⟨w.heap.size, 0, none⟩) 0 0) 0 [] := by
  refine ⟨by simp, .inr ⟨w.heap.size, 0, #[], rfl, Nat.le_refl _, heap_alloc_new w _, Nat.le_refl _, by unfold maxLen; omega, by simp, by simp⟩⟩

set_option maxRecDepth 20000 in
set_option maxHeartbeats 4000000 in
theorem l6Spots_any (a : Option Addr) (ps : List (List Int)) (n c : Nat) (w : World) (hn : ps.length = n) (hm : n ≤ 12) (hp : PgOk ps) (hr : PgRead w a ps) (hq : pagesQ ps = 0) :
    Calls Try.prog 120 #[.slice a n c] w fun e w' => ∃ v, e = .returned v ∧ Below w.heap.size w w' ∧ w'.ownsRow w.heap.size 171 10 v (spotsOf 0 ps).length (flat spE (spotsOf 0 ps)) := by
  have HN : Hid (ps.length = n) := hn
  have HR : Hid (PgRead w a ps) := hr
  have HP : Hid (PgOk ps) := hp
  have HQ : Hid (∀ zs ∈ ps, pageC zs = 0) := pagesQ_zero hq
  clear hn hr hp hq
  go_enter Try.func120, Try.ntmps120
  go_wp2_with fail
  have hO := ownsRow_lit0 w 171 10
  have gO : Below w.heap.size w (w.alloc (.cells #[] 171)) := by go_grown
  generalize hY0 : World.alloc _ _ = Y0
  rw [hY0] at hO gO
  clear hY0
  obtain ⟨v0, hv0⟩ : ∃ v0, v0 = Value.slice (some ⟨w.heap.size, 0, none⟩) 0 0 := ⟨_, rfl⟩
  rw [← hv0] at hO ⊢
  clear hv0
  go_loopw [4, 3] (fun i v wr => ∃ j : Nat, j ≤ n ∧ i = .int .i64 j ∧ Below w.heap.size w wr ∧ wr.ownsRow w.heap.size 171 10 v (spotsOf 0 (ps.take j)).length (flat spE (spotsOf 0 (ps.take j)))) (fun i _ _ => n - (intOf i).toNat)
  case atStart => exact ⟨0, Nat.zero_le _, rfl, gO, hO⟩
  case round =>
    clear hO gO
    obtain ⟨j, hj, rfl, g, ho⟩ := hrel
    by_cases hlt : j < n
    · obtain ⟨zs, hzs⟩ := at_lt' (rs := ps) (i := j) (by rw [HN.out]; exact hlt)
      obtain ⟨b, off, x, cx, rfl, e0, hcx, hx⟩ := HR.out.page hzs
      have HE : Hid (∀ W, Below w.heap.size w W → W.cell? ⟨b, off + j, none⟩ = some (.slice x zs.length cx) ∧ Reads W x zs) := fun W hW => ⟨(hW.cell (p := ⟨b, _, none⟩) (World.block_lt_of_cell? w _ e0)).trans e0, hx.below hW (Nat.le_refl _)⟩
      clear e0 hx
      have hjn : (j : Int) < (n : Int) := by omega
      obtain ⟨hz1, hz2⟩ := HP.out zs (List.mem_of_getElem? hzs)
      have hpc := HQ.out zs (List.mem_of_getElem? hzs)
      have hRt := right_of hz2 hpc
      have HT : Hid (spotsOf 0 (ps.take (j + 1)) = spotsOf 0 (ps.take j) ++ cellsTo j zs (nb zs 0)) := by
        show _ = _
        rw [take_snoc hzs, spotsOf_snoc, List.length_take, HN.out, Nat.min_eq_left (by omega), Nat.zero_add, pageL_right hpc]
      have hlen : (spotsOf 0 (ps.take j)).length ≤ 200 := by
        have := spotsOf_len (ps.take j) 0 (fun z hz => HP.out z (List.mem_of_mem_take hz))
        rw [List.length_take] at this
        omega
      clear hzs hpc
      have HZ : Hid (∀ z ∈ zs, 0 ≤ z ∧ z ≤ 255) := hz2
      have hm64 := hRt.f.pg.len
      rw [hm64] at HE hcx
      have hfew := hRt.f.few
      have HF : Hid (Right zs) := hRt
      obtain ⟨m, hm1⟩ : ∃ m, m = nb zs 0 := ⟨_, rfl⟩
      have HM : Hid (nb zs 0 = m) := hm1.symm
      rw [← hm1] at hfew HT
      obtain ⟨xs, hxs⟩ : ∃ xs, xs = spotsOf 0 (ps.take j) := ⟨_, rfl⟩
      rw [← hxs] at ho hlen HT
      clear hm1 hRt hz2 hz1 hm64 hxs
      go_wp2_with fail
      go_loopw [5, 3] (fun i v wr => ∃ k : Nat, k ≤ m ∧ i = .int .i64 k ∧ Below w.heap.size w wr ∧ wr.ownsRow w.heap.size 171 10 v (xs ++ cellsTo j zs k).length (flat spE (xs ++ cellsTo j zs k))) (fun i _ _ => m - (intOf i).toNat)
      case atStart => exact ⟨0, Nat.zero_le _, rfl, g, by simpa [cellsTo] using ho⟩
      case round =>
        clear g ho
        obtain ⟨k, hk, rfl, g, ho⟩ := hrel
        obtain ⟨e0, hx⟩ := HE.out _ g
        have HX : Hid (Reads _ x zs) := hx
        clear hx
        go_wp2_with fail
        refine (l2Count_any x zs cx _ HX.out HF.out.f.pg).mono ?_
        rintro e w' ⟨rfl, hw'⟩
        subst w'
        rw [HM.out]
        by_cases hlt2 : k < m
        · have hkm : (k : Int) < (m : Int) := by omega
          go_wp2_with fail
          refine (l2Size_any x zs cx k _ HX.out HF.out.f.pg (by omega)).mono ?_
          rintro e w' ⟨rfl, hw'⟩
          subst w'
          have hse := HF.out.f.size_emp (s := k) (by rw [HM.out]; exact hlt2)
          cases he : empB zs k
          · have HT2 : Hid (xs ++ cellsTo j zs (k + 1) = (xs ++ cellsTo j zs k) ++ [⟨j, k, unp (cellOf zs k)⟩]) := by show _ = _; simp only [cellsTo, oneC, he, List.append_assoc]; rfl
            have hl0 : nb zs (3 + 2 * k) ≠ 0 := fun e => by rw [hse.1 e] at he; cases he
            have hzc : ∀ z ∈ cellOf zs k, 0 ≤ z ∧ z ≤ 255 := fun z hz' => HZ.out z (List.mem_of_mem_drop (List.mem_of_mem_take hz'))
            have hclen := cellOf_length HF.out.f k (by rw [HM.out]; exact hlt2)
            have hq0 := HF.out.b k (by rw [HM.out]; exact hlt2) he
            have HCl : Hid (∀ W, Reads W x zs → Calls Try.prog 158 #[.slice x 64 cx, .int .i64 k] W fun e w' => ∃ a' d, e = .returned (.slice a' (nb zs (3 + 2 * k)) d) ∧ nb zs (3 + 2 * k) ≤ d ∧ Below W.heap.size W w' ∧ BytesIn W.heap.size w'.heap.size w' a' (cellOf zs k)) := fun W hW => l2CellC_any x zs cx k W hW HF.out.f hcx (by rw [HM.out]; exact hlt2) he
            obtain ⟨cq, cf, cp, cl, ct, ck, cv, cs, hu⟩ := celV_form (unp (cellOf zs k))
            have HRd : Hid (∀ W a' d, nb zs (3 + 2 * k) ≤ d → Reads W a' (cellOf zs k) → Calls Try.prog 157 #[.slice a' (nb zs (3 + 2 * k)) d] W fun e w' => e = .returned (.tuple #[.agg #[.int .i64 cq, .int .i64 cf, .int .i64 cp, .int .i64 cl, .int .i64 ct, .int .i64 ck, .int .i64 cv, .string cs], .bool true]) ∧ Below W.heap.size W w') := fun W a' d hd hW => by
              have := l1Read_any a' (cellOf zs k) _ d W hclen hd hW hzc
              rw [(read_unp hq0).1, (read_unp hq0).2, hu] at this
              exact this
            generalize nb zs (3 + 2 * k) = l at HCl HRd hl0 ⊢
            rw [hu] at HT2
            have hlp : (0 : Int) < (l : Int) := by omega
            have hylen : (xs ++ cellsTo j zs k).length ≤ 300 := by have := cellsTo_len j zs k; rw [List.length_append]; omega
            obtain ⟨ys, hys⟩ : ∃ ys, ys = xs ++ cellsTo j zs k := ⟨_, rfl⟩
            rw [← hys] at ho HT2 hylen
            clear hse he hzc hclen hu hq0 hys
            go_wp2_with fail
            refine (HCl.out _ HX.out).mono ?_
            rintro e w2 ⟨a2, d2, rfl, hd2, g2, y2⟩
            have r2 := y2.reads
            have ho := ownsRow_below ho g2
            have g3 := g.trans (g2.mono g.size)
            clear y2 g2 e0
            go_wp2_with fail
            refine (HRd.out _ a2 d2 hd2 r2).mono ?_
            rintro e w3 ⟨rfl, g4⟩
            have ho := ownsRow_below ho g4
            have g5 := g3.trans (g4.mono g3.size)
            clear r2 g4 g3
            go_upto_region 10 with (fail)
            generalize hY : World.alloc _ _ = Y
            have gY : Below w3.heap.size w3 Y := by rw [← hY]; go_grown
            have C : CelAt Y w3.heap.size cq cf cp cl ct ck cv cs := by rw [← hY]; exact ⟨by simp [go_sem], by simp [go_sem], by simp [go_sem], by simp [go_sem], by simp [go_sem], by simp [go_sem], by simp [go_sem], by simp [go_sem]⟩
            have ho := ownsRow_below ho gY
            have g6 := g5.trans (gY.mono g5.size)
            have hgs6 := g6.size
            clear hY gY g5
            obtain ⟨c0, c1, c2, c3, c4, c5, c6, c7⟩ := C
            go_wp2_with (at_builtin; refine wpList_append_sl elS _ rfl _ _ rfl w.heap.size _ ys [⟨j, k, ⟨cq, cf, cp, cl, ct, ck, cv, cs⟩⟩] (some ⟨Y.heap.size, 0, none⟩) 1 1 rfl rfl rfl (ownsRow_below ho (by go_grown)) (rs_one (enc := spE) Y ⟨j, k, ⟨cq, cf, cp, cl, ct, ck, cv, cs⟩⟩ 171) (by simp; omega) (by simp; omega) ?_)
            intro v' w' ho' hg' _
            have g7 : Below w.heap.size w w' := Below.grown (g6.alloc g6.size _) hg' (by simp; omega) (fun k hk => (ho.lt k hk).1)
            have ho2 : w'.ownsRow w.heap.size 171 10 v' (xs ++ cellsTo j zs (k + 1)).length (flat spE (xs ++ cellsTo j zs (k + 1))) := by rw [HT2.out, List.length_append]; exact ho'
            clear ho' hg' ho c0 c1 c2 c3 c4 c5 c6 c7 g6
            go_wp2_with fail
            go_roundw
            case rel => exact ⟨k + 1, by omega, by go_num, g7, ho2⟩
            case measure => simp [intOf]; omega
          · have hl0 : nb zs (3 + 2 * k) = 0 := hse.2 he
            have HT2 : Hid (xs ++ cellsTo j zs (k + 1) = xs ++ cellsTo j zs k) := by show _ = _; simp only [cellsTo, oneC, he]; simp
            rw [hl0]
            rw [← HT2.out] at ho
            clear he hse hl0
            go_wp2_with fail
            go_roundw
            case rel => exact ⟨k + 1, by omega, by go_num, g, ho⟩
            case measure => simp [intOf]; omega
        · have e : k = m := by omega
          subst e
          rw [← HT.out] at ho
          go_wp2_with fail
          go_roundw
          case rel => exact ⟨j + 1, by omega, by go_num, g, ho⟩
          case measure => simp [intOf]; omega
    · have e : j = n := by omega
      subst e
      rw [List.take_of_length_le (by rw [HN.out]; exact Nat.le_refl _)] at ho
      go_wp2_with fail
      go_ret
      exact ⟨_, rfl, g, ho⟩

end Go.Proofs.Yteebbaleejbodaa
