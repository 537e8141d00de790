/-
  The model's l2Cell once more, with the capacity; l6Cells.
-/
import Derived.Test.YtonngopnhpmjaaaBKvs

namespace Go.Proofs.Ytonngopnhpmjaaa
open Go.RowKit Go.Maps
set_option linter.unusedVariables false

set_option maxHeartbeats 1000000 in
theorem l2CellC_any (a : Option Addr) (zs : List Int) (c s : Nat) (w : World) (hr : Reads w a zs) (h : Fine zs) (hc : 64 ≤ c) (hs : s < nb zs 0) (hh : empB zs s = false) :
    Calls Try.prog 158 #[.slice a 64 c, .int .i64 s] w fun e w' => ∃ a' d, e = .returned (.slice a' (nb zs (3 + 2 * s)) d) ∧ nb zs (3 + 2 * s) ≤ d ∧ Below w.heap.size w w' ∧ BytesIn w.heap.size w'.heap.size w' a' (cellOf zs s) := by
  obtain ⟨i0, hi, hz0, hz1, hz2⟩ := info5
  have hfew := h.few
  have hlen := cellOf_length h s hs
  have hpl := h.place s hs
  obtain ⟨b, off, rfl, hcells⟩ := hr.page h.pg
  have hb0 : b < w.heap.size := World.block_lt_of_cell? w _ (hcells 0 (by omega))
  clear hcells
  obtain ⟨p, hp⟩ : ∃ p, p = nb zs (2 + 2 * s) := ⟨_, rfl⟩
  obtain ⟨l, hl⟩ : ∃ l, l = nb zs (3 + 2 * s) := ⟨_, rfl⟩
  rw [← hp, ← hl] at hpl
  rw [← hl] at hlen ⊢
  have hsrc : Reads w (some ⟨b, off + p, none⟩) (cellOf zs s) := by unfold cellOf; rw [← hp, ← hl]; exact hr.cell p l (by rw [h.pg.len]; omega)
  have HP : Hid (nb zs (2 + 2 * s) = p) := hp.symm
  have HL : Hid (nb zs (3 + 2 * s) = l) := hl.symm
  have hne : ¬ (p = 0 ∧ l = 0) := fun e => by simp [empB, ← hp, ← hl, e.1, e.2] at hh
  have hpl2 : p ≠ 0 ∧ l ≠ 0 ∧ p + l ≤ 64 := by omega
  obtain ⟨hp0, hl0, hpl64⟩ := hpl2
  clear hp hl hpl hne hh
  generalize cellOf zs s = ys at hlen hsrc
  have hO : (w.alloc (.cells #[] 5)).ownsRow w.heap.size 5 1 (.slice (some ⟨w.heap.size, 0, none⟩) 0 0) 0 [] := by simpa using World.ownsRow_lit (base := w.heap.size) (e := 5) (size := 1) w #[] 0 (Nat.le_refl _) (by unfold maxLen; omega) rfl
  have hll : (ys.map (Value.int .u8)).length = l * 1 := by simpa using hlen
  go_enter Try.func158, Try.ntmps158
  go_wp2_with fail
  refine (l2Place_any _ zs c s _ hr h.pg (by omega)).mono ?_
  rintro e w' ⟨rfl, hw'⟩
  subst w'
  rw [HP.out]
  go_wp2_with fail
  refine (l2Size_any _ zs c s _ (hr.below (B := w.heap.size) (by go_grown) (Nat.le_refl _)) h.pg (by omega)).mono ?_
  rintro e w' ⟨rfl, hw'⟩
  subst w'
  rw [HL.out]
  have i1 : (p : Int) + (l : Int) ≤ 64 := by omega
  have i2 : (p : Int) + (l : Int) ≤ (c : Int) := by omega
  have i3 : ¬ (c = p) := by omega
  have HPP : Hid (p + l - p = l) := Nat.add_sub_cancel_left ..
  have hll2 : (ys.map (Value.int .u8)).length = (p + l - p) * 1 := by rw [HPP.out]; exact hll
  go_wp2_with (at_builtin; go_must (refine wpList_append_own _ rfl _ _ 106 rfl w.heap.size 5 i0 (.int .u8 0) 1 1 Try.underlying106 hi hz0 hz1 hz2 rfl (by decide) _ _ _ rfl hO ⟨b, off + p, none⟩ (p + l - p) (c - p) (ys.map (Value.int .u8)) rfl hll2 ?c1 ?c2 ?c3 ?c4 ?c5 ?_))
  case c1 =>
    intro j u hu
    exact reads_src (hsrc.below (B := w.heap.size) (by go_grown) (Nat.le_refl _)) j u hu
  case c2 =>
    intro u hu
    rw [List.mem_map] at hu
    obtain ⟨z, _, rfl⟩ := hu
    rfl
  case c3 => unfold maxLen; omega
  case c4 => omega
  case c5 => simp
  intro v' w1 hown' hgrow _
  have hB' : Below w.heap.size w w1 := Below.grown ((Below.refl _ _).alloc (Nat.le_refl _) _) hgrow (by simp) (fun j hj => by simp [Value.ownBlock] at hj; omega)
  clear hgrow
  go_wp2_with fail
  go_ret
  have hown : w1.ownsRow w.heap.size 5 1 v' l (ys.map (Value.int .u8)) := hown'
  obtain ⟨g, cap, rfl⟩ := Joins.ownsRow_form hown (by omega)
  have hcap : l ≤ cap := by
    rcases hown.2 with ⟨e, _⟩ | ⟨g', cap', cur, e, _, _, h3, _⟩
    · cases e
    · cases e; exact h3
  exact ⟨_, _, rfl, hcap, hB', bytesIn_owns hown⟩


theorem read_ok (zs : List Int) : (readC zs).2 = decide ((unp zs).q = 0) := by
  have h := unp_read zs
  cases hr : (readC zs).2
  · rw [hr] at h; rw [h]; rfl
  · rw [hr] at h
    rw [h]
    have : (readC zs).1.q = 0 := by unfold readC; split <;> (try split) <;> rfl
    simp [this]
theorem read_unp {zs : List Int} (h : (unp zs).q = 0) : (readC zs).1 = unp zs ∧ (readC zs).2 = true := by
  have h2 : (readC zs).2 = true := by rw [read_ok, h]; rfl
  exact ⟨by rw [unp_read, if_pos h2], h2⟩

theorem Fine.size_emp {zs : List Int} (h : Fine zs) {s : Nat} (hs : s < nb zs 0) : (nb zs (3 + 2 * s) = 0 ↔ empB zs s = true) := by
  have := h.place s hs
  unfold empB
  simp
  omega

set_option maxHeartbeats 4000000 in
theorem l6Cells_any (a : Option Addr) (ps : List (List Int)) (n c : Nat) (w : World) (hn : ps.length = n) (hm : n ≤ 12) (hp : PgOk ps) (hr : PgRead w a ps) :
    Calls Try.prog 118 #[.slice a n c] w fun e w' => e = .returned (.int .i64 (pagesQ ps)) ∧ Below w.heap.size w w' := by
  have HN : Hid (ps.length = n) := hn
  have HR : Hid (PgRead w a ps) := hr
  have HP : Hid (PgOk ps) := hp
  clear hn hr hp
  go_enter Try.func118, Try.ntmps118
  go_wp2_with fail
  go_loopw [3] (fun i wr => ∃ j : Nat, j ≤ n ∧ i = .int .i64 j ∧ Hid (pagesQ ps = pagesQ (ps.drop j)) ∧ Below w.heap.size w wr) (fun i _ => n - (intOf i).toNat)
  case atStart => exact ⟨0, Nat.zero_le _, rfl, rfl, Below.refl _ _⟩
  case round =>
    obtain ⟨j, hj, rfl, hq, g⟩ := hrel
    by_cases hlt : j < n
    · obtain ⟨zs, hzs⟩ := at_lt' (rs := ps) (i := j) (by rw [HN.out]; exact hlt)
      obtain ⟨b, off, x, cx, rfl, e0, hcx, hx⟩ := HR.out.page hzs
      have HE : Hid (∀ W, Below w.heap.size w W → W.cell? ⟨b, off + j, none⟩ = some (.slice x zs.length cx) ∧ Reads W x zs) := fun W hW => ⟨(hW.cell (p := ⟨b, _, none⟩) (World.block_lt_of_cell? w _ e0)).trans e0, hx.below hW (Nat.le_refl _)⟩
      clear e0 hx
      have hjn : (j : Int) < (n : Int) := by omega
      obtain ⟨hz1, hz2⟩ := HP.out zs (List.mem_of_getElem? hzs)
      have hq1 : Hid (pagesQ ps = if pageC zs = 0 then pagesQ (ps.drop (j + 1)) else pageC zs) := by
        show _ = _
        rw [hq.out, drop_cons hzs]; rfl
      clear hq hzs
      obtain ⟨e0, hx⟩ := HE.out _ g
      have HX : Hid (Reads wr x zs) := hx
      have HZ : Hid (∀ z ∈ zs, 0 ≤ z ∧ z ≤ 255) := hz2
      clear hx hz2
      obtain ⟨m, hm0⟩ : ∃ m, m = zs.length := ⟨_, rfl⟩
      have HM0 : Hid (zs.length = m) := hm0.symm
      rw [← hm0] at e0 hz1 hcx HE
      clear hm0
      go_wp2_with fail
      refine (l2Fault_all x zs m cx _ HM0.out hz1 HX.out HZ.out).mono ?_
      rintro e w' ⟨rfl, hw'⟩
      subst w'
      clear e0
      obtain ⟨f, hf⟩ : ∃ f, f = fltOf zs := ⟨_, rfl⟩
      rw [← hf]
      by_cases hf0 : f = 0
      · subst hf0
        have hF := fine_of HZ.out hf.symm
        have hm64 : m = 64 := by rw [← HM0.out]; exact hF.pg.len
        subst hm64
        have hq2 : Hid (pagesQ ps = if badTo zs (nb zs 0) = true then 5 else pagesQ (ps.drop (j + 1))) := by
          show _ = _
          have : pageC zs = if badTo zs (nb zs 0) = true then 5 else 0 := by unfold pageC; rw [if_pos hf.symm]
          rw [hq1.out, this]
          by_cases hb : badTo zs (nb zs 0) = true
          · simp only [if_pos hb]; rw [if_neg (by decide)]
          · simp only [if_neg hb, if_true]
        have hfew := hF.few
        have HF : Hid (Fine zs) := hF
        obtain ⟨m, hm1⟩ : ∃ m, m = nb zs 0 := ⟨_, rfl⟩
        have HM : Hid (nb zs 0 = m) := hm1.symm
        rw [← hm1] at hfew
        clear hm1 hf hF hq1 HM0 hz1
        go_wp2_with fail
        go_loopw [5] (fun i wr => ∃ k : Nat, k ≤ m ∧ i = .int .i64 k ∧ Hid (badTo zs k = false) ∧ Below w.heap.size w wr) (fun i _ => m - (intOf i).toNat)
        case atStart => exact ⟨0, Nat.zero_le _, rfl, rfl, g⟩
        case round =>
          clear g HX
          obtain ⟨k, hk, rfl, hb, g⟩ := hrel
          obtain ⟨e0, hx⟩ := HE.out _ g
          have HX : Hid (Reads _ x zs) := hx
          clear hx
          go_wp2_with fail
          refine (l2Count_any x zs cx _ HX.out HF.out.pg).mono ?_
          rintro e w' ⟨rfl, hw'⟩
          subst w'
          rw [HM.out]
          by_cases hlt2 : k < m
          · have hkm : (k : Int) < (m : Int) := by omega
            go_wp2_with fail
            refine (l2Size_any x zs cx k _ HX.out HF.out.pg (by omega)).mono ?_
            rintro e w' ⟨rfl, hw'⟩
            subst w'
            have hse := HF.out.size_emp (s := k) (by rw [HM.out]; exact hlt2)
            cases he : empB zs k
            · have hbad : badAt zs k = !(readC (cellOf zs k)).2 := by unfold badAt; rw [he, read_ok]; simp
              have hl0 : nb zs (3 + 2 * k) ≠ 0 := fun e => by rw [hse.1 e] at he; cases he
              have hcl := l2CellC_any x zs cx k
              have hzc : ∀ z ∈ cellOf zs k, 0 ≤ z ∧ z ≤ 255 := fun z hz' => HZ.out z (List.mem_of_mem_drop (List.mem_of_mem_take hz'))
              have hclen := cellOf_length HF.out k (by rw [HM.out]; exact hlt2)
              have HCl : Hid (∀ W, Reads W x zs → Calls Try.prog 158 #[.slice x 64 cx, .int .i64 k] W fun e w' => ∃ a' d, e = .returned (.slice a' (nb zs (3 + 2 * k)) d) ∧ nb zs (3 + 2 * k) ≤ d ∧ Below W.heap.size W w' ∧ BytesIn W.heap.size w'.heap.size w' a' (cellOf zs k)) := fun W hW => l2CellC_any x zs cx k W hW HF.out hcx (by rw [HM.out]; exact hlt2) he
              obtain ⟨cq, cf, cp, cl, ct, ck, cv, cs, hu⟩ := celV_form (readC (cellOf zs k)).1
              have HRd : Hid (∀ W a' d, nb zs (3 + 2 * k) ≤ d → Reads W a' (cellOf zs k) → Calls Try.prog 157 #[.slice a' (nb zs (3 + 2 * k)) d] W fun e w' => e = .returned (.tuple #[.agg #[.int .i64 cq, .int .i64 cf, .int .i64 cp, .int .i64 cl, .int .i64 ct, .int .i64 ck, .int .i64 cv, .string cs], .bool (readC (cellOf zs k)).2]) ∧ Below W.heap.size W w') := fun W a' d hd hW => by
                have := l1Read_any a' (cellOf zs k) _ d W hclen hd hW hzc
                rw [hu] at this
                exact this
              generalize nb zs (3 + 2 * k) = l at HCl HRd hl0 ⊢
              have HBd : Hid (badAt zs k = !(readC (cellOf zs k)).2) := hbad
              generalize (readC (cellOf zs k)).2 = ok at HRd HBd
              have hlp : (0 : Int) < (l : Int) := by omega
              clear hse he hcl hzc hclen hu hbad
              go_wp2_with fail
              refine (HCl.out _ HX.out).mono ?_
              rintro e w2 ⟨a2, d2, rfl, hd2, g2, y2⟩
              have r2 := y2.reads
              have g3 := g.trans (g2.mono g.size)
              clear y2 g2 e0
              go_wp2_with fail
              refine (HRd.out _ a2 d2 hd2 r2).mono ?_
              rintro e w3 ⟨rfl, g4⟩
              have g5 := g3.trans (g4.mono g3.size)
              have hgs5 := g5.size
              clear r2 g4 g3
              cases ok
              · have HQ : Hid (pagesQ ps = 5) := by
                  show _ = _
                  rw [hq2.out, HM.out, if_pos (badTo_at (k := k) (by rw [HBd.out]; rfl) hlt2)]
                go_wp2_with fail
                go_ret
                exact ⟨by rw [HQ.out]; rfl, by go_grown⟩
              · have HB2 : Hid (badTo zs (k + 1) = false) := by show _ = _; simp only [badTo, hb.out, HBd.out]; rfl
                go_wp2_with fail
                go_roundw
                case rel => exact ⟨k + 1, by omega, by go_num, HB2, by go_grown⟩
                case measure => simp [intOf]; omega
            · have hl0 : nb zs (3 + 2 * k) = 0 := hse.2 he
              have HB2 : Hid (badTo zs (k + 1) = false) := by show _ = _; simp only [badTo, hb.out, badAt, he]; rfl
              rw [hl0]
              clear he hse hl0
              go_wp2_with fail
              go_roundw
              case rel => exact ⟨k + 1, by omega, by go_num, HB2, g⟩
              case measure => simp [intOf]; omega
          · have e : k = m := by omega
            subst e
            have hq3 : Hid (pagesQ ps = pagesQ (ps.drop (j + 1))) := by show _ = _; rw [hq2.out, HM.out, if_neg (by rw [hb.out]; decide)]
            go_wp2_with fail
            go_roundw
            case rel => exact ⟨j + 1, by omega, by go_num, hq3, g⟩
            case measure => simp [intOf]; omega
      · have HQ : Hid (pagesQ ps = f) := by
          show _ = _
          have : pageC zs = f := by unfold pageC; rw [← hf, if_neg hf0]
          rw [hq1.out, this, if_neg hf0]
        have df : (f != 0) = true := by simpa using hf0
        clear hf
        go_wp2_with fail
        go_ret
        exact ⟨by rw [HQ.out]; rfl, g⟩
    · have e : j = n := by omega
      subst e
      have HQ : Hid (pagesQ ps = 0) := by show _ = _; rw [hq.out, List.drop_of_length_le (by rw [HN.out]; exact Nat.le_refl _)]; rfl
      go_wp2_with fail
      go_ret
      exact ⟨by rw [HQ.out]; rfl, g⟩

end Go.Proofs.Ytonngopnhpmjaaa
