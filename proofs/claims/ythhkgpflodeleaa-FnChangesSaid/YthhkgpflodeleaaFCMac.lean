/-
  Picked.
-/
import Derived.Test.YthhkgpflodeleaaFCLac
import Derived.Test.YthhkgpflodeleaaFCLdo
import Derived.Test.YthhkgpflodeleaaFCChq
import Derived.Test.YthhkgpflodeleaaFCHlq

namespace Go.Proofs.Ythhkgpflodeleaa
open Go.RowKit Go.Maps
set_option linter.unusedVariables false

set_option maxRecDepth 20000 in
set_option maxHeartbeats 4000000 in
theorem specApplyChanges_any (a a' : Option Addr) (rs : List Rw) (cs : List Chg) (n m c c' : Nat) (w : World) (hn : rs.length = n) (hn' : cs.length = m) (hm : n ≤ 1048576) (hm' : m ≤ 1048576) (hs : ∀ r ∈ rs, r.s.size ≤ 1048576) (hs' : ∀ x ∈ cs, x.b.s.size ≤ 1048576 ∧ x.a.s.size ≤ 1048576) (hr : Rs rwE 4 w a rs) (hr' : Rs chE 10 w a' cs) :
    Calls Try.prog 12 #[.slice a n c, .slice a' m c'] w fun e w' => AcPost rs cs w e w' := by
  have hO := RsO.new w
  have gX : Below w.heap.size w (w.alloc (.cells #[.int .i64 0, .slice none 0 0] 32)) := by go_grown
  have hlX : w.heap.size < (w.alloc (.cells #[.int .i64 0, .slice none 0 0] 32)).heap.size := by simp
  have HB : Hid (∀ W, Below w.heap.size w W → Rs rwE 4 W a rs) := fun W hW => hr.below hW (Nat.le_refl _)
  have HA : Hid (∀ W, Below w.heap.size w W → Rs chE 10 W a' cs) := fun W hW => hr'.below hW (Nat.le_refl _)
  have HN : Hid (rs.length = n) := hn
  have HM : Hid (cs.length = m) := hn'
  have HSm : Hid (∀ r ∈ rs, r.s.size ≤ maxLen) := fun r h => Nat.le_trans (hs r h) (by decide)
  have HSc : Hid (∀ x ∈ cs, x.b.s.size ≤ maxLen ∧ x.a.s.size ≤ maxLen) := fun x h => ⟨Nat.le_trans (hs' x h).1 (by decide), Nat.le_trans (hs' x h).2 (by decide)⟩
  obtain ⟨q1, hq1⟩ : ∃ q, q = rowsQ rs := ⟨_, rfl⟩
  have HQ1 : Hid (rowsQ rs = q1) := hq1.symm
  obtain ⟨X, hX0⟩ : ∃ X, w.alloc (.cells #[.int .i64 0, .slice none 0 0] 32) = X := ⟨_, rfl⟩
  rw [hX0] at hO gX hlX
  clear hr hr' hn hn' hs hs' hq1
  go_enter Try.func12, Try.ntmps12
  go_wp2_with fail
  refine (l6Rows_any a rs n c _ HN.out (by omega) HSm.out (HB.out _ gX)).mono ?_
  rintro e w1 ⟨rfl, g1⟩
  rw [HQ1.out]
  have hO := hO.below g1 hlX
  have hlX := Nat.lt_of_lt_of_le hlX g1.size
  have g := gX.trans (g1.mono gX.size)
  clear g1 gX hX0
  have hs0 := g.size
  by_cases h1 : q1 = 0
  · subst h1
    obtain ⟨hri, hr60⟩ := rowsQ_ris HQ1.out
    have HRi : Hid (RisL rs) := hri
    have gA : Below w1.heap.size w1 (w1.alloc (.cells #[] 44)) := by go_grown
    have hT2 := HB.out _ (g.trans (gA.mono g.size))
    have hL : (w1.alloc (.cells #[] 44)).ownsRow w1.heap.size 44 4 (.slice (some ⟨w1.heap.size, 0, none⟩) 0 0) ([] : List Rw).length (flat rwE []) := ownsRow_lit0 w1 44 4
    have hn1 : Hid (([] : List Rw).length + rs.length ≤ 100000000) := by show _ ≤ _; rw [List.length_nil]; omega
    have hn2 : Hid (w1.heap.size ≤ (w1.alloc (.cells #[] 44)).heap.size) := by show _ ≤ _; simp
    clear hri hr60
    go_wp2_with (at_builtin; refine wpList_append_sl elW _ rfl _ _ rfl w1.heap.size _ [] rs a n c rfl rfl HN.out hL hT2 hn1.out hn2.out ?_)
    intro v3 w3 ho3 hg3 hbk
    have g3 : Below w1.heap.size w1 w3 := Below.grown gA hg3 (by simp) (fun q e => (World.ownsRow.lt hL q e).1)
    obtain ⟨kg, kc, rfl⟩ := ownsRow_some ho3 (by rcases hbk with h | h <;> rw [h] <;> simp [Value.ownBlock])
    have HO3 : Hid (w3.ownsRow w1.heap.size 44 4 (.slice (some ⟨kg, 0, none⟩) rs.length kc) rs.length (flat rwE rs)) := ho3
    clear hg3 hbk hT2 hL gA ho3
    go_wp2_with fail
    go_loopw [7, 6] (fun i v wr => ∃ j : Nat, j ≤ m ∧ i = .int .i64 j ∧ Below w1.heap.size w1 wr ∧ ∃ g cap cur, v = .slice (some ⟨g, 0, none⟩) cur.length cap ∧ wr.ownsRow w1.heap.size 44 4 (.slice (some ⟨g, 0, none⟩) cur.length cap) cur.length (flat rwE cur) ∧ Hid (RisL cur) ∧ Hid (apR rs cs = apR cur (cs.drop j))) (fun i _ _ => m - (intOf i).toNat)
    case atStart => exact ⟨0, Nat.zero_le _, rfl, g3, kg, kc, rs, by simp, HO3.out, HRi, rfl⟩
    case round =>
      clear HO3 g3
      obtain ⟨j, hj, rfl, gr, kg, kc, cur, rfl, ho, hri, hap⟩ := hrel
      have hcl := hri.out.len
      have gw := g.trans (gr.mono g.size)
      have hOr := hO.below gr hlX
      by_cases hlt : j < m
      · obtain ⟨x, hx⟩ : ∃ x, cs[j]? = some x := ⟨_, List.getElem?_eq_getElem (by rw [HM.out]; exact hlt)⟩
        obtain ⟨b, off, rfl, X'⟩ := (HA.out _ gw).chg hx
        have hjn : (j : Int) < (m : Int) := by omega
        have hz := HSc.out x (List.mem_of_getElem? hx)
        have hcon := l6Change_any b (off + j * 10) x wr X' hz.1 hz.2
        have HAp : Hid (apR rs cs = if chQ x = 0 then (if fitB cur x = true then apR (doL cur x) (cs.drop (j + 1)) else (8, [])) else (chQ x, [])) := by
          show _ = _
          rw [hap.out, drop_chg hx]; rfl
        have HX : Hid (∀ W, Below wr.heap.size wr W → ChC W b (off + j * 10) x) := fun W hW => X'.below hW X'.lt
        obtain ⟨qc, hqc⟩ : ∃ q, q = chQ x := ⟨_, rfl⟩
        have HQc : Hid (chQ x = qc) := hqc.symm
        rw [← hqc] at hcon
        clear hx hz hqc hap X'
        by_cases hc0 : qc = 0
        · subst hc0
          go_upto_region 11 with (go_at_call 32; refine hcon.mono ?_; rintro e w' ⟨rfl, mm, rfl⟩)
          have gm : Below wr.heap.size wr (wr.drewN mm) := ⟨rfl, rfl, rfl, Nat.le_refl _, fun _ _ => rfl⟩
          obtain ⟨ka, kc', e', hcap, hin, _⟩ := SlIn.ofRow rwE_len ho
          cases e'
          have hdo := l6Do_any kg 0 cur.length kc cur b (off + j * 10) x (wr.drewN mm) rfl (by omega) hri.out.1 HQc.out (hin.reads.below gm (Nat.le_refl _)) (HX.out _ gm)
          have HRi2 : Hid (RisL (doL cur x)) := doL_ok hri.out HQc.out
          have hgs : w1.heap.size ≤ (wr.drewN mm).heap.size := gr.size
          have gq : Below w1.heap.size w1 (wr.drewN mm) := gr.trans (gm.mono gr.size)
          have hOr := hOr.below gm (Nat.lt_of_lt_of_le hlX gr.size)
          clear hcon ho hin gm HX
          generalize wr.drewN mm = wq at hdo gq hOr hgs ⊢
          generalize cur.length = cn at hdo ⊢
          rcases Bool.eq_false_or_eq_true (fitB cur x) with hft | hft
          · have HFt : Hid (fitB cur x = true) := hft
            have HAp2 : Hid (apR rs cs = apR (doL cur x) (cs.drop (j + 1))) := by show _ = _; rw [HAp.out, if_pos HQc.out, if_pos hft]
            have hdo2 : Calls Try.prog 33 #[.slice (some ⟨kg, 0, none⟩) cn kc, .pointer (some ⟨b, off + j * 10, none⟩)] wq fun e w' => ∃ g cap, e = .returned (.tuple #[.slice (some ⟨g, 0, none⟩) (doL cur x).length cap, .bool true]) ∧ Below wq.heap.size wq w' ∧ w'.ownsRow wq.heap.size 44 4 (.slice (some ⟨g, 0, none⟩) (doL cur x).length cap) (doL cur x).length (flat rwE (doL cur x)) := hdo.mono (fun e w' h => by
              rcases h with ⟨hb, h | ⟨_, g, cap, h2, h3⟩⟩
              · exact absurd (h.1.symm.trans HFt.out) (by decide)
              · exact ⟨g, cap, h2, hb, h3⟩)
            clear hdo hft HAp
            generalize doL cur x = nw at hdo2 HRi2 HAp2
            go_wp2_with (go_at_call 33; refine hdo2.mono ?_; rintro e w8 ⟨g8, c8, rfl, b8, o8⟩)
            have o8 := ownsRow_base o8 hgs
            have g8' := gq.trans (b8.mono gq.size)
            clear hdo2 hOr
            go_wp2_with fail
            go_roundw
            case rel => exact ⟨j + 1, by omega, by go_num, g8', _, _, nw, rfl, o8, HRi2, HAp2⟩
            case measure => simp [intOf]; omega
          · have HAp2 : Hid (apR rs cs = (8, [])) := by show _ = _; rw [HAp.out, if_pos HQc.out, if_neg (by rw [hft]; decide)]
            have HQ : Hid (acQ rs cs = 8) := acQ_code HQ1.out HAp2.out (by decide)
            have HFt : Hid (fitB cur x = false) := hft
            have hdo2 : Calls Try.prog 33 #[.slice (some ⟨kg, 0, none⟩) cn kc, .pointer (some ⟨b, off + j * 10, none⟩)] wq fun e w' => e = .returned (.tuple #[.slice none 0 0, .bool false]) ∧ Below wq.heap.size wq w' := hdo.mono (fun e w' h => by
              rcases h with ⟨hb, h | ⟨h, _⟩⟩
              · exact ⟨h.2, hb⟩
              · exact absurd (h.symm.trans HFt.out) (by decide))
            clear hdo hft HAp HRi2
            go_wp2_with (go_at_call 33; refine hdo2.mono ?_)
            rintro e w8 ⟨rfl, b8⟩
            have hOr := hOr.below b8 (Nat.lt_of_lt_of_le hlX gq.size)
            have g8 := g.trans ((gq.trans (b8.mono gq.size)).mono g.size)
            clear hdo2 b8 gq
            obtain ⟨c0, c1, f0, f1⟩ := hOr
            go_wp2_with fail
            refine bodyPost_ret (v := .agg #[.int .i64 8, .slice none 0 0]) (by simp [results, Try.results12, go_sem, *]) rfl ?_
            exact AcPost.code HQ.out (by decide) (by go_grown)
        · have d : (qc != 0) = true := by simpa using hc0
          have HAp2 : Hid (apR rs cs = (qc, [])) := by show _ = _; rw [HAp.out, HQc.out, if_neg hc0]
          have HQ : Hid (acQ rs cs = qc) := acQ_code HQ1.out HAp2.out hc0
          clear ho HAp
          obtain ⟨c0, c1, f0, f1⟩ := hOr
          go_wp2_with (go_at_call 32; refine hcon.mono ?_; rintro e w' ⟨rfl, mm, rfl⟩)
          have gm : Below w.heap.size w (wr.drewN mm) := gw.trans ⟨rfl, rfl, rfl, Nat.le_refl _, fun _ _ => rfl⟩
          refine bodyPost_ret (v := .agg #[.int .i64 qc, .slice none 0 0]) (by simp [results, Try.results12, go_sem, *]) rfl ?_
          exact AcPost.code HQ.out hc0 (by go_grown)
      · have hjn : ¬ (j : Int) < (m : Int) := by omega
        have HAp : Hid (apR rs cs = (0, cur)) := by
          show _ = _
          rw [hap.out, List.drop_of_length_le (by rw [HM.out]; omega)]; rfl
        have HQ : Hid (acQ rs cs = if 60 < cur.length then 2 else 0) := acQ_end HQ1.out HAp.out
        have HLc : Hid (acQ rs cs = 0 → acL rs cs = cur) := fun h => by unfold acL; rw [if_pos h, HAp.out]
        obtain ⟨cn, hcn⟩ : ∃ cn, cn = cur.length := ⟨_, rfl⟩
        have HCN : Hid (cur.length = cn) := hcn.symm
        rw [← hcn] at hcl ⊢
        have HO : Hid (wr.ownsRow w1.heap.size 44 4 (.slice (some ⟨kg, 0, none⟩) cn kc) cur.length (flat rwE cur)) := by rw [hcn]; exact ho
        clear ho hap hcn
        obtain ⟨c0, c1, f0, f1⟩ := hOr
        by_cases h60 : 60 < cn
        · have HQ2 : Hid (acQ rs cs = 2) := by show _ = _; rw [HQ.out, HCN.out, if_pos h60]
          have d60 : (60 : Int) < (cn : Int) := by omega
          go_wp2_with fail
          refine bodyPost_ret (v := .agg #[.int .i64 2, .slice none 0 0]) (by simp [results, Try.results12, go_sem, *]) rfl ?_
          exact AcPost.code HQ2.out (by decide) (by go_grown)
        · have HQ2 : Hid (acQ rs cs = 0) := by show _ = _; rw [HQ.out, HCN.out, if_neg h60]
          have d60 : ¬ (60 : Int) < (cn : Int) := by omega
          go_wp2_with fail
          refine bodyPost_ret (v := .agg #[.int .i64 0, .slice (some ⟨kg, 0, none⟩) cn kc]) (by simp [results, Try.results12, go_sem, *]) rfl ?_
          refine ⟨_, by rw [HQ2.out], by go_grown, ?_⟩
          rw [HLc.out HQ2.out]
          exact ownsRow_base (ownsRow_setCell_below (ownsRow_setCell_below HO.out (by dsimp only; omega) _) (by dsimp only; omega) _) (by omega)
  · have HQ : Hid (acQ rs cs = q1) := by show _ = _; rw [← HQ1.out]; exact acQ_bad (by rw [HQ1.out]; exact h1)
    have d : (q1 != 0) = true := by simpa using h1
    obtain ⟨c0, c1, f0, f1⟩ := hO
    go_wp2_with fail
    refine bodyPost_ret (v := .agg #[.int .i64 q1, .slice none 0 0]) (by simp [results, Try.results12, go_sem, *]) rfl ?_
    exact AcPost.code HQ.out h1 (by go_grown)

end Go.Proofs.Ythhkgpflodeleaa
