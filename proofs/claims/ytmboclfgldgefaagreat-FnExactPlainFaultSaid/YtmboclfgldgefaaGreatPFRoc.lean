/-
  The program's rowsOfCommits.
-/
import Derived.Test.YtmboclfgldgefaaGreatPFUnd
import Derived.Test.YtmboclfgldgefaaGreatPFIac
import Derived.Test.YtmboclfgldgefaaGreatPFPlr

namespace Go.Proofs.YtmboclfgldgefaaGreat
open Go.RowKit Go.Maps
set_option linter.unusedVariables false
set_option maxRecDepth 20000

theorem iv_und {us : List Chg} (hl : us.length ≤ 60) (hal : ∀ c ∈ us, alQ c = 0) : ivQ us = 0 ∧ ivL us = bkL us 0 := by
  have h : ivQ us = 0 := by unfold ivQ; rw [if_neg (by omega)]; exact alF_all hal
  exact ⟨h, by unfold ivL; rw [if_pos h, bkL_zero]⟩

theorem fieldC (q : Int) (a : Option Addr) (l c : Nat) (W : World) : (Instr.field 89 (.agg #[.int .i64 q, .slice a l c]) 1).run Tryz.prog W = .ok (.slice a l c) W := by kernel_rfl

set_option maxHeartbeats 8000000 in
theorem rowsOfCommits_any (ra : Option Addr) (rs : List Rw) (rn rc : Nat) (a : Option Addr) (xs : List TxV) (n c : Nat) (nx : Int) (w : World) (hrn : rs.length = rn) (hrm : rn ≤ 1048576) (hrs : ∀ r ∈ rs, r.s.size ≤ 1048576) (hr : Rs rwE 4 w ra rs) (hn : xs.length = n) (hs : ∀ x ∈ xs, TxOk 1048576 x) (ht : txsQ xs = 0) (hx : TxRd w a xs) :
    Calls Tryz.prog 26 #[.agg #[.slice ra rn rc, .slice a n c, .int .i64 nx]] w fun e w' => AcPost rs (undL xs) w e w' := by
  have hc12 := (txs_parts ht).2.2
  have HB : Hid (∀ V, Below w.heap.size w V → Rs rwE 4 V ra rs) := fun V hV => hr.below hV (Nat.le_refl _)
  have HX : Hid (∀ V, Below w.heap.size w V → TxRd V a xs) := fun V hV => hx.below hV (Nat.le_refl _)
  have HN : Hid (xs.length = n) := hn
  have HA : Hid (∀ x ∈ xs, x.u.length ≤ 60 ∧ (∀ c ∈ x.u, alQ c = 0) ∧ ∀ c ∈ x.u, c.b.s.size ≤ 1048576 ∧ c.a.s.size ≤ 1048576) := fun x hx => ⟨by have h1 := cntU_mem hx; omega, txs_al ht x hx, (hs x hx).2.1⟩
  have HL : Hid (∀ j, (undL (xs.take j)).length ≤ 12) := fun j => by
    rw [undL_len]
    have h : cntU (xs.take j) ≤ cntU xs := by
      unfold cntU
      rw [List.map_take]
      have h := congrArg List.sum (List.take_append_drop j (xs.map fun x => x.u.length))
      rw [List.sum_append] at h
      omega
    omega
  have hac : Hid (∀ (V : World) (va : Option Addr) (vn vc : Nat), Below w.heap.size w V → (undL xs).length = vn → Rs chE 10 V va (undL xs) → Calls Tryz.prog 53 #[.slice ra rn rc, .slice va vn vc] V fun e w' => AcPost rs (undL xs) V e w') := fun V va vn vc hV hvn hva => by
    have h12 : (undL xs).length ≤ 12 := by rw [undL_len]; exact hc12
    exact implApplyChanges_any ra va rs (undL xs) rn vn rc vc V hrn hvn hrm (by omega) hrs (undL_size hs) (hr.below hV (Nat.le_refl _)) hva
  have hn4 : n ≤ 4 := by rw [← hn]; exact (txs_parts ht).1
  clear hrn hrs hr hn hs ht hx hc12
  go_enter Tryz.func26, Tryz.ntmps26
  go_upto_region 1 with (fail)
  generalize hY : World.alloc _ _ = Y
  have gY : Below w.heap.size w Y := by rw [← hY]; go_grown
  have A : P3 Y w.heap.size (.slice ra rn rc) (.slice a n c) (.int .i64 nx) := by rw [← hY]; exact ⟨by simp [go_sem], by simp [go_sem], by simp [go_sem]⟩
  have hO : Rc2 Y (w.heap.size + 1) := by rw [← hY]; exact ⟨by simp [go_sem], by simp [go_sem], by simp [go_sem], by simp [go_sem]⟩
  clear hY
  obtain ⟨ab, hab⟩ : ∃ ab, w.heap.size = ab := ⟨_, rfl⟩
  obtain ⟨rb, hrb⟩ : ∃ rb, ab + 1 = rb := ⟨_, rfl⟩
  have hwr : w.heap.size ≤ rb := by omega
  rw [hab] at A hO
  rw [hrb] at hO
  simp only [hab]
  try simp only [hrb]
  have HAB : Hid (w.heap.size = ab) := hab
  clear hab hrb
  have lA := A.lt
  have HP : Hid (∀ V, Below Y.heap.size Y V → P3 V ab (.slice ra rn rc) (.slice a n c) (.int .i64 nx)) := fun V hV => A.below hV lA
  have lO := hO.lt
  have HO : Hid (∀ V, Below Y.heap.size Y V → Rc2 V rb) := fun V hV => ⟨(hV.cell (p := ⟨rb, 0, none⟩) lO).trans hO.c0, (hV.cell (p := ⟨rb, 1, none⟩) lO).trans hO.c1, (hV.frozen (p := ⟨rb, 0, none⟩) lO).trans hO.f0, (hV.frozen (p := ⟨rb, 1, none⟩) lO).trans hO.f1⟩
  have hwY := gY.size
  obtain ⟨q0, q1, q2⟩ := A
  clear hO
  have hO0 : Y.ownsRow Y.heap.size 115 10 (.slice none 0 0) ([] : List Chg).length (flat chE []) := ownsRow_nil Y Y.heap.size 115 10
  go_wp2_with fail
  go_loopw [9, 3] (fun i v wr => ∃ (j : Nat) (o : List Chg), j ≤ n ∧ i = .int .i64 j ∧ Below Y.heap.size Y wr ∧ wr.ownsRow Y.heap.size 115 10 v o.length (flat chE o) ∧ Hid (undL (xs.take j) = o)) (fun i _ _ => n - (intOf i).toNat)
  case atStart => exact ⟨0, [], Nat.zero_le _, rfl, Below.refl _ _, hO0, rfl⟩
  case round =>
    obtain ⟨j, o, hj, rfl, gr, ho, hun⟩ := hrel
    clear hO0 q0 q1 q2
    by_cases hlt : j < n
    · obtain ⟨x, hx⟩ := at_ltT (xs := xs) (i := j) (by rw [HN.out]; exact hlt)
      obtain ⟨b, off, ua, ma, la, uc, mc, lc, e0, Z⟩ := (HX.out wr (gY.trans (gr.mono gY.size))).at hx
      obtain rfl := e0
      have hjn : (j : Int) < (n : Int) := by omega
      obtain ⟨hxu, hal, hsz⟩ := HA.out x (List.mem_of_getElem? hx)
      have HS : Hid (undL (xs.take (j + 1)) = o ++ bkL x.u 0) := by show _ = _; rw [undL_snoc hx, hun.out]
      have hol : o.length + (bkL x.u 0).length ≤ 12 := by
        have h := HL.out (j + 1)
        rw [HS.out, List.length_append] at h
        exact h
      obtain ⟨hq, hil⟩ := iv_und hxu hal
      obtain ⟨id, us, ms, ls⟩ := x
      obtain ⟨c0, c1, c2, c3, hu, _, _⟩ := Z
      dsimp only at c0 c1 c2 c3 hu hxu hal hsz HS hq hil hol
      have HU : Hid (∀ V, Below wr.heap.size wr V → Calls Tryz.prog 52 #[.slice ua us.length uc] V fun e w' => ∃ a6 c6 l6, e = .returned (.agg #[.int .i64 0, .slice a6 l6 c6]) ∧ Below V.heap.size V w' ∧ Rs chE 10 w' a6 (bkL us 0) ∧ (bkL us 0).length = l6) := fun V hV => by
        refine (implInverseOf_any ua us us.length uc V rfl (by omega) hsz (hu.below hV (Nat.le_refl _))).mono ?_
        rintro e w' ⟨a6, c6, h1, h2, h3⟩
        rw [hil] at h3 h1
        rw [hq] at h1
        exact ⟨a6, c6, _, h1, h2, h3.reads, rfl⟩
      clear hx hun hal hsz hq hil hu hxu
      generalize bkL us 0 = bs at HU HS hol
      obtain ⟨un, hun⟩ : ∃ un, us.length = un := ⟨_, rfl⟩
      obtain ⟨mn, hmn⟩ : ∃ mn, ms.length = mn := ⟨_, rfl⟩
      obtain ⟨ln, hln⟩ : ∃ ln, ls.length = ln := ⟨_, rfl⟩
      rw [hun] at HU c1
      rw [hmn] at c2
      rw [hln] at c3
      clear hun hmn hln
      go_upto_region 5 with (fail)
      generalize hY : World.alloc _ _ = Y5
      have g5 : Below wr.heap.size wr Y5 := by rw [← hY]; go_grown
      have hT : T4 Y5 wr.heap.size id ua un uc ma mn mc la ln lc := by rw [← hY]; exact ⟨by simp [go_sem], by simp [go_sem], by simp [go_sem], by simp [go_sem]⟩
      clear hY
      have ho := ownsRow_below ho g5
      have gr5 := gr.trans (g5.mono gr.size)
      have hcon := HU.out Y5 g5
      clear c0 c1 c2 c3 HU g5 gr
      generalize wr.heap.size = tb at hT ⊢
      obtain ⟨c0, c1, c2, c3⟩ := hT
      go_wp2_with (first | (at_builtin; fail) | fail)
      refine hcon.mono ?_
      rintro e w6 ⟨a6, c6, l6, rfl, g6, R6, hl6⟩
      have ho := ownsRow_below ho g6
      have gr6 := gr5.trans (g6.mono gr5.size)
      have hob0 : Y.heap.size ≤ w6.heap.size := gr6.size
      clear hcon c0 c1 c2 c3 g6 gr5
      have hfd := fieldC 0 a6 l6 c6
      go_wp2_with (at_builtin; refine wpList_append_sl elC _ rfl _ _ rfl Y.heap.size _ o bs a6 l6 c6 rfl rfl hl6 ho R6 (by omega) hob0 ?_)
      intro v' w' ho' hg' hob
      have g' : Below Y.heap.size Y w' := Below.grown gr6 hg' hob0 (fun k e => (World.ownsRow.lt ho k e).1)
      have HO2 : Hid (w'.ownsRow Y.heap.size 115 10 v' (o ++ bs).length (flat chE (o ++ bs))) := by
        show World.ownsRow _ _ _ _ _ _ _
        rw [List.length_append, hl6]
        exact ho'
      clear ho' hg' hob ho R6 gr6
      go_wp2_with fail
      go_roundw
      case rel => exact ⟨j + 1, o ++ bs, by omega, by go_num, g', HO2.out, HS⟩
      case measure => simp [intOf]; omega
    · have e : j = n := by omega
      subst e
      have HE : Hid (undL xs = o) := by
        have h := hun.out
        rw [List.take_of_length_le (by rw [HN.out]; exact Nat.le_refl _)] at h
        exact h
      obtain ⟨va, vc, rfl, _, hin, _⟩ := SlIn.ofRow chE_len ho
      have g := gY.trans (gr.mono gY.size)
      have hcon := hac.out wr va o.length vc g (by rw [HE.out]) (by rw [HE.out]; exact hin.reads)
      have hon : Hid (o.length ≤ 12) := by have h := HL.out j; rw [hun.out] at h; exact h
      clear hun ho hin HE
      generalize o.length = on at hcon ⊢
      obtain ⟨q0, q1, q2⟩ := HP.out wr gr
      go_wp2_with fail
      refine hcon.mono ?_
      rintro e w9 ⟨v9, rfl, g9, o9⟩
      have gr9 := gr.trans (g9.mono gr.size)
      have g := g.trans (g9.mono g.size)
      obtain ⟨a9, c9, rfl, _, _, _⟩ := SlIn.ofRow rwE_len o9
      have HO9 : Hid (w9.ownsRow wr.heap.size 76 4 (.slice a9 (acL rs (undL xs)).length c9) (acL rs (undL xs)).length (flat rwE (acL rs (undL xs)))) := o9
      have hwr9 : rb < wr.heap.size := Nat.lt_of_lt_of_le lO gr.size
      clear hcon o9 q0 q1 q2
      obtain ⟨l9, hl9⟩ : ∃ l9, (acL rs (undL xs)).length = l9 := ⟨_, rfl⟩
      have HL9 : Hid ((acL rs (undL xs)).length = l9) := hl9
      have HO9 : Hid (w9.ownsRow wr.heap.size 76 4 (.slice a9 l9 c9) l9 (flat rwE (acL rs (undL xs)))) := by have h := HO9.out; rw [hl9] at h; exact h
      rw [hl9]
      clear hl9
      obtain ⟨c0, c1, f0, f1⟩ := HO.out w9 gr9
      obtain ⟨Q, hQ⟩ : ∃ Q, acQ rs (undL xs) = Q := ⟨_, rfl⟩
      have HQ : Hid (acQ rs (undL xs) = Q) := hQ
      rw [hQ]
      clear hQ
      go_wp2_with fail
      refine bodyPost_ret (v := .agg #[.int .i64 Q, .slice a9 l9 c9]) (by simp [results, Tryz.results26, go_sem, *]) rfl ?_
      refine ⟨_, by rw [HQ.out], below_set2 g hwr _ _, ?_⟩
      rw [HL9.out]
      exact ownsRow_base (ownsRow_setCell_below (ownsRow_setCell_below HO9.out (by dsimp only; omega) _) (by dsimp only; omega) _) (Nat.le_trans gY.size gr.size)

end Go.Proofs.YtmboclfgldgefaaGreat
