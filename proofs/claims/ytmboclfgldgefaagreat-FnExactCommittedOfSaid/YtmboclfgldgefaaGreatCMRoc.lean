/-
  The program's rowsOfCommits.
-/
import Derived.Test.YtmboclfgldgefaaGreatCMUnd
import Derived.Test.YtmboclfgldgefaaGreatCMIac
import Derived.Test.YtmboclfgldgefaaGreatCMPlr
import Derived.Test.YtmboclfgldgefaaGreatCMTxn

namespace Go.Proofs.YtmboclfgldgefaaGreat
open Go.RowKit Go.Maps
set_option linter.unusedVariables false
set_option maxRecDepth 20000

theorem iv_und {us : List Chg} (hl : us.length ≤ 60) (hal : ∀ c ∈ us, alQ c = 0) : ivQ us = 0 ∧ ivL us = bkL us 0 := by
  have h : ivQ us = 0 := by unfold ivQ; rw [if_neg (by omega)]; exact alF_all hal
  exact ⟨h, by unfold ivL; rw [if_pos h, bkL_zero]⟩

theorem fieldC (q : Int) (a : Option Addr) (l c : Nat) (W : World) : (Instr.field 89 (.agg #[.int .i64 q, .slice a l c]) 1).run Tryz.prog W = .ok (.slice a l c) W := by kernel_rfl

set_option maxHeartbeats 8000000 in
theorem rowsOfCommits_any (ra : Option Addr) (rs : List Rw) (rn rc : Nat) (a : Option Addr) (xs : List TxV) (n c : Nat) (nx : Int) (w : World) (hrn : rs.length = rn) (hrm : rn ≤ 1048576) (hrs : ∀ r ∈ rs, r.s.size ≤ 1048576) (hr : Rs rwE 4 w ra rs) (hn : xs.length = n) (hs : ∀ x ∈ xs, TxOk 1048576 x) (ht : txsQ xs = 0) (hx : TxRd w a xs) :
    Calls Tryz.prog 26 #[.agg #[.slice ra rn rc, .slice a n c, .int .i64 nx]] w fun e w' => AcPost rs (undL xs) w e w' := by
  have hc12 := (txs_parts ht).2.2
  have HB : Hid (∀ V, Below w.heap.size w V → Rs rwE 4 V ra rs) := fun V hV => hr.below hV (Nat.le_refl _)
  have HX : Hid (∀ V, Below w.heap.size w V → TxRd V a xs) := fun V hV => hx.below hV (Nat.le_refl _)
  have HN : Hid (xs.length = n) := hn
  have HA : Hid (∀ x ∈ xs, x.u.length ≤ 60 ∧ (∀ c ∈ x.u, alQ c = 0) ∧ ∀ c ∈ x.u, c.b.s.size ≤ 1048576 ∧ c.a.s.size ≤ 1048576) := fun x hx => ⟨by have h1 := cntU_mem hx; omega, txs_al ht x hx, (hs x hx).2.1⟩
  have HL : Hid (∀ j, (undL (xs.take j)).length ≤ 12) := fun j => by
    rw [undL_len]
    have h : cntU (xs.take j) ≤ cntU xs := by
      unfold cntU
      rw [List.map_take]
      have h := congrArg List.sum (List.take_append_drop j (xs.map fun x => x.u.length))
      rw [List.sum_append] at h
      omega
    omega
  have hac : Hid (∀ (V : World) (va : Option Addr) (vn vc : Nat), Below w.heap.size w V → (undL xs).length = vn → Rs chE 10 V va (undL xs) → Calls Tryz.prog 53 #[.slice ra rn rc, .slice va vn vc] V fun e w' => AcPost rs (undL xs) V e w') := fun V va vn vc hV hvn hva => by
    have h12 : (undL xs).length ≤ 12 := by rw [undL_len]; exact hc12
    exact implApplyChanges_any ra va rs (undL xs) rn vn rc vc V hrn hvn hrm (by omega) hrs (undL_size hs) (hr.below hV (Nat.le_refl _)) hva
  have hn4 : n ≤ 4 := by rw [← hn]; exact (txs_parts ht).1
  clear hrn hrs hr hn hs ht hx hc12
  go_enter Tryz.func26, Tryz.ntmps26
  go_upto_region 1 with (fail)
  generalize hY : World.alloc _ _ = Y
  have gY : Below w.heap.size w Y := by rw [← hY]; go_grown
  have A : P3 Y w.heap.size (.slice ra rn rc) (.slice a n c) (.int .i64 nx) := by rw [← hY]; exact ⟨by simp [go_sem], by simp [go_sem], by simp [go_sem]⟩
  have hO : Rc2 Y (w.heap.size + 1) := by rw [← hY]; exact ⟨by simp [go_sem], by simp [go_sem], by simp [go_sem], by simp [go_sem]⟩
  clear hY
  obtain ⟨ab, hab⟩ : ∃ ab, w.heap.size = ab := ⟨_, rfl⟩
  obtain ⟨rb, hrb⟩ : ∃ rb, ab + 1 = rb := ⟨_, rfl⟩
  have hwr : w.heap.size ≤ rb := by omega
  rw [hab] at A hO
  rw [hrb] at hO
  simp only [hab]
  try simp only [hrb]
  have HAB : Hid (w.heap.size = ab) := hab
  clear hab hrb
  have lA := A.lt
  have HP : Hid (∀ V, Below Y.heap.size Y V → P3 V ab (.slice ra rn rc) (.slice a n c) (.int .i64 nx)) := fun V hV => A.below hV lA
  have lO := hO.lt
  have HO : Hid (∀ V, Below Y.heap.size Y V → Rc2 V rb) := fun V hV => ⟨(hV.cell (p := ⟨rb, 0, none⟩) lO).trans hO.c0, (hV.cell (p := ⟨rb, 1, none⟩) lO).trans hO.c1, (hV.frozen (p := ⟨rb, 0, none⟩) lO).trans hO.f0, (hV.frozen (p := ⟨rb, 1, none⟩) lO).trans hO.f1⟩
  have hwY := gY.size
  obtain ⟨q0, q1, q2⟩ := A
  clear hO
  have hO0 : Y.ownsRow Y.heap.size 115 10 (.slice none 0 0) ([] : List Chg).length (flat chE []) := ownsRow_nil Y Y.heap.size 115 10
  go_wp2_with fail
  go_loopw [9, 3] (fun i v wr => ∃ (j : Nat) (o : List Chg), j ≤ n ∧ i = .int .i64 j ∧ Below Y.heap.size Y wr ∧ wr.ownsRow Y.heap.size 115 10 v o.length (flat chE o) ∧ Hid (undL (xs.take j) = o)) (fun i _ _ => n - (intOf i).toNat)
  case atStart => exact ⟨0, [], Nat.zero_le _, rfl, Below.refl _ _, hO0, rfl⟩
  case round =>
    obtain ⟨j, o, hj, rfl, gr, ho, hun⟩ := hrel
    clear hO0 q0 q1 q2
    by_cases hlt : j < n
    · obtain ⟨x, hx⟩ := at_ltT (xs := xs) (i := j) (by rw [HN.out]; exact hlt)
      obtain ⟨b, off, ua, ma, la, uc, mc, lc, e0, Z⟩ := (HX.out wr (gY.trans (gr.mono gY.size))).at hx
      obtain rfl := e0
      have hjn : (j : Int) < (n : Int) := by omega
      obtain ⟨hxu, hal, hsz⟩ := HA.out x (List.mem_of_getElem? hx)
      have HS : Hid (undL (xs.take (j + 1)) = o ++ bkL x.u 0) := by show _ = _; rw [undL_snoc hx, hun.out]
      have hol : o.length + (bkL x.u 0).length ≤ 12 := by
        have h := HL.out (j + 1)
        rw [HS.out, List.length_append] at h
        exact h
      obtain ⟨hq, hil⟩ := iv_und hxu hal
      obtain ⟨id, us, ms, ls⟩ := x
      obtain ⟨c0, c1, c2, c3, hu, _, _⟩ := Z
      dsimp only at c0 c1 c2 c3 hu hxu hal hsz HS hq hil hol
      have HU : Hid (∀ V, Below wr.heap.size wr V → Calls Tryz.prog 52 #[.slice ua us.length uc] V fun e w' => ∃ a6 c6 l6, e = .returned (.agg #[.int .i64 0, .slice a6 l6 c6]) ∧ Below V.heap.size V w' ∧ Rs chE 10 w' a6 (bkL us 0) ∧ (bkL us 0).length = l6) := fun V hV => by
        refine (implInverseOf_any ua us us.length uc V rfl (by omega) hsz (hu.below hV (Nat.le_refl _))).mono ?_
        rintro e w' ⟨a6, c6, h1, h2, h3⟩
        rw [hil] at h3 h1
        rw [hq] at h1
        exact ⟨a6, c6, _, h1, h2, h3.reads, rfl⟩
      clear hx hun hal hsz hq hil hu hxu
      generalize bkL us 0 = bs at HU HS hol
      obtain ⟨un, hun⟩ : ∃ un, us.length = un := ⟨_, rfl⟩
      obtain ⟨mn, hmn⟩ : ∃ mn, ms.length = mn := ⟨_, rfl⟩
      obtain ⟨ln, hln⟩ : ∃ ln, ls.length = ln := ⟨_, rfl⟩
      rw [hun] at HU c1
      rw [hmn] at c2
      rw [hln] at c3
      clear hun hmn hln
      go_upto_region 5 with (fail)
      generalize hY : World.alloc _ _ = Y5
      have g5 : Below wr.heap.size wr Y5 := by rw [← hY]; go_grown
      have hT : T4 Y5 wr.heap.size id ua un uc ma mn mc la ln lc := by rw [← hY]; exact ⟨by simp [go_sem], by simp [go_sem], by simp [go_sem], by simp [go_sem]⟩
      clear hY
      have ho := ownsRow_below ho g5
      have gr5 := gr.trans (g5.mono gr.size)
      have hcon := HU.out Y5 g5
      clear c0 c1 c2 c3 HU g5 gr
      generalize wr.heap.size = tb at hT ⊢
      obtain ⟨c0, c1, c2, c3⟩ := hT
      go_wp2_with (first | (at_builtin; fail) | fail)
      refine hcon.mono ?_
      rintro e w6 ⟨a6, c6, l6, rfl, g6, R6, hl6⟩
      have ho := ownsRow_below ho g6
      have gr6 := gr5.trans (g6.mono gr5.size)
      have hob0 : Y.heap.size ≤ w6.heap.size := gr6.size
      clear hcon c0 c1 c2 c3 g6 gr5
      have hfd := fieldC 0 a6 l6 c6
      go_wp2_with (at_builtin; refine wpList_append_sl elC _ rfl _ _ rfl Y.heap.size _ o bs a6 l6 c6 rfl rfl hl6 ho R6 (by omega) hob0 ?_)
      intro v' w' ho' hg' hob
      have g' : Below Y.heap.size Y w' := Below.grown gr6 hg' hob0 (fun k e => (World.ownsRow.lt ho k e).1)
      have HO2 : Hid (w'.ownsRow Y.heap.size 115 10 v' (o ++ bs).length (flat chE (o ++ bs))) := by
        show World.ownsRow _ _ _ _ _ _ _
        rw [List.length_append, hl6]
        exact ho'
      clear ho' hg' hob ho R6 gr6
      go_wp2_with fail
      go_roundw
      case rel => exact ⟨j + 1, o ++ bs, by omega, by go_num, g', HO2.out, HS⟩
      case measure => simp [intOf]; omega
    · have e : j = n := by omega
      subst e
      have HE : Hid (undL xs = o) := by
        have h := hun.out
        rw [List.take_of_length_le (by rw [HN.out]; exact Nat.le_refl _)] at h
        exact h
      obtain ⟨va, vc, rfl, _, hin, _⟩ := SlIn.ofRow chE_len ho
      have g := gY.trans (gr.mono gY.size)
      have hcon := hac.out wr va o.length vc g (by rw [HE.out]) (by rw [HE.out]; exact hin.reads)
      have hon : Hid (o.length ≤ 12) := by have h := HL.out j; rw [hun.out] at h; exact h
      clear hun ho hin HE
      generalize o.length = on at hcon ⊢
      obtain ⟨q0, q1, q2⟩ := HP.out wr gr
      go_wp2_with fail
      refine hcon.mono ?_
      rintro e w9 ⟨v9, rfl, g9, o9⟩
      have gr9 := gr.trans (g9.mono gr.size)
      have g := g.trans (g9.mono g.size)
      obtain ⟨a9, c9, rfl, _, _, _⟩ := SlIn.ofRow rwE_len o9
      have HO9 : Hid (w9.ownsRow wr.heap.size 76 4 (.slice a9 (acL rs (undL xs)).length c9) (acL rs (undL xs)).length (flat rwE (acL rs (undL xs)))) := o9
      have hwr9 : rb < wr.heap.size := Nat.lt_of_lt_of_le lO gr.size
      clear hcon o9 q0 q1 q2
      obtain ⟨l9, hl9⟩ : ∃ l9, (acL rs (undL xs)).length = l9 := ⟨_, rfl⟩
      have HL9 : Hid ((acL rs (undL xs)).length = l9) := hl9
      have HO9 : Hid (w9.ownsRow wr.heap.size 76 4 (.slice a9 l9 c9) l9 (flat rwE (acL rs (undL xs)))) := by have h := HO9.out; rw [hl9] at h; exact h
      rw [hl9]
      clear hl9
      obtain ⟨c0, c1, f0, f1⟩ := HO.out w9 gr9
      obtain ⟨Q, hQ⟩ : ∃ Q, acQ rs (undL xs) = Q := ⟨_, rfl⟩
      have HQ : Hid (acQ rs (undL xs) = Q) := hQ
      rw [hQ]
      clear hQ
      go_wp2_with fail
      refine bodyPost_ret (v := .agg #[.int .i64 Q, .slice a9 l9 c9]) (by simp [results, Tryz.results26, go_sem, *]) rfl ?_
      refine ⟨_, by rw [HQ.out], below_set2 g hwr _ _, ?_⟩
      rw [HL9.out]
      exact ownsRow_base (ownsRow_setCell_below (ownsRow_setCell_below HO9.out (by dsimp only; omega) _) (by dsimp only; omega) _) (Nat.le_trans gY.size gr.size)

end Go.Proofs.YtmboclfgldgefaaGreat

/-
  The program's PlainFault.
-/
namespace Go.Proofs.YtmboclfgldgefaaGreat
open Go.RowKit Go.Maps
set_option linter.unusedVariables false
set_option maxRecDepth 20000

def or3 (x y z : Int) : Int := if x = 0 then (if y = 0 then z else y) else x
structure C3i (w : World) (b : Nat) (x y z : Int) : Prop where
  c0 : w.cell? ⟨b, 0, none⟩ = some (.int .i64 x)
  c1 : w.cell? ⟨b, 1, none⟩ = some (.int .i64 y)
  c2 : w.cell? ⟨b, 2, none⟩ = some (.int .i64 z)
set_option maxHeartbeats 400000 in
theorem or64_3 (b : Nat) (x y z : Int) (w : World) (h0 : w.cell? ⟨b, 0, none⟩ = some (.int .i64 x)) (h1 : w.cell? ⟨b, 1, none⟩ = some (.int .i64 y)) (h2 : w.cell? ⟨b, 2, none⟩ = some (.int .i64 z)) :
    Calls Tryz.prog 21 #[.slice (some ⟨b, 0, none⟩) 3 3] w fun e w' => e = .returned (.int .i64 (or3 x y z)) ∧ w' = w := by
  by_cases hx : x = 0
  · subst hx
    by_cases hy : y = 0
    · subst hy
      have e : or3 0 0 z = z := rfl
      rw [e]
      clear e
      by_cases hz : z = 0
      · subst hz
        go_enter Tryz.func21, Tryz.ntmps21
        go_wp2_with fail
        refine wp_loop_rounds 4 ?_
        rw [rounds_succ]
        go_wp2_with fail
        rw [rounds_succ]
        go_wp2_with fail
        rw [rounds_succ]
        go_wp2_with fail
        rw [rounds_succ]
        go_wp2_with fail
        go_ret
        exact ⟨rfl, rfl⟩
      · go_enter Tryz.func21, Tryz.ntmps21
        go_wp2_with fail
        refine wp_loop_rounds 4 ?_
        rw [rounds_succ]
        go_wp2_with fail
        rw [rounds_succ]
        go_wp2_with fail
        rw [rounds_succ]
        go_wp2_with fail
        go_ret
        exact ⟨rfl, rfl⟩
    · have e : or3 0 y z = y := by unfold or3; simp [hy]
      rw [e]
      clear e
      go_enter Tryz.func21, Tryz.ntmps21
      go_wp2_with fail
      refine wp_loop_rounds 4 ?_
      rw [rounds_succ]
      go_wp2_with fail
      rw [rounds_succ]
      go_wp2_with fail
      go_ret
      exact ⟨rfl, rfl⟩
  · have e : or3 x y z = x := by unfold or3; simp [hx]
    rw [e]
    clear e
    go_enter Tryz.func21, Tryz.ntmps21
    go_wp2_with fail
    refine wp_loop_rounds 4 ?_
    rw [rounds_succ]
    go_wp2_with fail
    go_ret
    exact ⟨rfl, rfl⟩
theorem fieldR (q : Int) (a : Option Addr) (l c : Nat) (W : World) : (Instr.field 36 (.agg #[.int .i64 q, .slice a l c]) 0).run Tryz.prog W = .ok (.int .i64 q) W := by kernel_rfl
theorem nx_two (nx : Int) (xs : List TxV) : nxQ nx xs = 0 ∨ nxQ nx xs = 3 := by
  unfold nxQ
  split
  · split
    · exact .inr rfl
    · exact .inl rfl
  · exact .inr rfl
theorem pn_or {rs : List Rw} {xs : List TxV} {nx : Int} : (or3 (rowsQ rs) (txsQ xs) (nxQ nx xs) ≠ 0 → pnQ rs xs nx = or3 (rowsQ rs) (txsQ xs) (nxQ nx xs)) ∧ (or3 (rowsQ rs) (txsQ xs) (nxQ nx xs) = 0 → rowsQ rs = 0 ∧ txsQ xs = 0 ∧ pnQ rs xs nx = if 12 < (allRK rs xs).length then 2 else if (undR rs (undL xs)).isSome = true then 0 else 8) := by
  unfold pnQ or3
  by_cases h1 : rowsQ rs = 0
  · by_cases h2 : txsQ xs = 0
    · rcases nx_two nx xs with h3 | h3 <;> simp [h1, h2, h3]
    · simp [h1, h2]
  · simp [h1]

set_option maxHeartbeats 8000000 in
theorem implPlainFault_any (ra : Option Addr) (rs : List Rw) (rn rc : Nat) (a : Option Addr) (xs : List TxV) (n c : Nat) (nx : Int) (w : World) (hrn : rs.length = rn) (hrm : rn ≤ 1048576) (hrs : ∀ r ∈ rs, r.s.size ≤ 1048576) (hr : Rs rwE 4 w ra rs) (hn : xs.length = n) (hm : n ≤ 1048576) (hs : ∀ x ∈ xs, TxOk 1048576 x) (hx : TxRc w a xs) :
    Calls Tryz.prog 8 #[.agg #[.slice ra rn rc, .slice a n c, .int .i64 nx]] w fun e w' => e = .returned (.int .i64 (pnQ rs xs nx)) ∧ Below w.heap.size w w' := by
  have HRf : Hid (∀ V, Below w.heap.size w V → Calls Tryz.prog 22 #[.slice ra rn rc] V fun e w' => e = .returned (.int .i64 (rowsQ rs)) ∧ Below V.heap.size V w') := fun V hV => implRowsFault_any ra rs rn rc V hrn (by omega) (fun r hr => Nat.le_trans (hrs r hr) (by decide)) (hr.below hV (Nat.le_refl _))
  have HF : Hid (∀ V, Below w.heap.size w V → Calls Tryz.prog 23 #[.slice a n c] V fun e w' => e = .returned (.int .i64 (txsQ xs)) ∧ Below V.heap.size V w') := fun V hV => by
    have h := implTxsFault_any a xs n c V hn hm hs (hx.below hV (Nat.le_refl _))
    rw [txs_eq] at h
    exact h
  have HNf : Hid (∀ V, Below w.heap.size w V → Calls Tryz.prog 24 #[.int .i64 nx, .slice a n c] V fun e w' => e = .returned (.int .i64 (nxQ nx xs)) ∧ Below V.heap.size V w') := fun V hV => nextFault_any a xs n c nx V hn hm (hx.rd.below hV (Nat.le_refl _))
  have HKy : Hid (∀ V, Below w.heap.size w V → txsQ xs = 0 → Calls Tryz.prog 25 #[.slice ra rn rc, .slice a n c] V fun e w' => ∃ a' c', e = .returned (.slice a' (allRK rs xs).length c') ∧ Below V.heap.size V w') := fun V hV h0 => keysOf_any ra rs rn rc a xs n c V hrn hrm (hr.below hV (Nat.le_refl _)) hn (by rw [← hn]; exact (txs_parts h0).1) hs (hx.rd.below hV (Nat.le_refl _))
  have HRo : Hid (∀ V, Below w.heap.size w V → rowsQ rs = 0 → txsQ xs = 0 → ¬ 12 < (allRK rs xs).length → Calls Tryz.prog 26 #[.agg #[.slice ra rn rc, .slice a n c, .int .i64 nx]] V fun e w' => ∃ a' l' c', e = .returned (.agg #[.int .i64 (if (undR rs (undL xs)).isSome = true then 0 else 8), .slice a' l' c']) ∧ Below V.heap.size V w') := fun V hV h1 h2 h3 => by
    refine (rowsOfCommits_any ra rs rn rc a xs n c nx V hrn hrm hrs (hr.below hV (Nat.le_refl _)) hn hs h2 (hx.rd.below hV (Nat.le_refl _))).mono ?_
    intro e w' h
    obtain ⟨a', c', h4, h5, _⟩ := h.form
    rw [ac_und h1 h2 h3] at h4
    exact ⟨a', _, c', h4, h5⟩
  have HE : Hid ((or3 (rowsQ rs) (txsQ xs) (nxQ nx xs) ≠ 0 → pnQ rs xs nx = or3 (rowsQ rs) (txsQ xs) (nxQ nx xs)) ∧ (or3 (rowsQ rs) (txsQ xs) (nxQ nx xs) = 0 → rowsQ rs = 0 ∧ txsQ xs = 0 ∧ pnQ rs xs nx = if 12 < (allRK rs xs).length then 2 else if (undR rs (undL xs)).isSome = true then 0 else 8)) := pn_or
  obtain ⟨Q, hQ⟩ : ∃ Q, pnQ rs xs nx = Q := ⟨_, rfl⟩
  rw [hQ] at HE ⊢
  clear hrn hrs hr hn hs hx hQ
  generalize rowsQ rs = k1 at HRf HRo HE
  generalize txsQ xs = k2 at HF HKy HRo HE
  generalize nxQ nx xs = k3 at HNf HE
  generalize (allRK rs xs).length = al at HKy HRo HE
  generalize (undR rs (undL xs)).isSome = ok at HRo HE
  go_enter Tryz.func8, Tryz.ntmps8
  go_upto_region 1 with (fail)
  generalize hY : World.alloc _ _ = Y
  have gY : Below w.heap.size w Y := by rw [← hY]; go_grown
  have A : P3 Y w.heap.size (.slice ra rn rc) (.slice a n c) (.int .i64 nx) := by rw [← hY]; exact ⟨by simp [go_sem], by simp [go_sem], by simp [go_sem]⟩
  clear hY
  obtain ⟨ab, hab⟩ : ∃ ab, w.heap.size = ab := ⟨_, rfl⟩
  rw [hab] at A
  simp only [hab]
  have HAB : Hid (w.heap.size = ab) := hab
  clear hab
  have lA := A.lt
  have HP : Hid (∀ V, Below Y.heap.size Y V → P3 V ab (.slice ra rn rc) (.slice a n c) (.int .i64 nx)) := fun V hV => A.below hV lA
  clear A
  obtain ⟨k, hk⟩ : ∃ k, or3 k1 k2 k3 = k := ⟨_, rfl⟩
  have HK : Hid (or3 k1 k2 k3 = k) := hk
  rw [hk] at HE
  clear hk
  go_cut [3] from 4 (fun s wc => s = .int .i64 k ∧ Below Y.heap.size Y wc)
  case first =>
    clear HKy HRo HE
    refine wp_region_held_drew (S := fun V => P3 V ab (.slice ra rn rc) (.slice a n c) (.int .i64 nx) ∧ Below Y.heap.size Y V) (by kernel_rfl) ⟨HP.out _ (Below.refl _ _).drew, (Below.refl _ _).drew⟩ (fun hHeld => ?_)
    generalize World.drew _ = D0 at hHeld ⊢
    refine wpAnyH_take (i := 0) (v := ?v1) rfl (by kernel_rfl) (by kernel_rfl) (by kernel_rfl) (fun _ _ _ h => h) (Or.inl ⟨by kernel_rfl, ?h1⟩) hHeld ?_
    case h1 => intro u hSw; clear hSw; go_simp; try with_reducible rfl
    try simp only [List.getElem_toArray]
    try simp only [List.getElem_cons_succ]
    try simp only [List.getElem_cons_zero]
    try simp only [Act.put]
    try simp only [List.setIfInBounds_toArray]
    try simp only [List.set]
    refine wpAnyH_take (i := 1) (v := ?v2) rfl (by kernel_rfl) (by kernel_rfl) (by kernel_rfl) (fun _ _ _ h => h) (Or.inl ⟨by kernel_rfl, ?h2⟩) hHeld ?_
    case h2 => intro u hSw; (obtain ⟨q0, q1, q2⟩ := hSw.1); clear hSw; go_simp; try with_reducible rfl
    try simp only [List.getElem_toArray]
    try simp only [List.getElem_cons_succ]
    try simp only [List.getElem_cons_zero]
    try simp only [Act.put]
    try simp only [List.setIfInBounds_toArray]
    try simp only [List.set]
    refine wpAnyH_take (i := 3) (v := ?v3) rfl (by kernel_rfl) (by kernel_rfl) (by kernel_rfl) (fun _ _ _ h => h) (Or.inl ⟨by kernel_rfl, ?h3⟩) hHeld ?_
    case h3 => intro u hSw; clear hSw; go_simp; try with_reducible rfl
    try simp only [List.getElem_toArray]
    try simp only [List.getElem_cons_succ]
    try simp only [List.getElem_cons_zero]
    try simp only [Act.put]
    try simp only [List.setIfInBounds_toArray]
    try simp only [List.set]
    refine wpAnyH_take (i := 4) (v := ?v4) rfl (by kernel_rfl) (by kernel_rfl) (by kernel_rfl) (fun _ _ _ h => h) (Or.inl ⟨by kernel_rfl, ?h4⟩) hHeld ?_
    case h4 => intro u hSw; (obtain ⟨q0, q1, q2⟩ := hSw.1); clear hSw; go_simp; try with_reducible rfl
    try simp only [List.getElem_toArray]
    try simp only [List.getElem_cons_succ]
    try simp only [List.getElem_cons_zero]
    try simp only [Act.put]
    try simp only [List.setIfInBounds_toArray]
    try simp only [List.set]
    refine wpAnyH_take (i := 6) (v := ?v5) rfl (by kernel_rfl) (by kernel_rfl) (by kernel_rfl) (fun _ _ _ h => h) (Or.inl ⟨by kernel_rfl, ?h5⟩) hHeld ?_
    case h5 => intro u hSw; clear hSw; go_simp; try with_reducible rfl
    try simp only [List.getElem_toArray]
    try simp only [List.getElem_cons_succ]
    try simp only [List.getElem_cons_zero]
    try simp only [Act.put]
    try simp only [List.setIfInBounds_toArray]
    try simp only [List.set]
    refine wpAnyH_take (i := 7) (v := ?v6) rfl (by kernel_rfl) (by kernel_rfl) (by kernel_rfl) (fun _ _ _ h => h) (Or.inl ⟨by kernel_rfl, ?h6⟩) hHeld ?_
    case h6 => intro u hSw; (obtain ⟨q0, q1, q2⟩ := hSw.1); clear hSw; go_simp; try with_reducible rfl
    try simp only [List.getElem_toArray]
    try simp only [List.getElem_cons_succ]
    try simp only [List.getElem_cons_zero]
    try simp only [Act.put]
    try simp only [List.setIfInBounds_toArray]
    try simp only [List.set]
    refine wpAnyH_take (i := 8) (v := ?v7) rfl (by kernel_rfl) (by kernel_rfl) (by kernel_rfl) (fun _ _ _ h => h) (Or.inl ⟨by kernel_rfl, ?h7⟩) hHeld ?_
    case h7 => intro u hSw; clear hSw; go_simp; try with_reducible rfl
    try simp only [List.getElem_toArray]
    try simp only [List.getElem_cons_succ]
    try simp only [List.getElem_cons_zero]
    try simp only [Act.put]
    try simp only [List.setIfInBounds_toArray]
    try simp only [List.set]
    refine wpAnyH_take (i := 9) (v := ?v8) rfl (by kernel_rfl) (by kernel_rfl) (by kernel_rfl) (fun _ _ _ h => h) (Or.inl ⟨by kernel_rfl, ?h8⟩) hHeld ?_
    case h8 => intro u hSw; (obtain ⟨q0, q1, q2⟩ := hSw.1); clear hSw; go_simp; try with_reducible rfl
    try simp only [List.getElem_toArray]
    try simp only [List.getElem_cons_succ]
    try simp only [List.getElem_cons_zero]
    try simp only [Act.put]
    try simp only [List.setIfInBounds_toArray]
    try simp only [List.set]
    refine wpAnyH_ready (rs := [2]) (by kernel_rfl) (by simp) ?_
    refine AllReadyH.cons rfl (fun K hK => ?_) AllReadyH.nil
    go_simp
    go_wp2_with (go_at_call 22; refine (HRf.out _ (gY.trans (hHeld.2.mono gY.size))).mono ?_; rintro e W1 ⟨rfl, gg⟩)
    refine hK.out _ _ (⟨hHeld.1.below gg hHeld.1.lt, hHeld.2.trans (gg.mono hHeld.2.size)⟩) (fun hHeld => ?_)
    clear hK K
    clear gg
    try simp only [Act.put]
    try simp only [List.setIfInBounds_toArray]
    try simp only [List.set]
    refine wpAnyH_ready (rs := [5]) (by kernel_rfl) (by simp) ?_
    refine AllReadyH.cons rfl (fun K hK => ?_) AllReadyH.nil
    go_simp
    go_wp2_with (go_at_call 23; refine (HF.out _ (gY.trans (hHeld.2.mono gY.size))).mono ?_; rintro e W2 ⟨rfl, gg⟩)
    refine hK.out _ _ (⟨hHeld.1.below gg hHeld.1.lt, hHeld.2.trans (gg.mono hHeld.2.size)⟩) (fun hHeld => ?_)
    clear hK K
    clear gg
    try simp only [Act.put]
    try simp only [List.setIfInBounds_toArray]
    try simp only [List.set]
    refine wpAnyH_ready (rs := [10]) (by kernel_rfl) (by simp) ?_
    refine AllReadyH.cons rfl (fun K hK => ?_) AllReadyH.nil
    go_simp
    go_wp2_with (go_at_call 24; refine (HNf.out _ (gY.trans (hHeld.2.mono gY.size))).mono ?_; rintro e W3 ⟨rfl, gg⟩)
    refine hK.out _ _ (⟨hHeld.1.below gg hHeld.1.lt, hHeld.2.trans (gg.mono hHeld.2.size)⟩) (fun hHeld => ?_)
    clear hK K
    clear gg
    try simp only [Act.put]
    try simp only [List.setIfInBounds_toArray]
    try simp only [List.set]
    have gg : Below W3.heap.size W3 (W3.alloc (.cells #[.int .i64 k1, .int .i64 k2, .int .i64 k3] 2)) := by go_grown
    have hC : C3i (W3.alloc (.cells #[.int .i64 k1, .int .i64 k2, .int .i64 k3] 2)) W3.heap.size k1 k2 k3 := ⟨by simp [go_sem], by simp [go_sem], by simp [go_sem]⟩
    refine wpAnyH_ready (rs := [11]) (by kernel_rfl) (by simp) ?_
    refine AllReadyH.cons rfl (fun K hK => ?_) AllReadyH.nil
    go_simp
    refine hK.out _ _ ⟨hHeld.1.below gg hHeld.1.lt, hHeld.2.trans (gg.mono hHeld.2.size)⟩ (fun hHeld => ?_)
    clear hK K gg
    generalize W3.alloc (.cells #[.int .i64 k1, .int .i64 k2, .int .i64 k3] 2) = W4 at hHeld hC ⊢
    generalize W3.heap.size = cb at hC ⊢
    try simp only [Act.put]
    try simp only [List.setIfInBounds_toArray]
    try simp only [List.set]
    refine wpAnyH_ready (rs := [12]) (by kernel_rfl) (by simp) ?_
    refine AllReadyH.cons rfl (fun K hK => ?_) AllReadyH.nil
    go_simp
    go_wp2_with (go_at_call 21; refine (or64_3 cb k1 k2 k3 _ hC.c0 hC.c1 hC.c2).mono ?_; rintro e W5 ⟨rfl, hw⟩; subst hw)
    refine hK.out _ _ (hHeld) (fun hHeld => ?_)
    clear hK K
    try simp only [Act.put]
    try simp only [List.setIfInBounds_toArray]
    try simp only [List.set]
    refine wpAnyH_take (i := 13) (v := ?v9) rfl (by kernel_rfl) (by kernel_rfl) (by kernel_rfl) (fun _ _ _ h => h) (Or.inl ⟨by kernel_rfl, ?h9⟩) hHeld ?_
    case h9 => intro u hSw; clear hSw; go_simp; try with_reducible rfl
    try simp only [List.getElem_toArray]
    try simp only [List.getElem_cons_succ]
    try simp only [List.getElem_cons_zero]
    try simp only [Act.put]
    try simp only [List.setIfInBounds_toArray]
    try simp only [List.set]
    refine wpAnyH_done (by kernel_rfl) ?_ _
    go_wp2_with fail
    go_meet
    case rel => exact ⟨by rw [HK.out], hHeld.2⟩
  case rest =>
    obtain ⟨rfl, g⟩ := hcut
    clear HRf HF HNf HK
    by_cases h0 : k = 0
    case neg =>
      have d0 : (k != 0) = true := by simpa using h0
      have HQ : Hid (Q = k) := HE.out.1 h0
      clear HE HKy HRo
      go_wp2_with fail
      go_ret
      exact ⟨by rw [HQ.out]; rfl, gY.trans (g.mono gY.size)⟩
    obtain ⟨z1, z2, HQ0⟩ := HE.out.2 h0
    have HQ : Hid (Q = if 12 < al then 2 else if ok = true then 0 else 8) := HQ0
    have HKy2 := fun V hV => HKy.out V hV z2
    have HKy2 : Hid (∀ V, Below w.heap.size w V → Calls Tryz.prog 25 #[.slice ra rn rc, .slice a n c] V fun e w' => ∃ a' c', e = .returned (.slice a' al c') ∧ Below V.heap.size V w') := HKy2
    have HRo2 : Hid (∀ V, Below w.heap.size w V → ¬ 12 < al → Calls Tryz.prog 26 #[.agg #[.slice ra rn rc, .slice a n c, .int .i64 nx]] V fun e w' => ∃ a' l' c', e = .returned (.agg #[.int .i64 (if ok = true then 0 else 8), .slice a' l' c']) ∧ Below V.heap.size V w') := fun V hV h => HRo.out V hV z1 z2 h
    clear HE HQ0 HKy HRo z1 z2
    subst h0
    obtain ⟨q0, q1, q2⟩ := HP.out wc g
    have hcon := HKy2.out wc (gY.trans (g.mono gY.size))
    go_wp2_with fail
    refine hcon.mono ?_
    rintro e w3 ⟨a', c', rfl, g3⟩
    have g := g.trans (g3.mono g.size)
    clear hcon g3 q0 q1 q2 HKy2
    by_cases h12 : 12 < al
    · have d12 : (12 : Int) < (al : Int) := by omega
      have HQ2 : Hid (Q = 2) := by show _ = _; rw [HQ.out, if_pos h12]
      clear HQ HRo2 h12
      go_wp2_with fail
      go_ret
      exact ⟨by rw [HQ2.out]; rfl, gY.trans (g.mono gY.size)⟩
    have d12 : ¬ (12 : Int) < (al : Int) := by omega
    obtain ⟨q0, q1, q2⟩ := HP.out w3 g
    have hcon := HRo2.out w3 (gY.trans (g.mono gY.size)) h12
    have HQ2 : Hid (Q = if ok = true then 0 else 8) := by show _ = _; rw [HQ.out, if_neg h12]
    clear HQ HRo2 h12
    go_wp2_with fail
    refine hcon.mono ?_
    rintro e w4 ⟨a4, l4, c4, rfl, g4⟩
    have g := g.trans (g4.mono g.size)
    clear hcon g4 q0 q1 q2
    cases ok
    · have hf : (if false = true then (0 : Int) else 8) = 8 := rfl
      rw [hf]
      have hfd := fieldR 8 a4 l4 c4
      have HQ3 : Hid (Q = 8) := HQ2.out
      clear HQ2
      go_wp2_with fail
      go_ret
      exact ⟨by rw [HQ3.out]; rfl, gY.trans (g.mono gY.size)⟩
    · have hf : (if true = true then (0 : Int) else 8) = 0 := rfl
      rw [hf]
      have hfd := fieldR 0 a4 l4 c4
      have HQ3 : Hid (Q = 0) := HQ2.out
      clear HQ2
      go_wp2_with fail
      go_ret
      exact ⟨by rw [HQ3.out]; rfl, gY.trans (g.mono gY.size)⟩

end Go.Proofs.YtmboclfgldgefaaGreat
